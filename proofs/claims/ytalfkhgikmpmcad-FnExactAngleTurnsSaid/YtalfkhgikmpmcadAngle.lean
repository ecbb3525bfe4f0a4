/- Contracts of the angles of points, for all float32. -/
import Derived.Test.YtalfkhgikmpmcadRoot
import Derived.Test.YtalfkhgikmpmcadFlush
import Derived.Test.YtalfkhgikmpmcadFloatAngle
import Derived.LoopTactic
import Derived.Outline
namespace Go.Proofs.Ytalfkhgikmpmcad
open Go.RowKit FloatKit

theorem half_chain {r p1 p2 p3 p4 p5 : Nat} (h1 : Eqv Ieee.double p1 (fop .mul .f64 r r)) (h2 : Eqv Ieee.double p2 (fop .add .f64 4607182418800017408 p1)) (h3 : Eqv Ieee.double p3 (sqrtC p2))
    (h4 : Eqv Ieee.double p4 (fop .add .f64 4607182418800017408 p3)) (h5 : Eqv Ieee.double p5 (fop .quo .f64 r p4)) : Eqv Ieee.double p5 (halfC r) := by
  have e2 : fop .add .f64 4607182418800017408 p1 = fop .add .f64 4607182418800017408 (fop .mul .f64 r r) := fop_eqv .add .f64 (Eqv.refl _ _) h1
  rw [e2] at h2
  rw [sqrtC_eqv h2] at h3
  have e4 : fop .add .f64 4607182418800017408 p3 = _ := fop_eqv .add .f64 (Eqv.refl _ _) h3
  rw [e4] at h4
  have e5 : fop .quo .f64 r p4 = _ := fop_eqv .quo .f64 (Eqv.refl _ _) h4
  rw [e5] at h5
  exact h5

theorem poly_chain {u r2 q q1 q2 q3 j : Nat} {n : Int} (hn : n = ((15 - 2 * j : Nat) : Int)) (hu : Eqv Ieee.double r2 u) (hq : Eqv Ieee.double q (polyC u j))
    (h1 : Eqv Ieee.double q1 (fop .quo .f64 4607182418800017408 (floatOfInt .f64 n))) (h2 : Eqv Ieee.double q2 (fop .mul .f64 r2 q)) (h3 : Eqv Ieee.double q3 (fop .sub .f64 q1 q2)) : Eqv Ieee.double q3 (polyC u (j + 1)) := by
  subst hn
  rw [fop_eqv .mul .f64 hu hq] at h2
  rw [fop_eqv .sub .f64 h1 h2] at h3
  exact h3

theorem flat_chain {t r p a b c : Nat} (hr : Eqv Ieee.double r (halfN 3 t)) (hp : Eqv Ieee.double p (polyC (fop .mul .f64 (halfN 3 t) (halfN 3 t)) 8))
    (h1 : Eqv Ieee.double a (fop .mul .f64 r p)) (h2 : Eqv Ieee.double b (fop .mul .f64 4620693217682128896 a)) (h3 : Eqv Ieee.double c (fop .quo .f64 b 4618760256179416344)) : Eqv Ieee.double c (flatC t) := by
  rw [fop_eqv .mul .f64 hr hp] at h1
  rw [fop_eqv .mul .f64 (Eqv.refl _ _) h1] at h2
  rw [fop_eqv .quo .f64 h2 (Eqv.refl _ _)] at h3
  exact h3

set_option maxHeartbeats 1000000 in
theorem flatAngle_any (t : Nat) (w : World) : Calls Try.prog 38 #[.float .f64 t] w (RetD (flatC t) w) := by
  have hid64 := run_same (P := Try.prog) 25 .f64 Try.underlying25
  go_enter Try.func38, Try.ntmps38
  go_wp2
  go_loopw [0, 6] (fun x i wr => ∃ k m r : Nat, k ≤ 3 ∧ i = .int .i64 k ∧ x = .float .f64 r ∧ Hid (Eqv Ieee.double r (halfN k t)) ∧ wr = w.drewN m) (fun _ i _ => 3 - (intOf i).toNat)
  case atStart => exact ⟨0, 0, t, by omega, rfl, rfl, Eqv.refl _ _, rfl⟩
  case round =>
    obtain ⟨k, m, r, hk, rfl, rfl, hE, rfl⟩ := hrel
    by_cases hlt : k < 3
    · go_wp2_with (first | (refine wpList_farith rfl _ _ _ _ _ rfl _ _ _ rfl rfl (by rfl) ?_; intro r2 j hr hlt2; have hE2 := Lib.hid hr; clear hr hlt2) | (go_at_call 57; refine (sqrt_any _ _).mono ?_; rintro e w' ⟨y, q, rfl, hy, _, rfl⟩; have hY := Lib.hid hy; clear hy))
      go_roundw
      case rel => exact ⟨k + 1, _, _, by omega, by go_num, rfl, by (show Eqv _ _ _; show Eqv _ _ (halfC (halfN k t)); rw [← halfC_eqv hE.out]; exact half_chain (Hid.out ‹_›) (Hid.out ‹_›) (Hid.out ‹_›) (Hid.out ‹_›) (Hid.out ‹_›)), rfl⟩
      case measure => simp [intOf]; omega
    · have hk3 : k = 3 := by omega
      have hE3 : Hid (Eqv Ieee.double r (halfN 3 t)) := by
        have := hE.out
        rw [hk3] at this
        exact this
      clear hk3 hE
      go_wp2_with (refine wpList_farith rfl _ _ _ _ _ rfl _ _ _ rfl rfl (by rfl) ?_; intro r2 j hr hlt2; have hE2 := Lib.hid hr; clear hr hlt2)
      have hU : Hid (Eqv Ieee.double r2 (fop .mul .f64 (halfN 3 t) (halfN 3 t))) := Lib.hid (hE2.out.trans (.inl (fop_eqv .mul .f64 hE3.out hE3.out)))
      clear hE2
      generalize hwo : w.drewN (m + j) = wo
      have hWo := Lib.hid hwo
      clear hwo
      go_loopw [4, 5] (fun p i wr => ∃ g m' q : Nat, g ≤ 8 ∧ i = .int .i64 (15 - 2 * (g : Int)) ∧ p = .float .f64 q ∧ Hid (Eqv Ieee.double q (polyC (fop .mul .f64 (halfN 3 t) (halfN 3 t)) g)) ∧ wr = wo.drewN m') (fun _ i _ => (intOf i + 2).toNat)
      case atStart => exact ⟨0, 0, 0, by omega, rfl, rfl, Eqv.refl _ _, rfl⟩
      case round =>
        obtain ⟨g, m', q, hg, rfl, rfl, hQ, rfl⟩ := hrel
        by_cases hlt8 : g < 8
        · have hn := Lib.hid (show (15 - 2 * (g : Int)) = ((15 - 2 * g : Nat) : Int) by omega)
          go_wp2_with (refine wpList_farith rfl _ _ _ _ _ rfl _ _ _ rfl rfl (by rfl) ?_; intro r3 j3 hr hlt2; have hE4 := Lib.hid hr; clear hr hlt2)
          go_roundw
          case rel => exact ⟨g + 1, _, _, by omega, by go_num, rfl, poly_chain hn.out hU.out hQ.out (Hid.out ‹_›) (Hid.out ‹_›) (Hid.out ‹_›), rfl⟩
          case measure => simp [intOf]; omega
        · have hg8 : g = 8 := by omega
          subst hg8
          go_wp2_with (refine wpList_farith rfl _ _ _ _ _ rfl _ _ _ rfl rfl (by rfl) ?_; intro r3 j3 hr hlt2; have hL := Lib.hid hlt2; have hE4 := Lib.hid hr; clear hr hlt2)
          go_ret
          exact ⟨_, _, rfl, flat_chain hE3.out hQ.out (Hid.out ‹_›) (Hid.out ‹_›) (Hid.out ‹_›), hL.out, by rw [← hWo.out]; simp only [World.drewN_drewN]; rfl⟩

theorem sub_chain {k x y z : Nat} (h : Eqv Ieee.double x y) (h' : Eqv Ieee.double z (fop .sub .f64 k x)) : Eqv Ieee.double z (fop .sub .f64 k y) := by
  rw [← fop_eqv .sub .f64 (Eqv.refl _ k) h]; exact h'

theorem neg_lt {x : Nat} (h : x < 2 ^ FloatKind.f64.format.width) : negC x < 18446744073709551616 := Nat.xor_lt_two_pow (n := 64) h (by decide)

theorem sub_zero64 {x : Nat} (h : finite Ieee.double x = true) : floatBits .sub .f64 x x = some 0 := by
  obtain ⟨s, m, e, hr⟩ := (finite_iff double_hb x).1 h
  show ((Ieee.double.read x).sum (Ieee.double.read x).opposite).map Ieee.double.write = some 0
  rw [hr]
  have hs : (Ieee.Datum.number s m e).sum (Ieee.Datum.number s m e).opposite = some (.number false 0 e) := by
    simp only [Ieee.Datum.opposite, Ieee.Datum.sum, Int.min_self, Int.sub_self, Int.toNat_zero]
    have : Ieee.signed s m 0 + Ieee.signed (!s) m 0 = 0 := by unfold Ieee.signed; cases s <;> simp <;> omega
    rw [this]; cases s <;> rfl
  rw [hs]; rfl

/-- The tangent of the flat angle of a point. -/
def tanC (Y X : Nat) : Nat := if (Ieee.double.order (Y % 9223372036854775808) (X % 9223372036854775808) == some .gt) then fop .quo .f64 (X % 9223372036854775808) (Y % 9223372036854775808) else fop .quo .f64 (Y % 9223372036854775808) (X % 9223372036854775808)

/-- The angle of a point that is not the origin. -/
def pointC (Y X : Nat) : Nat := angleC (Ieee.double.order (Y % 9223372036854775808) (X % 9223372036854775808) == some .gt) (Ieee.double.order X 0 == some .lt) (Ieee.double.order Y 0 == some .lt) (tanC Y X)

set_option maxHeartbeats 2000000 in
theorem l01AngleWide_point (Y X : Nat) (hY : finite Ieee.double Y = true) (hX : finite Ieee.double X = true) (hYl : Y < 18446744073709551616) (hXl : X < 18446744073709551616)
    (hz : ((Ieee.double.order X 0 == some .eq) && (Ieee.double.order Y 0 == some .eq)) = false) (w : World) :
    Calls Try.prog 56 #[.float .f64 Y, .float .f64 X] w (RetD (pointC Y X) w) := by
  have hid64 := run_same (P := Try.prog) 25 .f64 Try.underlying25
  have hsy := run_fop_some (P := Try.prog) 25 .f64 Y Y 0 (sub_zero64 hY)
  have hsx := run_fop_some (P := Try.prog) 25 .f64 X X 0 (sub_zero64 hX)
  have h00 : (FloatKind.f64.format.order 0 0 != some .eq) = false := by decide
  have hYL := Lib.hid hYl
  have hXL := Lib.hid hXl
  clear hY hX hYl hXl
  generalize hF : pointC Y X = F
  unfold pointC tanC at hF
  have hzx : (FloatKind.f64.format.order X 0 == some .eq) = (Ieee.double.order X 0 == some .eq) := rfl
  have hzy : (FloatKind.f64.format.order Y 0 == some .eq) = (Ieee.double.order Y 0 == some .eq) := rfl
  have hlx : (FloatKind.f64.format.order X 0 == some .lt) = (Ieee.double.order X 0 == some .lt) := rfl
  have hly : (FloatKind.f64.format.order Y 0 == some .lt) = (Ieee.double.order Y 0 == some .lt) := rfl
  have hov : (FloatKind.f64.format.order (Y % 9223372036854775808) (X % 9223372036854775808) == some .gt) = (Ieee.double.order (Y % 9223372036854775808) (X % 9223372036854775808) == some .gt) := rfl
  generalize (Ieee.double.order X 0 == some .lt) = xneg at *
  generalize (Ieee.double.order Y 0 == some .lt) = yneg at *
  generalize (Ieee.double.order (Y % 9223372036854775808) (X % 9223372036854775808) == some .gt) = over at *
  generalize (Ieee.double.order X 0 == some .eq) = zx at *
  generalize (Ieee.double.order Y 0 == some .eq) = zy at *
  have HF := Lib.hid hF
  clear hF
  have hz2 : zx = false ∨ (zx = true ∧ zy = false) := by cases zx <;> cases zy <;> simp_all
  clear hz
  have hXN := Lib.hid hlx
  have hYN := Lib.hid hly
  have hOV := Lib.hid hov
  clear hlx hly hov
  have hz3 : Hid (zx = false ∨ (zx = true ∧ zy = false)) := Lib.hid hz2
  clear hz2
  cases zx
  · go_enter Try.func56, Try.ntmps56
    go_wp2_with fail
    clear hsy hsx
    refine (abs_any _ hYL.out _).mono ?_
    rintro e w' ⟨m1, rfl, rfl⟩
    go_wp2_with fail
    refine (abs_any _ hXL.out _).mono ?_
    rintro e w' ⟨m2, rfl, rfl⟩
    have hov := hOV.out
    clear hOV
    cases over
    · go_wp2_with (refine wpList_farith rfl _ _ _ _ _ rfl _ _ _ rfl rfl (by rfl) ?_; intro r2 j hr hlt2; have hE2 := Lib.hid hr; clear hr hlt2)
      obtain ⟨T, hTT⟩ : ∃ T, Hid (T = fop .quo .f64 (Y % 9223372036854775808) (X % 9223372036854775808)) := ⟨_, rfl⟩
      have hT : Hid (Eqv Ieee.double r2 T) := by (show Eqv _ _ _; rw [hTT.out]; exact hE2.out)
      clear hE2
      generalize hw1 : w.drewN _ = w1
      have hW1 := Lib.hid hw1
      clear hw1
      go_loopw [8, 9] (fun x i wr => ∃ k m r : Nat, k ≤ 3 ∧ i = .int .i64 k ∧ x = .float .f64 r ∧ Hid (Eqv Ieee.double r (halfN k T)) ∧ wr = w1.drewN m) (fun _ i _ => 3 - (intOf i).toNat)
      case atStart => exact ⟨0, 0, _, by omega, rfl, rfl, hT, rfl⟩
      case round =>
        obtain ⟨k, m, r, hk, rfl, rfl, hE, rfl⟩ := hrel
        by_cases hlt : k < 3
        · go_wp2_with (first | (refine wpList_farith rfl _ _ _ _ _ rfl _ _ _ rfl rfl (by rfl) ?_; intro r3 j hr hlt2; have hE2 := Lib.hid hr; clear hr hlt2) | (go_at_call 57; refine (sqrt_any _ _).mono ?_; rintro e w' ⟨y, q, rfl, hy, _, rfl⟩; have hY := Lib.hid hy; clear hy))
          go_roundw
          case rel => exact ⟨k + 1, _, _, by omega, by go_num, rfl, by (show Eqv _ _ _; show Eqv _ _ (halfC (halfN k T)); rw [← halfC_eqv hE.out]; exact half_chain (Hid.out ‹_›) (Hid.out ‹_›) (Hid.out ‹_›) (Hid.out ‹_›) (Hid.out ‹_›)), rfl⟩
          case measure => simp [intOf]; omega
        · have hk3 : k = 3 := by omega
          have hE3 : Hid (Eqv Ieee.double r (halfN 3 T)) := by
            have := hE.out
            rw [hk3] at this
            exact this
          clear hk3 hE
          go_wp2_with (refine wpList_farith rfl _ _ _ _ _ rfl _ _ _ rfl rfl (by rfl) ?_; intro u2 j hr hlt2; have hE5 := Lib.hid hr; clear hr hlt2)
          have hU : Hid (Eqv Ieee.double u2 (fop .mul .f64 (halfN 3 T) (halfN 3 T))) := Lib.hid (hE5.out.trans (.inl (fop_eqv .mul .f64 hE3.out hE3.out)))
          clear hE5
          generalize hwo : w1.drewN (m + j) = wo
          have hWo := Lib.hid hwo
          clear hwo
          go_loopw [11, 12] (fun p i wr => ∃ g m' q : Nat, g ≤ 8 ∧ i = .int .i64 (15 - 2 * (g : Int)) ∧ p = .float .f64 q ∧ Hid (Eqv Ieee.double q (polyC (fop .mul .f64 (halfN 3 T) (halfN 3 T)) g)) ∧ wr = wo.drewN m') (fun _ i _ => (intOf i + 2).toNat)
          case atStart => exact ⟨0, 0, 0, by omega, rfl, rfl, Eqv.refl _ _, rfl⟩
          case round =>
            obtain ⟨g, m', q, hg, rfl, rfl, hQ, rfl⟩ := hrel
            by_cases hlt8 : g < 8
            · have hn := Lib.hid (show (15 - 2 * (g : Int)) = ((15 - 2 * g : Nat) : Int) by omega)
              go_wp2_with (refine wpList_farith rfl _ _ _ _ _ rfl _ _ _ rfl rfl (by rfl) ?_; intro r3 j3 hr hlt2; have hE4 := Lib.hid hr; clear hr hlt2)
              go_roundw
              case rel => exact ⟨g + 1, _, _, by omega, by go_num, rfl, poly_chain hn.out hU.out hQ.out (Hid.out ‹_›) (Hid.out ‹_›) (Hid.out ‹_›), rfl⟩
              case measure => simp [intOf]; omega
            have hg8 : g = 8 := by omega
            subst hg8
            cases xneg <;> cases yneg
            · have hx := hXN.out
              have hy := hYN.out
              clear hXN hYN
              go_wp2_with (refine wpList_farith rfl _ _ _ _ _ rfl _ _ _ rfl rfl (by rfl) ?_; intro r3 j3 hr hlt2; have hL := Lib.hid hlt2; have hE4 := Lib.hid hr; clear hr hlt2)
              go_ret
              exact ⟨_, _, rfl, by (rw [← HF.out]; show Eqv _ _ (angleC false false false (fop .quo .f64 _ _)); rw [← hTT.out]; exact (flat_chain hE3.out hQ.out (Hid.out ‹_›) (Hid.out ‹_›) (Hid.out ‹_›))), hL.out, by rw [← hWo.out, ← hW1.out]; simp only [World.drewN_drewN]; rfl⟩
            · have hx := hXN.out
              have hy := hYN.out
              clear hXN hYN
              go_wp2_with (refine wpList_farith rfl _ _ _ _ _ rfl _ _ _ rfl rfl (by rfl) ?_; intro r3 j3 hr hlt2; have hL := Lib.hid hlt2; have hE4 := Lib.hid hr; clear hr hlt2)
              go_ret
              exact ⟨_, _, rfl, by (rw [← HF.out]; show Eqv _ _ (angleC false false true (fop .quo .f64 _ _)); rw [← hTT.out]; exact (negC_eqv (flat_chain hE3.out hQ.out (Hid.out ‹_›) (Hid.out ‹_›) (Hid.out ‹_›)))), (neg_lt hL.out), by rw [← hWo.out, ← hW1.out]; simp only [World.drewN_drewN]; rfl⟩
            · have hx := hXN.out
              have hy := hYN.out
              clear hXN hYN
              go_wp2_with (refine wpList_farith rfl _ _ _ _ _ rfl _ _ _ rfl rfl (by rfl) ?_; intro r3 j3 hr hlt2; have hL := Lib.hid hlt2; have hE4 := Lib.hid hr; clear hr hlt2)
              go_ret
              exact ⟨_, _, rfl, by (rw [← HF.out]; show Eqv _ _ (angleC false true false (fop .quo .f64 _ _)); rw [← hTT.out]; exact (sub_chain (flat_chain hE3.out hQ.out (Hid.out ‹_›) (Hid.out ‹_›) (Hid.out ‹_›)) (Hid.out ‹_›))), hL.out, by rw [← hWo.out, ← hW1.out]; simp only [World.drewN_drewN]; rfl⟩
            · have hx := hXN.out
              have hy := hYN.out
              clear hXN hYN
              go_wp2_with (refine wpList_farith rfl _ _ _ _ _ rfl _ _ _ rfl rfl (by rfl) ?_; intro r3 j3 hr hlt2; have hL := Lib.hid hlt2; have hE4 := Lib.hid hr; clear hr hlt2)
              go_ret
              exact ⟨_, _, rfl, by (rw [← HF.out]; show Eqv _ _ (angleC false true true (fop .quo .f64 _ _)); rw [← hTT.out]; exact (negC_eqv (sub_chain (flat_chain hE3.out hQ.out (Hid.out ‹_›) (Hid.out ‹_›) (Hid.out ‹_›)) (Hid.out ‹_›)))), (neg_lt hL.out), by rw [← hWo.out, ← hW1.out]; simp only [World.drewN_drewN]; rfl⟩
    · go_wp2_with (refine wpList_farith rfl _ _ _ _ _ rfl _ _ _ rfl rfl (by rfl) ?_; intro r2 j hr hlt2; have hE2 := Lib.hid hr; clear hr hlt2)
      obtain ⟨T, hTT⟩ : ∃ T, Hid (T = fop .quo .f64 (X % 9223372036854775808) (Y % 9223372036854775808)) := ⟨_, rfl⟩
      have hT : Hid (Eqv Ieee.double r2 T) := by (show Eqv _ _ _; rw [hTT.out]; exact hE2.out)
      clear hE2
      generalize hw1 : w.drewN _ = w1
      have hW1 := Lib.hid hw1
      clear hw1
      go_loopw [8, 9] (fun x i wr => ∃ k m r : Nat, k ≤ 3 ∧ i = .int .i64 k ∧ x = .float .f64 r ∧ Hid (Eqv Ieee.double r (halfN k T)) ∧ wr = w1.drewN m) (fun _ i _ => 3 - (intOf i).toNat)
      case atStart => exact ⟨0, 0, _, by omega, rfl, rfl, hT, rfl⟩
      case round =>
        obtain ⟨k, m, r, hk, rfl, rfl, hE, rfl⟩ := hrel
        by_cases hlt : k < 3
        · go_wp2_with (first | (refine wpList_farith rfl _ _ _ _ _ rfl _ _ _ rfl rfl (by rfl) ?_; intro r3 j hr hlt2; have hE2 := Lib.hid hr; clear hr hlt2) | (go_at_call 57; refine (sqrt_any _ _).mono ?_; rintro e w' ⟨y, q, rfl, hy, _, rfl⟩; have hY := Lib.hid hy; clear hy))
          go_roundw
          case rel => exact ⟨k + 1, _, _, by omega, by go_num, rfl, by (show Eqv _ _ _; show Eqv _ _ (halfC (halfN k T)); rw [← halfC_eqv hE.out]; exact half_chain (Hid.out ‹_›) (Hid.out ‹_›) (Hid.out ‹_›) (Hid.out ‹_›) (Hid.out ‹_›)), rfl⟩
          case measure => simp [intOf]; omega
        · have hk3 : k = 3 := by omega
          have hE3 : Hid (Eqv Ieee.double r (halfN 3 T)) := by
            have := hE.out
            rw [hk3] at this
            exact this
          clear hk3 hE
          go_wp2_with (refine wpList_farith rfl _ _ _ _ _ rfl _ _ _ rfl rfl (by rfl) ?_; intro u2 j hr hlt2; have hE5 := Lib.hid hr; clear hr hlt2)
          have hU : Hid (Eqv Ieee.double u2 (fop .mul .f64 (halfN 3 T) (halfN 3 T))) := Lib.hid (hE5.out.trans (.inl (fop_eqv .mul .f64 hE3.out hE3.out)))
          clear hE5
          generalize hwo : w1.drewN (m + j) = wo
          have hWo := Lib.hid hwo
          clear hwo
          go_loopw [11, 12] (fun p i wr => ∃ g m' q : Nat, g ≤ 8 ∧ i = .int .i64 (15 - 2 * (g : Int)) ∧ p = .float .f64 q ∧ Hid (Eqv Ieee.double q (polyC (fop .mul .f64 (halfN 3 T) (halfN 3 T)) g)) ∧ wr = wo.drewN m') (fun _ i _ => (intOf i + 2).toNat)
          case atStart => exact ⟨0, 0, 0, by omega, rfl, rfl, Eqv.refl _ _, rfl⟩
          case round =>
            obtain ⟨g, m', q, hg, rfl, rfl, hQ, rfl⟩ := hrel
            by_cases hlt8 : g < 8
            · have hn := Lib.hid (show (15 - 2 * (g : Int)) = ((15 - 2 * g : Nat) : Int) by omega)
              go_wp2_with (refine wpList_farith rfl _ _ _ _ _ rfl _ _ _ rfl rfl (by rfl) ?_; intro r3 j3 hr hlt2; have hE4 := Lib.hid hr; clear hr hlt2)
              go_roundw
              case rel => exact ⟨g + 1, _, _, by omega, by go_num, rfl, poly_chain hn.out hU.out hQ.out (Hid.out ‹_›) (Hid.out ‹_›) (Hid.out ‹_›), rfl⟩
              case measure => simp [intOf]; omega
            have hg8 : g = 8 := by omega
            subst hg8
            cases xneg <;> cases yneg
            · have hx := hXN.out
              have hy := hYN.out
              clear hXN hYN
              go_wp2_with (refine wpList_farith rfl _ _ _ _ _ rfl _ _ _ rfl rfl (by rfl) ?_; intro r3 j3 hr hlt2; have hL := Lib.hid hlt2; have hE4 := Lib.hid hr; clear hr hlt2)
              go_ret
              exact ⟨_, _, rfl, by (rw [← HF.out]; show Eqv _ _ (angleC true false false (fop .quo .f64 _ _)); rw [← hTT.out]; exact (sub_chain (flat_chain hE3.out hQ.out (Hid.out ‹_›) (Hid.out ‹_›) (Hid.out ‹_›)) (Hid.out ‹_›))), hL.out, by rw [← hWo.out, ← hW1.out]; simp only [World.drewN_drewN]; rfl⟩
            · have hx := hXN.out
              have hy := hYN.out
              clear hXN hYN
              go_wp2_with (refine wpList_farith rfl _ _ _ _ _ rfl _ _ _ rfl rfl (by rfl) ?_; intro r3 j3 hr hlt2; have hL := Lib.hid hlt2; have hE4 := Lib.hid hr; clear hr hlt2)
              go_ret
              exact ⟨_, _, rfl, by (rw [← HF.out]; show Eqv _ _ (angleC true false true (fop .quo .f64 _ _)); rw [← hTT.out]; exact (negC_eqv (sub_chain (flat_chain hE3.out hQ.out (Hid.out ‹_›) (Hid.out ‹_›) (Hid.out ‹_›)) (Hid.out ‹_›)))), (neg_lt hL.out), by rw [← hWo.out, ← hW1.out]; simp only [World.drewN_drewN]; rfl⟩
            · have hx := hXN.out
              have hy := hYN.out
              clear hXN hYN
              go_wp2_with (refine wpList_farith rfl _ _ _ _ _ rfl _ _ _ rfl rfl (by rfl) ?_; intro r3 j3 hr hlt2; have hL := Lib.hid hlt2; have hE4 := Lib.hid hr; clear hr hlt2)
              go_ret
              exact ⟨_, _, rfl, by (rw [← HF.out]; show Eqv _ _ (angleC true true false (fop .quo .f64 _ _)); rw [← hTT.out]; exact (sub_chain (sub_chain (flat_chain hE3.out hQ.out (Hid.out ‹_›) (Hid.out ‹_›) (Hid.out ‹_›)) (Hid.out ‹_›)) (Hid.out ‹_›))), hL.out, by rw [← hWo.out, ← hW1.out]; simp only [World.drewN_drewN]; rfl⟩
            · have hx := hXN.out
              have hy := hYN.out
              clear hXN hYN
              go_wp2_with (refine wpList_farith rfl _ _ _ _ _ rfl _ _ _ rfl rfl (by rfl) ?_; intro r3 j3 hr hlt2; have hL := Lib.hid hlt2; have hE4 := Lib.hid hr; clear hr hlt2)
              go_ret
              exact ⟨_, _, rfl, by (rw [← HF.out]; show Eqv _ _ (angleC true true true (fop .quo .f64 _ _)); rw [← hTT.out]; exact (negC_eqv (sub_chain (sub_chain (flat_chain hE3.out hQ.out (Hid.out ‹_›) (Hid.out ‹_›) (Hid.out ‹_›)) (Hid.out ‹_›)) (Hid.out ‹_›)))), (neg_lt hL.out), by rw [← hWo.out, ← hW1.out]; simp only [World.drewN_drewN]; rfl⟩
  · cases zy
    · go_enter Try.func56, Try.ntmps56
      go_wp2_with fail
      clear hsy hsx
      refine (abs_any _ hYL.out _).mono ?_
      rintro e w' ⟨m1, rfl, rfl⟩
      go_wp2_with fail
      refine (abs_any _ hXL.out _).mono ?_
      rintro e w' ⟨m2, rfl, rfl⟩
      have hov := hOV.out
      clear hOV
      cases over
      · go_wp2_with (refine wpList_farith rfl _ _ _ _ _ rfl _ _ _ rfl rfl (by rfl) ?_; intro r2 j hr hlt2; have hE2 := Lib.hid hr; clear hr hlt2)
        obtain ⟨T, hTT⟩ : ∃ T, Hid (T = fop .quo .f64 (Y % 9223372036854775808) (X % 9223372036854775808)) := ⟨_, rfl⟩
        have hT : Hid (Eqv Ieee.double r2 T) := by (show Eqv _ _ _; rw [hTT.out]; exact hE2.out)
        clear hE2
        generalize hw1 : w.drewN _ = w1
        have hW1 := Lib.hid hw1
        clear hw1
        go_loopw [8, 9] (fun x i wr => ∃ k m r : Nat, k ≤ 3 ∧ i = .int .i64 k ∧ x = .float .f64 r ∧ Hid (Eqv Ieee.double r (halfN k T)) ∧ wr = w1.drewN m) (fun _ i _ => 3 - (intOf i).toNat)
        case atStart => exact ⟨0, 0, _, by omega, rfl, rfl, hT, rfl⟩
        case round =>
          obtain ⟨k, m, r, hk, rfl, rfl, hE, rfl⟩ := hrel
          by_cases hlt : k < 3
          · go_wp2_with (first | (refine wpList_farith rfl _ _ _ _ _ rfl _ _ _ rfl rfl (by rfl) ?_; intro r3 j hr hlt2; have hE2 := Lib.hid hr; clear hr hlt2) | (go_at_call 57; refine (sqrt_any _ _).mono ?_; rintro e w' ⟨y, q, rfl, hy, _, rfl⟩; have hY := Lib.hid hy; clear hy))
            go_roundw
            case rel => exact ⟨k + 1, _, _, by omega, by go_num, rfl, by (show Eqv _ _ _; show Eqv _ _ (halfC (halfN k T)); rw [← halfC_eqv hE.out]; exact half_chain (Hid.out ‹_›) (Hid.out ‹_›) (Hid.out ‹_›) (Hid.out ‹_›) (Hid.out ‹_›)), rfl⟩
            case measure => simp [intOf]; omega
          · have hk3 : k = 3 := by omega
            have hE3 : Hid (Eqv Ieee.double r (halfN 3 T)) := by
              have := hE.out
              rw [hk3] at this
              exact this
            clear hk3 hE
            go_wp2_with (refine wpList_farith rfl _ _ _ _ _ rfl _ _ _ rfl rfl (by rfl) ?_; intro u2 j hr hlt2; have hE5 := Lib.hid hr; clear hr hlt2)
            have hU : Hid (Eqv Ieee.double u2 (fop .mul .f64 (halfN 3 T) (halfN 3 T))) := Lib.hid (hE5.out.trans (.inl (fop_eqv .mul .f64 hE3.out hE3.out)))
            clear hE5
            generalize hwo : w1.drewN (m + j) = wo
            have hWo := Lib.hid hwo
            clear hwo
            go_loopw [11, 12] (fun p i wr => ∃ g m' q : Nat, g ≤ 8 ∧ i = .int .i64 (15 - 2 * (g : Int)) ∧ p = .float .f64 q ∧ Hid (Eqv Ieee.double q (polyC (fop .mul .f64 (halfN 3 T) (halfN 3 T)) g)) ∧ wr = wo.drewN m') (fun _ i _ => (intOf i + 2).toNat)
            case atStart => exact ⟨0, 0, 0, by omega, rfl, rfl, Eqv.refl _ _, rfl⟩
            case round =>
              obtain ⟨g, m', q, hg, rfl, rfl, hQ, rfl⟩ := hrel
              by_cases hlt8 : g < 8
              · have hn := Lib.hid (show (15 - 2 * (g : Int)) = ((15 - 2 * g : Nat) : Int) by omega)
                go_wp2_with (refine wpList_farith rfl _ _ _ _ _ rfl _ _ _ rfl rfl (by rfl) ?_; intro r3 j3 hr hlt2; have hE4 := Lib.hid hr; clear hr hlt2)
                go_roundw
                case rel => exact ⟨g + 1, _, _, by omega, by go_num, rfl, poly_chain hn.out hU.out hQ.out (Hid.out ‹_›) (Hid.out ‹_›) (Hid.out ‹_›), rfl⟩
                case measure => simp [intOf]; omega
              have hg8 : g = 8 := by omega
              subst hg8
              cases xneg <;> cases yneg
              · have hx := hXN.out
                have hy := hYN.out
                clear hXN hYN
                go_wp2_with (refine wpList_farith rfl _ _ _ _ _ rfl _ _ _ rfl rfl (by rfl) ?_; intro r3 j3 hr hlt2; have hL := Lib.hid hlt2; have hE4 := Lib.hid hr; clear hr hlt2)
                go_ret
                exact ⟨_, _, rfl, by (rw [← HF.out]; show Eqv _ _ (angleC false false false (fop .quo .f64 _ _)); rw [← hTT.out]; exact (flat_chain hE3.out hQ.out (Hid.out ‹_›) (Hid.out ‹_›) (Hid.out ‹_›))), hL.out, by rw [← hWo.out, ← hW1.out]; simp only [World.drewN_drewN]; rfl⟩
              · have hx := hXN.out
                have hy := hYN.out
                clear hXN hYN
                go_wp2_with (refine wpList_farith rfl _ _ _ _ _ rfl _ _ _ rfl rfl (by rfl) ?_; intro r3 j3 hr hlt2; have hL := Lib.hid hlt2; have hE4 := Lib.hid hr; clear hr hlt2)
                go_ret
                exact ⟨_, _, rfl, by (rw [← HF.out]; show Eqv _ _ (angleC false false true (fop .quo .f64 _ _)); rw [← hTT.out]; exact (negC_eqv (flat_chain hE3.out hQ.out (Hid.out ‹_›) (Hid.out ‹_›) (Hid.out ‹_›)))), (neg_lt hL.out), by rw [← hWo.out, ← hW1.out]; simp only [World.drewN_drewN]; rfl⟩
              · have hx := hXN.out
                have hy := hYN.out
                clear hXN hYN
                go_wp2_with (refine wpList_farith rfl _ _ _ _ _ rfl _ _ _ rfl rfl (by rfl) ?_; intro r3 j3 hr hlt2; have hL := Lib.hid hlt2; have hE4 := Lib.hid hr; clear hr hlt2)
                go_ret
                exact ⟨_, _, rfl, by (rw [← HF.out]; show Eqv _ _ (angleC false true false (fop .quo .f64 _ _)); rw [← hTT.out]; exact (sub_chain (flat_chain hE3.out hQ.out (Hid.out ‹_›) (Hid.out ‹_›) (Hid.out ‹_›)) (Hid.out ‹_›))), hL.out, by rw [← hWo.out, ← hW1.out]; simp only [World.drewN_drewN]; rfl⟩
              · have hx := hXN.out
                have hy := hYN.out
                clear hXN hYN
                go_wp2_with (refine wpList_farith rfl _ _ _ _ _ rfl _ _ _ rfl rfl (by rfl) ?_; intro r3 j3 hr hlt2; have hL := Lib.hid hlt2; have hE4 := Lib.hid hr; clear hr hlt2)
                go_ret
                exact ⟨_, _, rfl, by (rw [← HF.out]; show Eqv _ _ (angleC false true true (fop .quo .f64 _ _)); rw [← hTT.out]; exact (negC_eqv (sub_chain (flat_chain hE3.out hQ.out (Hid.out ‹_›) (Hid.out ‹_›) (Hid.out ‹_›)) (Hid.out ‹_›)))), (neg_lt hL.out), by rw [← hWo.out, ← hW1.out]; simp only [World.drewN_drewN]; rfl⟩
      · go_wp2_with (refine wpList_farith rfl _ _ _ _ _ rfl _ _ _ rfl rfl (by rfl) ?_; intro r2 j hr hlt2; have hE2 := Lib.hid hr; clear hr hlt2)
        obtain ⟨T, hTT⟩ : ∃ T, Hid (T = fop .quo .f64 (X % 9223372036854775808) (Y % 9223372036854775808)) := ⟨_, rfl⟩
        have hT : Hid (Eqv Ieee.double r2 T) := by (show Eqv _ _ _; rw [hTT.out]; exact hE2.out)
        clear hE2
        generalize hw1 : w.drewN _ = w1
        have hW1 := Lib.hid hw1
        clear hw1
        go_loopw [8, 9] (fun x i wr => ∃ k m r : Nat, k ≤ 3 ∧ i = .int .i64 k ∧ x = .float .f64 r ∧ Hid (Eqv Ieee.double r (halfN k T)) ∧ wr = w1.drewN m) (fun _ i _ => 3 - (intOf i).toNat)
        case atStart => exact ⟨0, 0, _, by omega, rfl, rfl, hT, rfl⟩
        case round =>
          obtain ⟨k, m, r, hk, rfl, rfl, hE, rfl⟩ := hrel
          by_cases hlt : k < 3
          · go_wp2_with (first | (refine wpList_farith rfl _ _ _ _ _ rfl _ _ _ rfl rfl (by rfl) ?_; intro r3 j hr hlt2; have hE2 := Lib.hid hr; clear hr hlt2) | (go_at_call 57; refine (sqrt_any _ _).mono ?_; rintro e w' ⟨y, q, rfl, hy, _, rfl⟩; have hY := Lib.hid hy; clear hy))
            go_roundw
            case rel => exact ⟨k + 1, _, _, by omega, by go_num, rfl, by (show Eqv _ _ _; show Eqv _ _ (halfC (halfN k T)); rw [← halfC_eqv hE.out]; exact half_chain (Hid.out ‹_›) (Hid.out ‹_›) (Hid.out ‹_›) (Hid.out ‹_›) (Hid.out ‹_›)), rfl⟩
            case measure => simp [intOf]; omega
          · have hk3 : k = 3 := by omega
            have hE3 : Hid (Eqv Ieee.double r (halfN 3 T)) := by
              have := hE.out
              rw [hk3] at this
              exact this
            clear hk3 hE
            go_wp2_with (refine wpList_farith rfl _ _ _ _ _ rfl _ _ _ rfl rfl (by rfl) ?_; intro u2 j hr hlt2; have hE5 := Lib.hid hr; clear hr hlt2)
            have hU : Hid (Eqv Ieee.double u2 (fop .mul .f64 (halfN 3 T) (halfN 3 T))) := Lib.hid (hE5.out.trans (.inl (fop_eqv .mul .f64 hE3.out hE3.out)))
            clear hE5
            generalize hwo : w1.drewN (m + j) = wo
            have hWo := Lib.hid hwo
            clear hwo
            go_loopw [11, 12] (fun p i wr => ∃ g m' q : Nat, g ≤ 8 ∧ i = .int .i64 (15 - 2 * (g : Int)) ∧ p = .float .f64 q ∧ Hid (Eqv Ieee.double q (polyC (fop .mul .f64 (halfN 3 T) (halfN 3 T)) g)) ∧ wr = wo.drewN m') (fun _ i _ => (intOf i + 2).toNat)
            case atStart => exact ⟨0, 0, 0, by omega, rfl, rfl, Eqv.refl _ _, rfl⟩
            case round =>
              obtain ⟨g, m', q, hg, rfl, rfl, hQ, rfl⟩ := hrel
              by_cases hlt8 : g < 8
              · have hn := Lib.hid (show (15 - 2 * (g : Int)) = ((15 - 2 * g : Nat) : Int) by omega)
                go_wp2_with (refine wpList_farith rfl _ _ _ _ _ rfl _ _ _ rfl rfl (by rfl) ?_; intro r3 j3 hr hlt2; have hE4 := Lib.hid hr; clear hr hlt2)
                go_roundw
                case rel => exact ⟨g + 1, _, _, by omega, by go_num, rfl, poly_chain hn.out hU.out hQ.out (Hid.out ‹_›) (Hid.out ‹_›) (Hid.out ‹_›), rfl⟩
                case measure => simp [intOf]; omega
              have hg8 : g = 8 := by omega
              subst hg8
              cases xneg <;> cases yneg
              · have hx := hXN.out
                have hy := hYN.out
                clear hXN hYN
                go_wp2_with (refine wpList_farith rfl _ _ _ _ _ rfl _ _ _ rfl rfl (by rfl) ?_; intro r3 j3 hr hlt2; have hL := Lib.hid hlt2; have hE4 := Lib.hid hr; clear hr hlt2)
                go_ret
                exact ⟨_, _, rfl, by (rw [← HF.out]; show Eqv _ _ (angleC true false false (fop .quo .f64 _ _)); rw [← hTT.out]; exact (sub_chain (flat_chain hE3.out hQ.out (Hid.out ‹_›) (Hid.out ‹_›) (Hid.out ‹_›)) (Hid.out ‹_›))), hL.out, by rw [← hWo.out, ← hW1.out]; simp only [World.drewN_drewN]; rfl⟩
              · have hx := hXN.out
                have hy := hYN.out
                clear hXN hYN
                go_wp2_with (refine wpList_farith rfl _ _ _ _ _ rfl _ _ _ rfl rfl (by rfl) ?_; intro r3 j3 hr hlt2; have hL := Lib.hid hlt2; have hE4 := Lib.hid hr; clear hr hlt2)
                go_ret
                exact ⟨_, _, rfl, by (rw [← HF.out]; show Eqv _ _ (angleC true false true (fop .quo .f64 _ _)); rw [← hTT.out]; exact (negC_eqv (sub_chain (flat_chain hE3.out hQ.out (Hid.out ‹_›) (Hid.out ‹_›) (Hid.out ‹_›)) (Hid.out ‹_›)))), (neg_lt hL.out), by rw [← hWo.out, ← hW1.out]; simp only [World.drewN_drewN]; rfl⟩
              · have hx := hXN.out
                have hy := hYN.out
                clear hXN hYN
                go_wp2_with (refine wpList_farith rfl _ _ _ _ _ rfl _ _ _ rfl rfl (by rfl) ?_; intro r3 j3 hr hlt2; have hL := Lib.hid hlt2; have hE4 := Lib.hid hr; clear hr hlt2)
                go_ret
                exact ⟨_, _, rfl, by (rw [← HF.out]; show Eqv _ _ (angleC true true false (fop .quo .f64 _ _)); rw [← hTT.out]; exact (sub_chain (sub_chain (flat_chain hE3.out hQ.out (Hid.out ‹_›) (Hid.out ‹_›) (Hid.out ‹_›)) (Hid.out ‹_›)) (Hid.out ‹_›))), hL.out, by rw [← hWo.out, ← hW1.out]; simp only [World.drewN_drewN]; rfl⟩
              · have hx := hXN.out
                have hy := hYN.out
                clear hXN hYN
                go_wp2_with (refine wpList_farith rfl _ _ _ _ _ rfl _ _ _ rfl rfl (by rfl) ?_; intro r3 j3 hr hlt2; have hL := Lib.hid hlt2; have hE4 := Lib.hid hr; clear hr hlt2)
                go_ret
                exact ⟨_, _, rfl, by (rw [← HF.out]; show Eqv _ _ (angleC true true true (fop .quo .f64 _ _)); rw [← hTT.out]; exact (negC_eqv (sub_chain (sub_chain (flat_chain hE3.out hQ.out (Hid.out ‹_›) (Hid.out ‹_›) (Hid.out ‹_›)) (Hid.out ‹_›)) (Hid.out ‹_›)))), (neg_lt hL.out), by rw [← hWo.out, ← hW1.out]; simp only [World.drewN_drewN]; rfl⟩
    · exact absurd hz3.out (by simp)

/-- What an angle of a point is. -/
def RetAngle (y x : Nat) (w : World) (e : Ending) (w' : World) : Prop := ∃ d r n, e = .returned (.float .f32 r) ∧ w' = w.drewN n ∧
  (if finite Ieee.single y && finite Ieee.single x then (if (Ieee.single.order x 0 == some .eq) && (Ieee.single.order y 0 == some .eq) then r = 0 else Eqv Ieee.double d (pointC (widen y) (widen x)) ∧ Nar d r) else isNaN Ieee.single r = true)

theorem RetAngle.point {y x : Nat} {w : World} {d r n : Nat} (hy : finite Ieee.single y = true) (hx : finite Ieee.single x = true) (hz : ((Ieee.single.order x 0 == some .eq) && (Ieee.single.order y 0 == some .eq)) = false)
    (h : Eqv Ieee.double d (pointC (widen y) (widen x))) (h2 : Nar d r) : RetAngle y x w (.returned (.float .f32 r)) (w.drewN n) :=
  ⟨d, r, n, rfl, rfl, by rw [hy, hx, hz]; exact ⟨h, h2⟩⟩
theorem RetAngle.origin {y x : Nat} {w : World} {n : Nat} (hy : finite Ieee.single y = true) (hx : finite Ieee.single x = true) (hz : ((Ieee.single.order x 0 == some .eq) && (Ieee.single.order y 0 == some .eq)) = true) :
    RetAngle y x w (.returned (.float .f32 0)) (w.drewN n) :=
  ⟨0, 0, n, rfl, rfl, by rw [hy, hx, hz]; rfl⟩
theorem RetAngle.none {y x : Nat} {w : World} {r n : Nat} (h : (finite Ieee.single y && finite Ieee.single x) = false) (hr : isNaN Ieee.single r = true) :
    RetAngle y x w (.returned (.float .f32 r)) (w.drewN n) :=
  ⟨0, r, n, rfl, rfl, by rw [h]; exact hr⟩

theorem mag_abs (x : Nat) : mag (x % 9223372036854775808) = mag x := by unfold mag; rw [Nat.mod_mod]

/-- The angle of a point is narrowed without overflow. -/
theorem pointC_mag {y x : Nat} (hy : finite Ieee.single y = true) (hx : finite Ieee.single x = true) (hz : ((Ieee.single.order x 0 == some .eq) && (Ieee.single.order y 0 == some .eq)) = false) : Mag 1102 (pointC (widen y) (widen x)) := by
  have mabs : ∀ z, finite Ieee.single z = true → Mag 1202 (widen z % 9223372036854775808) := fun z hz => by
    have h := Mag.widen (K := 1202) hz (by omega) (by omega)
    refine ⟨?_, by rw [mag_abs]; exact h.2⟩
    have := nan_mod double_hb (widen z)
    rw [double_sw] at this
    rw [this]; exact h.1
  have hy1 := mabs y hy
  have hx1 := mabs x hx
  have zero : ∀ z, finite Ieee.single z = true → mag (widen z % 9223372036854775808) = 0 → (Ieee.single.order z 0 == some .eq) = true := by
    intro z hz h0
    have hw0 : widen 0 = 0 := by decide
    have h1 := order_widen (finite_nan hz) (show isNaN Ieee.single 0 = false by decide)
    rw [hw0] at h1
    rw [← h1]
    have h2 : widen z % 9223372036854775808 = 0 := by
      unfold mag at h0
      rw [Nat.mod_mod] at h0
      exact rungVal_inj (f := Ieee.double) (h0.trans (rungVal_zero Ieee.double).symm)
    have hn := widen_not_nan (finite_nan hz)
    rw [order_sval double_hb hn (by decide)]
    have s0 : sval Ieee.double 0 = 0 := by decide
    have s1 : sval Ieee.double (widen z) = 0 := by
      unfold sval
      rw [double_sw, h2, rungVal_zero]
      split <;> rfl
    rw [s0, s1]; rfl
  unfold pointC
  refine angleC_mag ?_ _ _ _
  unfold tanC
  have hle : ∀ z, isNaN Ieee.double z = false → z < 9223372036854775808 → z ≤ Ieee.double.infRung := fun z hn hl => by
    have := nan_lt_of double_hb hn
    rwa [double_sw, Nat.mod_eq_of_lt hl] at this
  have hyl := hle _ hy1.1 (Nat.mod_lt _ (by omega))
  have hxl := hle _ hx1.1 (Nat.mod_lt _ (by omega))
  rw [order_pos double_hb hyl hxl]
  have magv : ∀ z, mag (z % 9223372036854775808) = rungVal Ieee.double (z % 9223372036854775808) := fun z => by unfold mag; rw [Nat.mod_mod]
  by_cases hgt : widen x % 9223372036854775808 < widen y % 9223372036854775808
  · have hc : compare (widen y % 9223372036854775808) (widen x % 9223372036854775808) = .gt := Nat.compare_eq_gt.2 hgt
    rw [hc]
    refine ratio_mag hy1 ?_ hx1.1 ?_
    · rw [magv, magv]; exact Nat.le_of_lt (rungVal_lt hgt)
    · rw [magv]
      have := rungVal_lt (f := Ieee.double) hgt
      omega
  · have hc : (some (compare (widen y % 9223372036854775808) (widen x % 9223372036854775808)) == some Ordering.gt) = false := by
      rw [beq_eq_false_iff_ne]
      intro h
      exact hgt (Nat.compare_eq_gt.1 (Option.some.inj h))
    rw [hc]
    refine ratio_mag hx1 ?_ hy1.1 ?_
    · rw [magv, magv]; exact rungVal_le_iff.2 (by omega)
    · intro h0
      have hx0 := zero x hx h0
      have hy0 := zero y hy (by
        rw [magv] at h0 ⊢
        have := (rungVal_le_iff (f := Ieee.double)).2 (show widen y % 9223372036854775808 ≤ widen x % 9223372036854775808 by omega)
        omega)
      rw [hx0, hy0] at hz
      cases hz

theorem angle_same {y x : Nat} {w1 w2 w1' w2' : World} {e1 e2 : Ending} (h1 : RetAngle y x w1 e1 w1') (h2 : RetAngle y x w2 e2 w2') :
    ∃ r1 r2 n1 n2, e1 = .returned (.float .f32 r1) ∧ e2 = .returned (.float .f32 r2) ∧ w1' = w1.drewN n1 ∧ w2' = w2.drewN n2 ∧ Eqv Ieee.single r1 r2 := by
  obtain ⟨d1, r1, n1, rfl, rfl, h1⟩ := h1
  obtain ⟨d2, r2, n2, rfl, rfl, h2⟩ := h2
  refine ⟨r1, r2, n1, n2, rfl, rfl, rfl, rfl, ?_⟩
  cases hf : (finite Ieee.single y && finite Ieee.single x)
  · rw [hf] at h1 h2
    exact .inr ⟨h1, h2⟩
  · rw [hf] at h1 h2
    simp only [if_true] at h1 h2
    cases hz : ((Ieee.single.order x 0 == some .eq) && (Ieee.single.order y 0 == some .eq))
    · rw [hz] at h1 h2
      simp only [Bool.false_eq_true, if_false] at h1 h2
      obtain ⟨hy, hx⟩ := (Bool.and_eq_true _ _ ▸ hf : finite Ieee.single y = true ∧ finite Ieee.single x = true)
      have hm := pointC_mag hy hx hz
      have e := h2.1.eq hm.1
      exact Nar.calm h1.2 h2.2 (h1.1.trans h2.1.symm) (.inr (.inr ⟨1102, by omega, by rw [e]; exact hm⟩))
    · rw [hz] at h1 h2
      simp only [if_true] at h1 h2
      exact .inl (h1.trans h2.symm)
end Go.Proofs.Ytalfkhgikmpmcad
