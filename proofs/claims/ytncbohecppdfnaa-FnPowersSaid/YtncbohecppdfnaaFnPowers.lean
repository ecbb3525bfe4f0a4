/- The power and the logarithm of numbers lead back, and the power of a sum is the product: the law holds of every input. -/
import Derived.Test.YtncbohecppdfnaaRows
import Derived.Test.YtncbohecppdfnaaNamed
import Derived.Test.YtncbohecppdfnaaPowersPure
import Derived.LoopTactic
import Derived.Outline
import Derived.ProofKit
import Derived.OpenShut
namespace Go.Proofs.Ytncbohecppdfnaa.fnPowers
open Go.ChangeShapes Go.WideShapes Go.ChangeAt Go.RowKit Go.Lst FloatKit

theorem real32 {p r : Nat} (h : Eqv FloatKind.f32.format p r) (hn : real4 r = true) : p = r := by
  rcases h with h | ⟨_, h⟩
  · exact h
  · unfold real4 at hn
    rw [show isNaN Ieee.single r = true from h] at hn; cases hn
theorem real64 {p r : Nat} (h : Eqv FloatKind.f64.format p r) (hn : real8 r = true) : p = r := by
  rcases h with h | ⟨_, h⟩
  · exact h
  · unfold real8 at hn
    rw [show isNaN Ieee.double r = true from h] at hn; cases hn
theorem fact32 {k : BinOp} {x y r : Nat} (e : fop k .f32 x y = r) (hn : real4 r = true) : ∀ p, Eqv FloatKind.f32.format p (fop k .f32 x y) → p = r := fun p h => by rw [e] at h; exact real32 h hn
theorem fact64 {k : BinOp} {x y r : Nat} (e : fop k .f64 x y = r) (hn : real8 r = true) : ∀ p, Eqv FloatKind.f64.format p (fop k .f64 x y) → p = r := fun p h => by rw [e] at h; exact real64 h hn
theorem factW {b x : Nat} (e : widen b = x) (hn : real4 b = true) : ∀ p, Wid b p → p = x := fun p h => by
  obtain ⟨_, h⟩ := h
  unfold real4 at hn
  rw [if_neg (by simpa using hn)] at h
  rw [← e]; exact h
theorem exp_chain {t p q1 q2 q3 g : Nat} {n : Int} (hn : n = ((12 - g : Nat) : Int)) (hp : Eqv Ieee.double p (expP t g)) (h1 : Eqv Ieee.double q1 (fop .mul .f64 t p)) (h2 : Eqv Ieee.double q2 (fop .quo .f64 q1 (floatOfInt .f64 n))) (h3 : Eqv Ieee.double q3 (fop .add .f64 4607182418800017408 q2)) : Eqv Ieee.double q3 (expP t (g + 1)) := by
  subst hn
  have e1 : Eqv Ieee.double q1 (fop .mul .f64 t (expP t g)) := h1.trans (.inl (fop_eqv .mul .f64 (Eqv.refl _ _) hp))
  have e2 : Eqv Ieee.double q2 (fop .quo .f64 (fop .mul .f64 t (expP t g)) (floatOfInt .f64 ((12 - g : Nat) : Int))) := h2.trans (.inl (fop_eqv .quo .f64 e1 (Eqv.refl _ _)))
  exact h3.trans (.inl (fop_eqv .add .f64 (Eqv.refl _ _) e2))
theorem sq_chain {P d d' g : Nat} (hd : Eqv Ieee.double d (sqP P g)) (h : Eqv Ieee.double d' (fop .mul .f64 d d)) : Eqv Ieee.double d' (sqP P (g + 1)) := h.trans (.inl (fop_eqv .mul .f64 hd hd))
theorem sq_start {P q : Nat} (h : Eqv Ieee.double q P) : ∀ g, Eqv Ieee.double (sqP q g) (sqP P g)
  | 0 => h
  | g + 1 => .inl (fop_eqv .mul .f64 (sq_start h g) (sq_start h g))
set_option maxHeartbeats 4000000 in
theorem exp_any (x : Nat) (hn : real4 x = true) (c1 : (FloatKind.f32.format.order x 1128792064 == some Ordering.gt) = false) (c2 : (FloatKind.f32.format.order x 3276275712 == some Ordering.lt) = false) (ht : real8 (fop .quo .f64 (widen x) 4643211215818981376) = true) (w : World) :
    Calls Try.prog 35 #[.float .f32 x] w fun e w' => ∃ d r n, e = .returned (.float .f32 r) ∧ Eqv Ieee.double d (expD x) ∧ Nar d r ∧ w' = w.drewN n := by
  have hx : isNaN Ieee.single x = false := by unfold real4 at hn; simpa using hn
  have hcx := run_widen_num (P := Try.prog) 43 47 u32_some Try.underlying47 x hx
  have hE : expD x = sqP (expP (fop .quo .f64 (widen x) 4643211215818981376) 12) 8 := rfl
  generalize expD x = D at *
  generalize widen x = X at *
  generalize et : fop .quo .f64 X 4643211215818981376 = t at *
  have FT := Lib.hid (fact64 et ht)
  have HE := Lib.hid hE
  clear hE et ht hn hx
  go_enter Try.func35, Try.ntmps35
  go_wp2_with (refine wpList_farith rfl _ _ _ _ _ rfl _ _ _ rfl rfl (by rfl) ?_; intro pf jf hp hpl; clear hpl; first | (have hq := (by with_reducible exact FT.out pf hp); subst pf; clear hp))
  generalize hwo : w.drewN _ = wo
  have hWo := Lib.hid hwo
  clear hwo
  go_loopw [4, 5] (fun p i wr => ∃ g m' q : Nat, g ≤ 12 ∧ i = .int .i64 (12 - (g : Int)) ∧ p = .float .f64 q ∧ Hid (Eqv Ieee.double q (expP t g)) ∧ wr = wo.drewN m') (fun _ i _ => (intOf i + 2).toNat)
  case atStart => exact ⟨0, 0, _, by omega, rfl, rfl, Lib.hid (Eqv.refl _ _), rfl⟩
  case round =>
    obtain ⟨g, m', q, hg, rfl, rfl, hQ, rfl⟩ := hrel
    by_cases hlt : g < 12
    · have hn := Lib.hid (show (12 - (g : Int)) = ((12 - g : Nat) : Int) by omega)
      go_wp2_with (refine wpList_farith rfl _ _ _ _ _ rfl _ _ _ rfl rfl (by rfl) ?_; intro r3 j3 hr hlt2; have hE4 := Lib.hid hr; clear hr hlt2)
      go_roundw
      case rel => exact ⟨g + 1, _, _, by omega, by go_num, rfl, Lib.hid (exp_chain hn.out hQ.out (Hid.out ‹Hid (Eqv FloatKind.f64.format _ (fop .mul .f64 t q))›) (Hid.out ‹Hid (Eqv FloatKind.f64.format _ (fop .quo .f64 _ _))›) (Hid.out ‹Hid (Eqv FloatKind.f64.format _ (fop .add .f64 4607182418800017408 _))›)), rfl⟩
      case measure => simp [intOf]; omega
    · have hg12 : g = 12 := by omega
      go_wp2_with fail
      rw [hg12] at hQ
      clear hlt hg hg12
      generalize (12 - (g : Int)) = z at *
      generalize hP : expP t 12 = P at *
      generalize hw2 : wo.drewN m' = w2
      have hW2 := Lib.hid hw2
      clear hw2
      go_loopw [4, 26] (fun p i wr => ∃ g m' d : Nat, g ≤ 8 ∧ i = .int .i64 (g : Int) ∧ p = .float .f64 d ∧ Hid (Eqv Ieee.double d (sqP P g)) ∧ wr = w2.drewN m') (fun _ i _ => (8 - intOf i).toNat)
      case atStart => exact ⟨0, 0, _, by omega, rfl, rfl, hQ, rfl⟩
      case round =>
        obtain ⟨g, m3, d, hg8, rfl, rfl, hD, rfl⟩ := hrel
        by_cases hlt8 : g < 8
        · go_wp2_with (refine wpList_farith rfl _ _ _ _ _ rfl _ _ _ rfl rfl (by rfl) ?_; intro r3 j3 hr hlt2; have hE4 := Lib.hid hr; clear hr hlt2)
          go_roundw
          case rel => exact ⟨g + 1, _, _, by omega, by go_num, rfl, Lib.hid (sq_chain hD.out (Hid.out ‹Hid (Eqv FloatKind.f64.format _ (fop .mul .f64 d d))›)), rfl⟩
          case measure => simp [intOf]; omega
        · have hg88 : g = 8 := by omega
          subst hg88
          go_wp2_with (go_at_call 67; refine (narrowNumber_any _ _).mono ?_; rintro e w' ⟨r, m, rfl, hr, rfl⟩; have hN := Lib.hid hr; clear hr)
          go_ret
          exact ⟨d, _, _, rfl, by rw [HE.out]; exact hD.out, hN.out, by rw [← hW2.out, ← hWo.out]; simp only [World.drewN_drewN]; rfl⟩
theorem exp_at {i : Nat} (h : i < 129) (w : World) : Calls Try.prog 35 #[.float .f32 (tabK.getD i 0)] w fun e w' => ∃ n, e = .returned (.float .f32 (tabE.getD i 0)) ∧ w' = w.drewN n := by
  obtain ⟨_, h1, h2, h3, h4, h5, h6, h7⟩ := exp_is i h
  refine (exp_any _ h1 h2 h3 h4 w).mono ?_
  rintro e w' ⟨d, r, n, rfl, hd, hr, rfl⟩
  obtain rfl := real64 hd h5
  exact ⟨n, by rw [nar_of h6 hr, h7], rfl⟩
theorem log_at {a : Nat} (h : a < 65) (w : World) : Calls Try.prog 37 #[.float .f32 (tabE.getD (a + 32) 0)] w fun e w' => ∃ n, e = .returned (.float .f32 (tabL.getD a 0)) ∧ w' = w.drewN n := by
  obtain ⟨_, h1, h2⟩ := log_facts h
  exact (logNumber_any _ (by omega) w).mono fun e w' hh => h2 _ _ _ hh
set_option maxHeartbeats 1000000 in
theorem gap_any (u v : Nat) (h : real8 (gapV u v) = true) (w : World) : Calls Try.prog 36 #[.float .f64 u, .float .f64 v] w fun e w' => ∃ m, e = .returned (.float .f64 (gapV u v)) ∧ w' = w.drewN m := by
  unfold gapV at *
  cases hl : less8 u v
  · rw [hl, if_neg (by decide)] at h
    rw [if_neg (by decide)]
    unfold less8 at hl
    generalize e : fop .sub .f64 u v = g at *
    have FG := Lib.hid (fact64 e h)
    clear e h
    go_enter Try.func36, Try.ntmps36
    go_wp2_with (refine wpList_farith rfl _ _ _ _ _ rfl _ _ _ rfl rfl (by rfl) ?_; intro pf jf hp hpl; clear hpl; first | (have hq := (by with_reducible exact FG.out pf hp); subst pf; clear hp))
    go_ret
    exact ⟨_, rfl, rfl⟩
  · rw [hl, if_pos rfl] at h
    rw [if_pos rfl]
    unfold less8 at hl
    generalize e : fop .sub .f64 v u = g at *
    have FG := Lib.hid (fact64 e h)
    clear e h
    go_enter Try.func36, Try.ntmps36
    go_wp2_with (refine wpList_farith rfl _ _ _ _ _ rfl _ _ _ rfl rfl (by rfl) ?_; intro pf jf hp hpl; clear hpl; first | (have hq := (by with_reducible exact FG.out pf hp); subst pf; clear hp))
    go_ret
    exact ⟨_, rfl, rfl⟩
set_option maxHeartbeats 16000000 in
set_option maxRecDepth 100000 in
theorem walk (v0 : Value) (x0 : List Int) (hw0 : ∀ y ∈ x0, (Lit.int .u8 y).wf = true) (v1 : Value) (x1 : List Int) (hw1 : ∀ y ∈ x1, (Lit.int .u8 y).wf = true) (W : World) (h0 : Lst W.heap.size W v0 (x0.map (Value.int .u8))) (h1 : Lst W.heap.size W v1 (x1.map (Value.int .u8))) :
    Calls Try.prog 7 #[v0, v1] W fun e w' => e = .returned (.bool true) ∧ Below W.heap.size W w' := by
  have C0 : Hid (∀ W', Below W.heap.size W W' → Calls Try.prog 9 #[v0, .int .i64 0, .int .i64 65] W' fun e w' => e = .returned (.int .i64 (atB x0 0 65)) ∧ W' = w') := Lib.hid fun W' hb => b10At_any W.heap.size v0 x0 0 65 W' (h0.below hb (Nat.le_refl _)) hw0 (by omega) (by omega)
  have C1 : Hid (∀ W', Below W.heap.size W W' → Calls Try.prog 9 #[v1, .int .i64 0, .int .i64 65] W' fun e w' => e = .returned (.int .i64 (atB x1 0 65)) ∧ W' = w') := Lib.hid fun W' hb => b10At_any W.heap.size v1 x1 0 65 W' (h1.below hb (Nat.le_refl _)) hw1 (by omega) (by omega)
  have r0 := atB_in (bs := x0) 0 65 (by omega)
  have r1 := atB_in (bs := x1) 0 65 (by omega)
  generalize atB x0 0 65 = c0 at *
  generalize atB x1 0 65 = c1 at *
  obtain ⟨a0, p0, hv0, hl0, -⟩ := id h0
  obtain ⟨a1, p1, hv1, hl1, -⟩ := id h1
  rw [List.length_map] at hv0 hl0 hv1 hl1
  subst hv0 hv1
  have hLong := Lib.hid (fun w => b10Long_any a0 a1 x0.length x1.length p0 p1 w)
  clear h0 h1
  cases hbig : (decide (1048576 < x0.length) || decide (1048576 < x1.length))
  rotate_left
  · rw [hbig] at hLong
    generalize x0.length = n0 at *
    generalize x1.length = n1 at *
    clear C0 C1 r0 r1
    go_enter Try.func7, Try.ntmps7
    go_wp2_with (go_at_call 8; (with_reducible refine (hLong.out _).mono ?_); rintro e w' ⟨rfl, rfl⟩)
    go_ret
    exact ⟨rfl, Below.refl _ _⟩
  · rw [hbig] at hLong
    clear hbig
    generalize x0.length = n0 at *
    generalize x1.length = n1 at *
    obtain ⟨a, ea⟩ : ∃ a : Nat, c0 = a := ⟨c0.toNat, by omega⟩
    obtain ⟨b, eb⟩ : ∃ b : Nat, c1 = b := ⟨c1.toNat, by omega⟩
    have ha : a < 65 := by omega
    have hb : b < 65 := by omega
    obtain ⟨z0, hz0⟩ : ∃ z : Int, z = c0 - 32 := ⟨_, rfl⟩
    obtain ⟨z1, hz1⟩ : ∃ z : Int, z = c1 - 32 := ⟨_, rfl⟩
    have g0 : IntKind.i64.wrap (c0 - 32) = z0 := by rw [hz0]; exact IntWalk.i64_in _ (by omega)
    have g1 : IntKind.i64.wrap (c1 - 32) = z1 := by rw [hz1]; exact IntWalk.i64_in _ (by omega)
    obtain ⟨kx, kx4, -⟩ := exp_is (a + 32) (by omega)
    obtain ⟨ky, ky4, -⟩ := exp_is (b + 32) (by omega)
    obtain ⟨-, ks4, -⟩ := exp_is (a + b) (by omega)
    obtain ⟨m1, m2, m3, m4, m5⟩ := pair_facts ha hb
    obtain ⟨l1, l2, l3⟩ := gap_facts ha
    obtain ⟨p1, p2, -⟩ := log_facts ha
    have re : ∀ i, i < 129 → real4 (tabE.getD i 0) = true := by decide +kernel
    have e1 := re (a + 32) (by omega)
    have e2 := re (b + 32) (by omega)
    have e3 := re (a + b) (by omega)
    clear re
    have E1 := Lib.hid (fun w => exp_at (i := a + 32) (by omega) w)
    have E2 := Lib.hid (fun w => exp_at (i := b + 32) (by omega) w)
    have E3 := Lib.hid (fun w => exp_at (i := a + b) (by omega) w)
    have E0 : Hid (∀ w, Calls Try.prog 35 #[.float .f32 0] w fun e w' => ∃ n, e = .returned (.float .f32 1065353216) ∧ w' = w.drewN n) := Lib.hid fun w => exp_at (i := 64) (by omega) w
    have L1 := Lib.hid (fun w => log_at ha w)
    have L0 : Hid (∀ w, Calls Try.prog 37 #[.float .f32 1065353216] w fun e w' => ∃ n, e = .returned (.float .f32 0) ∧ w' = w.drewN n) := Lib.hid fun w => log_at (a := 32) (by omega) w
    have kx' : fop .quo .f32 (floatOfInt .f32 z0) 1090519040 = tabK.getD (a + 32) 0 := by rw [← kx, hz0, ea, show (a : Int) - 32 = ((a + 32 : Nat) : Int) - 64 by omega]; rfl
    have ky' : fop .quo .f32 (floatOfInt .f32 z1) 1090519040 = tabK.getD (b + 32) 0 := by rw [← ky, hz1, eb, show (b : Int) - 32 = ((b + 32 : Nat) : Int) - 64 by omega]; rfl
    clear kx ky ea eb hz0 hz1
    generalize tabK.getD (a + 32) 0 = X at *
    generalize tabK.getD (b + 32) 0 = Y at *
    generalize tabK.getD (a + b) 0 = S at *
    generalize tabE.getD (a + 32) 0 = EX at *
    generalize tabE.getD (b + 32) 0 = EY at *
    generalize tabE.getD (a + b) 0 = ES at *
    generalize tabL.getD a 0 = LX at *
    have FX := Lib.hid (fact32 kx' kx4)
    have FY := Lib.hid (fact32 ky' ky4)
    have FS := Lib.hid (fact32 m5 ks4)
    generalize hx1 : widen EX = x' at *
    generalize hx2 : widen EY = y' at *
    generalize hx3 : widen ES = s' at *
    generalize hx4 : widen LX = l' at *
    generalize hx5 : widen X = X' at *
    have W1 := Lib.hid (factW hx1 e1)
    have W2 := Lib.hid (factW hx2 e2)
    have W3 := Lib.hid (factW hx3 e3)
    have W4 := Lib.hid (factW hx4 l1)
    have W5 := Lib.hid (factW hx5 kx4)
    clear hx1 hx2 hx3 hx4 hx5 e1 e2 e3 l1 kx4 ky4 ks4 kx' ky' m5 ha hb
    generalize e4 : fop .mul .f64 x' y' = m at *
    generalize e5 : fop .mul .f64 4562254508917369340 s' = q at *
    have FM := Lib.hid (fact64 e4 m1)
    have FQ := Lib.hid (fact64 e5 m3)
    have G1 := Lib.hid (fun w => gap_any l' X' l2 w)
    have G2 := Lib.hid (fun w => gap_any m s' m2 w)
    clear e4 e5 m1 m3 l2 m2
    generalize gapV l' X' = d1 at *
    generalize gapV m s' = d2 at *
    unfold less8 at l3 m4
    have o1 : (FloatKind.f32.format.order 1065353216 1065353216 == some Ordering.eq) = true := by decide
    have o2 : (FloatKind.f32.format.order 0 0 == some Ordering.eq) = true := by decide
    clear p2 r0 r1
    go_enter Try.func7, Try.ntmps7
    go_wp2_with (first | (go_at_call 8; (with_reducible refine (hLong.out _).mono ?_); rintro e w' ⟨rfl, rfl⟩) | (go_at_call 9; (with_reducible refine (C0.out _ (by first | exact Below.refl _ _ | exact below_drawn _ _)).mono ?_); rintro e w' ⟨rfl, rfl⟩) | (go_at_call 9; (with_reducible refine (C1.out _ (by first | exact Below.refl _ _ | exact below_drawn _ _)).mono ?_); rintro e w' ⟨rfl, rfl⟩) | (go_at_call 35; (with_reducible refine (E1.out _).mono ?_); rintro e w' ⟨j, rfl, rfl⟩) | (go_at_call 35; (with_reducible refine (E2.out _).mono ?_); rintro e w' ⟨j, rfl, rfl⟩) | (go_at_call 35; (with_reducible refine (E3.out _).mono ?_); rintro e w' ⟨j, rfl, rfl⟩) | (go_at_call 35; (with_reducible refine (E0.out _).mono ?_); rintro e w' ⟨j, rfl, rfl⟩) | (go_at_call 37; (with_reducible refine (L1.out _).mono ?_); rintro e w' ⟨j, rfl, rfl⟩) | (go_at_call 37; (with_reducible refine (L0.out _).mono ?_); rintro e w' ⟨j, rfl, rfl⟩) | (go_at_call 36; (with_reducible refine (G1.out _).mono ?_); rintro e w' ⟨j, rfl, rfl⟩) | (go_at_call 36; (with_reducible refine (G2.out _).mono ?_); rintro e w' ⟨j, rfl, rfl⟩) | (refine wpList_farith rfl _ _ _ _ _ rfl _ _ _ rfl rfl (by rfl) ?_; intro pf jf hp hpl; clear hpl; first | (have hq := (by with_reducible exact FX.out pf hp); subst pf; clear hp) | (have hq := (by with_reducible exact FY.out pf hp); subst pf; clear hp) | (have hq := (by with_reducible exact FS.out pf hp); subst pf; clear hp) | (have hq := (by with_reducible exact FM.out pf hp); subst pf; clear hp) | (have hq := (by with_reducible exact FQ.out pf hp); subst pf; clear hp)) | (refine wpList_widen rfl _ _ _ rfl u32_some Try.underlying47 _ rfl ?_; intro pf jf hp; first | (have hq := (by with_reducible exact W1.out pf hp); subst pf; clear hp) | (have hq := (by with_reducible exact W2.out pf hp); subst pf; clear hp) | (have hq := (by with_reducible exact W3.out pf hp); subst pf; clear hp) | (have hq := (by with_reducible exact W4.out pf hp); subst pf; clear hp) | (have hq := (by with_reducible exact W5.out pf hp); subst pf; clear hp)))
    go_ret
    exact ⟨rfl, below_drawn _ _⟩
theorem own : ownKnob Try.prog.godebug = none := by kernel_rfl
theorem laid : laidOutB Try.prog = true := by kernel_rfl
theorem cells0 : Try.prog.cellsOf 5 = 1 := by kernel_rfl
theorem cells1 : Try.prog.cellsOf 5 = 1 := by kernel_rfl

set_option maxRecDepth 100000 in
theorem contract (H : Type) (enc : TypeId × Value → H) (W : World) (base : Nat) (args : Array Value) (ds gs : List (DataW H)) (before : List MemPlace)
    (hval : ∀ (j : Nat) t v, Try.f7.params[j]? = some t → args[j]? = some v → Value.okWide Try.prog W .any base t v)
    (hW : DataW.Whole enc Try.prog Try.f7.params.toList Rows.fnPowersSpec.vars false W args.toList ds gs before) :
    Calls Try.prog 7 args W fun e W' => ∃ v, e = .returned v ∧ Rows.fnPowersSpec.post enc Try.prog Try.f7 false true false false W args v W' := by
  have hW' := hW
  have hlt : ∀ x ∈ before, x.block < W.heap.size := fun x hx => hW'.lt x hx
  obtain ⟨p, q, hA0, hV, rfl, hfz, hnd⟩ := hW
  have hA : DataW.TrodAll enc Try.prog W 0 (fun _ => true) true Try.f7.params.toList args.toList ds p := hA0
  rw [Try.params7] at hA hval
  obtain ⟨v0, vs0, d0, ds0, p0, q0, hargs, rfl, rfl, h0, r0⟩ := trodAll_cons hA
  obtain ⟨v1, vs1, d1, ds1, p1, q1, rfl, rfl, rfl, h1, r1⟩ := trodAll_cons r0
  obtain ⟨rfl, rfl, rfl⟩ := trodAll_nil r1
  obtain rfl : args = #[v0, v1] := by first | exact Array.ext' (by exact hargs) | (cases args; simp_all)
  obtain ⟨rfl, rfl⟩ := trodVars_none hV
  clear hA0
  have k0 := h0
  have k1 := h1
  obtain ⟨a0, L0, w0⟩ := Go.Lst.open_ints Try.underlying22 Try.underlying5 cells0 (hval 0 22 v0 rfl rfl) h0
  obtain ⟨a1, L1, w1⟩ := Go.Lst.open_ints Try.underlying22 Try.underlying5 cells1 (hval 1 22 v1 rfl rfl) h1
  simp only [List.append_nil] at hW' hlt
  refine (walk v0 a0 w0 v1 a1 w1 W L0 L1).mono fun e W' ⟨he, hb⟩ => ?_
  subst he
  exact ⟨_, rfl, Go.Lst.post_new (pv := []) hW' (fun _ _ _ => (trodAll_cons_mk (shut_bool Try.underlying4 _) trodAll_mk0)) (fun sp hsp => (trodAll_cons_mk (WideElems.Trod_stays laid (by kernel_rfl) (of_decide_eq_true (by kernel_rfl)) k0 (fun x hx => hb.same (hlt x (by simp [hx]))) (fun x hx => hsp x (by simp [hx]))) (trodAll_cons_mk (WideElems.Trod_stays laid (by kernel_rfl) (of_decide_eq_true (by kernel_rfl)) k1 (fun x hx => hb.same (hlt x (by simp [hx]))) (fun x hx => hsp x (by simp [hx]))) trodAll_mk0))) (fun _ _ => rfl) (by simp)
    hb (ok_one (by kernel_rfl) rfl (okWide_bool_mk Try.underlying4 _))⟩

set_option maxRecDepth 100000 in
theorem lifted (os : Os) (started : os.Started) (H : Type) (enc : TypeId × Value → H) :
    ReturnsInHanded {} Try.checked os 7 .any (Rows.fnPowersSpec.pre6 enc Try.prog Try.f7 Rows.fnPowersRow.domain false) (Rows.fnPowersSpec.post enc Try.prog Try.f7 false true false false) := by
  refine returnsInHanded_of_change (C := Try.checked) own started (by kernel_rfl) Try.func7
    (ChangeSpec.witness6 (enc := enc) (C := Try.checked) false ⟨#[], #[.slice none 0 0, .slice none 0 0], []⟩ 8 (by kernel_rfl) (by kernel_rfl) (by kernel_rfl) (by kernel_rfl)) ?_
  intro W base args ds gs before hval hW _ _
  exact contract H enc W base args ds gs before hval hW

set_option maxRecDepth 100000 in
theorem proved : Rows.FnPowersSaid :=
  OpenClaim.holds_of_wide 7 Try.f7 rfl rfl rfl rfl rfl rfl rfl ⟨rfl, rfl, rfl, rfl, rfl⟩ rfl rfl rfl rfl rfl (by kernel_rfl) Try.func7 (by kernel_rfl)
    (of_decide_eq_true (by kernel_rfl)) (by unfold Func.isWrapper; first | (rw [if_pos (by decide +kernel)]; kernel_rfl) | (rw [if_neg (by decide +kernel)]; exact ⟨rfl, rfl⟩))
    (fun os started H enc _ => lifted os started H enc)
end Go.Proofs.Ytncbohecppdfnaa.fnPowers
