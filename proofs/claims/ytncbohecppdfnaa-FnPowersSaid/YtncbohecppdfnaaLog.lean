/- Contracts of the logarithms, for all positive float64 that are normal. -/
import Derived.Test.YtncbohecppdfnaaRoot
import Derived.Test.YtncbohecppdfnaaFloatLog
import Derived.LoopTactic
import Derived.Outline
namespace Go.Proofs.Ytncbohecppdfnaa
open Go.RowKit FloatKit

/-- A positive number, halved or doubled to one from 0.75 to 1.5, and how often. -/
def redX (x : Nat) : Nat := if 4609434218613702656 ≤ x then x - ((x - 4609434218613702656) / 4503599627370496 + 1) * 4503599627370496 else if x < 4604930618986332160 then x + ((4604930618986332160 - x + 4503599627370495) / 4503599627370496) * 4503599627370496 else x
def redE (x : Nat) : Int := if 4609434218613702656 ≤ x then (((x - 4609434218613702656) / 4503599627370496 + 1 : Nat) : Int) else if x < 4604930618986332160 then -(((4604930618986332160 - x + 4503599627370495) / 4503599627370496 : Nat) : Int) else 0

theorem geq_word {x c : Nat} (hx : x ≤ 9218868437227405312) (hc : c ≤ 9218868437227405312) : (FloatKind.f64.format.order x c == some .gt || FloatKind.f64.format.order x c == some .eq) = decide (c ≤ x) := by
  have h : FloatKind.f64.format.order x c = some (compare x c) := order_pos (f := Ieee.double) double_hb (by rw [double_inf]; exact hx) (by rw [double_inf]; exact hc)
  rw [h]
  rcases Nat.lt_trichotomy x c with h1 | h1 | h1
  · rw [Nat.compare_eq_lt.2 h1]; simp; omega
  · rw [Nat.compare_eq_eq.2 h1]; simp; omega
  · rw [Nat.compare_eq_gt.2 h1]; simp; omega
theorem lss_word {x c : Nat} (hx : x ≤ 9218868437227405312) (hc : c ≤ 9218868437227405312) : (FloatKind.f64.format.order x c == some .lt) = decide (x < c) := by
  have h : FloatKind.f64.format.order x c = some (compare x c) := order_pos (f := Ieee.double) double_hb (by rw [double_inf]; exact hx) (by rw [double_inf]; exact hc)
  rw [h]
  rcases Nat.lt_trichotomy x c with h1 | h1 | h1
  · rw [Nat.compare_eq_lt.2 h1]; simp; omega
  · rw [Nat.compare_eq_eq.2 h1]; simp; omega
  · rw [Nat.compare_eq_gt.2 h1]; simp; omega

def wordOf : Value → Nat | .float _ n => n | _ => 0

theorem red_of {x z j z' k : Nat} (h1 : z + j * 4503599627370496 = x) (h2 : j = 0 ∨ 4609434218613702656 ≤ z + 4503599627370496) (h3 : z < 4609434218613702656)
    (h4 : z' = z + k * 4503599627370496) (h5 : k = 0 ∨ z' < 4609434218613702656) (h6 : 4604930618986332160 ≤ z') : z' = redX x ∧ ((j : Int) - (k : Int)) = redE x ∧ z' < 4609434218613702656 := by
  have h7 : z' < 4609434218613702656 := by omega
  by_cases hj : j = 0
  · have hx : x = z := by omega
    subst hx
    have n1 : ¬ 4609434218613702656 ≤ x := by omega
    unfold redX redE
    simp only [n1, if_false]
    by_cases hk0 : k = 0
    · have n2 : ¬ x < 4604930618986332160 := by omega
      simp only [n2, if_false]
      exact ⟨by omega, by omega, h7⟩
    · have n2 : x < 4604930618986332160 := by omega
      have hq : (4604930618986332160 - x + 4503599627370495) / 4503599627370496 = k := by omega
      simp only [n2, if_true, hq]
      exact ⟨h4, by omega, h7⟩
  · have hk0 : k = 0 := by omega
    have n1 : 4609434218613702656 ≤ x := by omega
    have hq : (x - 4609434218613702656) / 4503599627370496 + 1 = j := by omega
    unfold redX redE
    simp only [n1, if_true, hq]
    exact ⟨by omega, by omega, h7⟩

theorem ser_chain {u r2 q q1 q2 q3 j : Nat} {n : Int} (hn : n = ((25 - 2 * j : Nat) : Int)) (hu : Eqv Ieee.double r2 u) (hq : Eqv Ieee.double q (serC u j))
    (h1 : Eqv Ieee.double q1 (fop .quo .f64 4607182418800017408 (floatOfInt .f64 n))) (h2 : Eqv Ieee.double q2 (fop .mul .f64 r2 q)) (h3 : Eqv Ieee.double q3 (fop .add .f64 q1 q2)) : Eqv Ieee.double q3 (serC u (j + 1)) := by
  subst hn
  rw [fop_eqv .mul .f64 hu hq] at h2
  rw [fop_eqv .add .f64 h1 h2] at h3
  exact h3

/-- What is doubled and halved in the logarithm. -/
def sC (x : Nat) : Nat := fop .quo .f64 (fop .sub .f64 x one) (fop .add .f64 x one)
theorem s_chain {x a b c : Nat} (h1 : Eqv Ieee.double a (fop .sub .f64 x 4607182418800017408)) (h2 : Eqv Ieee.double b (fop .add .f64 x 4607182418800017408)) (h3 : Eqv Ieee.double c (fop .quo .f64 a b)) : Eqv Ieee.double c (sC x) := by
  rw [fop_eqv .quo .f64 h1 h2] at h3
  exact h3
theorem log_chain {x s q a b c d : Nat} {e : Int} (hs : Eqv Ieee.double s (sC x)) (hq : Eqv Ieee.double q (serC (fop .mul .f64 (sC x) (sC x)) 13))
    (h1 : Eqv Ieee.double a (fop .mul .f64 s q)) (h2 : Eqv Ieee.double b (fop .mul .f64 4611686018427387904 a)) (h3 : Eqv Ieee.double c (fop .mul .f64 (floatOfInt .f64 e) 4604418534313441775)) (h4 : Eqv Ieee.double d (fop .add .f64 b c)) : Eqv Ieee.double d (logC x e) := by
  rw [fop_eqv .mul .f64 hs hq] at h1
  rw [fop_eqv .mul .f64 (Eqv.refl _ _) h1] at h2
  rw [fop_eqv .add .f64 h2 h3] at h4
  exact h4

set_option maxHeartbeats 1000000 in
theorem logOf_any (x : Nat) (h1 : 4503599627370496 ≤ x) (h2 : x < 9218868437227405312) (w : World) : Calls Try.prog 71 #[.float .f64 x] w (RetD (logC (redX x) (redE x)) w) := by
  have hid64 := run_same (P := Try.prog) 47 .f64 Try.underlying47
  have H1 := Lib.hid h1
  have H2 := Lib.hid h2
  clear h1 h2
  go_enter Try.func71, Try.ntmps71
  go_wp2
  go_loop [0, 3] (fun x' e => ∃ z j : Nat, x' = .float .f64 z ∧ e = .int .i64 j ∧ j ≤ 2047 ∧ Hid (z + j * 4503599627370496 = x ∧ 4503599627370496 ≤ z ∧ (j = 0 ∨ 4609434218613702656 ≤ z + 4503599627370496))) (fun x' _ => wordOf x')
  case atStart => exact ⟨x, 0, rfl, rfl, by omega, by omega, H1.out, .inl rfl⟩
  case round =>
    obtain ⟨z, j, rfl, rfl, hj, hZ⟩ := hrel
    by_cases hge : 4609434218613702656 ≤ z
    · obtain ⟨z1, rfl⟩ : ∃ z1, z = z1 + 4503599627370496 := ⟨z - 4503599627370496, by omega⟩
      have hb := (geq_word (x := z1 + 4503599627370496) (c := 4609434218613702656) (by have := hZ.out; have := H2.out; omega) (by omega)).trans (decide_eq_true hge)
      have hq := run_fop_some (P := Try.prog) 47 .f64 _ 4611686018427387904 _ (half_exact (y := z1 + 4503599627370496) (by omega) (by have := hZ.out; have := H2.out; omega))
      rw [Nat.add_sub_cancel] at hq
      have hN := Lib.hid (show z1 + (j + 1) * 4503599627370496 = x ∧ 4503599627370496 ≤ z1 ∧ (j + 1 = 0 ∨ 4609434218613702656 ≤ z1 + 4503599627370496) ∧ j + 1 ≤ 2047 by have := hZ.out; have := H2.out; omega)
      have hG := Lib.hid hge
      clear hge hZ
      generalize hzz : z1 + 4503599627370496 = zz at *
      have hZZ := Lib.hid hzz
      clear hzz
      go_wp2
      go_round
      case rel => exact ⟨z1, j + 1, rfl, by go_num, hN.out.2.2.2, hN.out.1, hN.out.2.1, by (have := hN.out.2.2.1; rw [hZZ.out]; exact this)⟩
      case measure => (show z1 < zz; rw [← hZZ.out]; omega)
    · have hb := (geq_word (x := z) (c := 4609434218613702656) (by have := hZ.out; have := H2.out; omega) (by omega)).trans (decide_eq_false hge)
      have hG := Lib.hid hge
      clear hge
      go_wp2
      go_loop [0, 3] (fun x' e => ∃ z' k : Nat, x' = .float .f64 z' ∧ e = .int .i64 ((j : Int) - (k : Int)) ∧ k ≤ 2047 ∧ Hid (z' = z + k * 4503599627370496 ∧ z' < 4609434218613702656)) (fun x' _ => 4609434218613702656 - wordOf x')
      case atStart => exact ⟨z, 0, rfl, by go_num, by omega, by omega, by have := hG.out; omega⟩
      case round =>
        obtain ⟨z', k, rfl, rfl, hk, hZ'⟩ := hrel
        by_cases hlt : z' < 4604930618986332160
        · have hb2 := (lss_word (x := z') (c := 4604930618986332160) (by omega) (by omega)).trans (decide_eq_true hlt)
          have hq := run_fop_some (P := Try.prog) 47 .f64 _ 4611686018427387904 _ (double_exact (y := z') (by have := hZ'.out; have := hZ.out; omega) (by omega))
          have hN := Lib.hid (show z' + 4503599627370496 = z + (k + 1) * 4503599627370496 ∧ z' + 4503599627370496 < 4609434218613702656 ∧ k + 1 ≤ 2047 by have := hZ'.out; omega)
          clear hlt hZ'
          generalize hzz : z' + 4503599627370496 = zz at *
          have hZZ := Lib.hid hzz
          clear hzz
          go_wp2
          go_round
          case rel => exact ⟨zz, k + 1, rfl, by go_num, hN.out.2.2, hN.out.1, hN.out.2.1⟩
          case measure => (show 4609434218613702656 - zz < 4609434218613702656 - z'; have := hN.out; rw [← hZZ.out]; have := hZZ.out; omega)
        · have hb2 := (lss_word (x := z') (c := 4604930618986332160) (by have := hZ'.out; omega) (by omega)).trans (decide_eq_false hlt)
          obtain ⟨g1, g2, g3⟩ := red_of hZ.out.1 hZ.out.2.2 (by have := hG.out; omega) hZ'.out.1 (.inr hZ'.out.2) (by omega)
          have G1 := Lib.hid g1
          have G2 := Lib.hid g2
          clear hlt hZ' g1 g2 g3 hb
          go_wp2_with (refine wpList_farith rfl _ _ _ _ _ rfl _ _ _ rfl rfl (by rfl) ?_; intro r3 j3 hr hlt2; have hL := Lib.hid hlt2; have hE4 := Lib.hid hr; clear hr hlt2)
          have hS := Lib.hid (s_chain (Hid.out ‹Hid (Eqv FloatKind.f64.format _ (fop .sub .f64 z' 4607182418800017408))›) (Hid.out ‹Hid (Eqv FloatKind.f64.format _ (fop .add .f64 z' 4607182418800017408))›) (Hid.out ‹Hid (Eqv FloatKind.f64.format _ (fop .quo .f64 _ _))›))
          have hU := Lib.hid ((Hid.out ‹Hid (Eqv FloatKind.f64.format _ (fop .mul .f64 _ _))›).trans (.inl (fop_eqv .mul .f64 hS.out hS.out)))
          clear hb2
          generalize hwo : w.drewN _ = wo
          have hWo := Lib.hid hwo
          clear hwo
          go_loopw [6, 7] (fun p i wr => ∃ g m' q : Nat, g ≤ 13 ∧ i = .int .i64 (25 - 2 * (g : Int)) ∧ p = .float .f64 q ∧ Hid (Eqv Ieee.double q (serC (fop .mul .f64 (sC z') (sC z')) g)) ∧ wr = wo.drewN m') (fun _ i _ => (intOf i + 2).toNat)
          case atStart => exact ⟨0, 0, 0, by omega, rfl, rfl, Eqv.refl _ _, rfl⟩
          case round =>
            obtain ⟨g, m', q, hg, rfl, rfl, hQ, rfl⟩ := hrel
            by_cases hlt8 : g < 13
            · have hn := Lib.hid (show (25 - 2 * (g : Int)) = ((25 - 2 * g : Nat) : Int) by omega)
              go_wp2_with (refine wpList_farith rfl _ _ _ _ _ rfl _ _ _ rfl rfl (by rfl) ?_; intro r3 j3 hr hlt2; have hE4 := Lib.hid hr; clear hr hlt2)
              go_roundw
              case rel => exact ⟨g + 1, _, _, by omega, by go_num, rfl, ser_chain hn.out hU.out hQ.out (Hid.out ‹Hid (Eqv FloatKind.f64.format _ (fop .quo .f64 4607182418800017408 _))›) (Hid.out ‹Hid (Eqv FloatKind.f64.format _ (fop .mul .f64 _ q))›) (Hid.out ‹Hid (Eqv FloatKind.f64.format _ (fop .add .f64 _ _))›), rfl⟩
              case measure => simp [intOf]; omega
            · have hg13 : g = 13 := by omega
              subst hg13
              go_wp2_with (refine wpList_farith rfl _ _ _ _ _ rfl _ _ _ rfl rfl (by rfl) ?_; intro r3 j3 hr hlt2; have hL := Lib.hid hlt2; have hE4 := Lib.hid hr; clear hr hlt2)
              go_ret
              exact ⟨_, _, rfl, by (rw [← G1.out, ← G2.out]; exact log_chain hS.out hQ.out (Hid.out ‹Hid (Eqv FloatKind.f64.format _ (fop .mul .f64 _ q))›) (Hid.out ‹Hid (Eqv FloatKind.f64.format _ (fop .mul .f64 4611686018427387904 _))›) (Hid.out ‹Hid (Eqv FloatKind.f64.format _ (fop .mul .f64 _ 4604418534313441775))›) (Hid.out ‹Hid (Eqv FloatKind.f64.format r3 _)›)), hL.out, by rw [← hWo.out]; simp only [World.drewN_drewN]; rfl⟩
set_option maxHeartbeats 400000 in
theorem isInf1_any (b : Nat) (w : World) : Calls Try.prog 68 #[.float .f64 b, .int .i64 1] w fun e w' => e = .returned (.bool (FloatKind.f64.format.order b 9218868437227405311 == some .gt)) ∧ w = w' := by
  go_enter Try.func68, Try.ntmps68
  go_wp2
  go_ret
  exact ⟨rfl, rfl⟩
end Go.Proofs.Ytncbohecppdfnaa
