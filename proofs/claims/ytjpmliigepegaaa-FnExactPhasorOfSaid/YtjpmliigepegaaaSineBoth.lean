/- The sine of some turns: the model's and the program's, alike, for every float32. -/
import Derived.Test.YtjpmliigepegaaaSine
import Derived.RowKit
import Derived.Test.YtjpmliigepegaaaOwn
namespace Go.Proofs.Ytjpmliigepegaaa
open Go.RowKit Go.Lst FloatKit

theorem cmp_lt {a b : Int} (h : a < b) : compare a b = .lt := by simp [compare, compareOfLessAndEq, h]
theorem cmp_same (a : Int) : compare a a = .eq := by simp [compare, compareOfLessAndEq]
theorem cmp_gt {a b : Int} (h : b < a) : compare a b = .gt := by simp [compare, compareOfLessAndEq, show ¬ a < b by omega, show ¬ a = b by omega]
theorem test_ge (a b : Int) : ((some (compare a b) == some .gt) || (some (compare a b) == some .eq)) = decide (b ≤ a) := by
  rcases Int.lt_trichotomy a b with h | h | h
  · rw [cmp_lt h, decide_eq_false (by omega)]; rfl
  · subst h; rw [cmp_same, decide_eq_true (by omega)]; rfl
  · rw [cmp_gt h, decide_eq_true (by omega)]; rfl
theorem test_le (a b : Int) : ((some (compare a b) == some .lt) || (some (compare a b) == some .eq)) = decide (a ≤ b) := by
  rcases Int.lt_trichotomy a b with h | h | h
  · rw [cmp_lt h, decide_eq_true (by omega)]; rfl
  · subst h; rw [cmp_same, decide_eq_true (by omega)]; rfl
  · rw [cmp_gt h, decide_eq_false (by omega)]; rfl
/-- Two to the power of 52, and as far below zero. -/
def farW : Nat := 4841369599423283200
def farB (y : Nat) : Bool := decide (farW ≤ y % 9223372036854775808)
theorem far_const : isNaN Ieee.double 4841369599423283200 = false ∧ isNaN Ieee.double 14064741636278059008 = false ∧ sval Ieee.double 4841369599423283200 = (rungVal Ieee.double 4841369599423283200 : Int) ∧ sval Ieee.double 14064741636278059008 = -(rungVal Ieee.double 4841369599423283200 : Int) := by
  refine ⟨by decide, by decide, ?_, ?_⟩
  · unfold sval
    rw [double_sw, show (4841369599423283200 / 9223372036854775808 % 2 == 1) = false by decide, show 4841369599423283200 % 9223372036854775808 = 4841369599423283200 by decide]; rfl
  · unfold sval
    rw [double_sw, show (14064741636278059008 / 9223372036854775808 % 2 == 1) = true by decide, show 14064741636278059008 % 9223372036854775808 = 4841369599423283200 by decide]; rfl
theorem far_pos : 0 < rungVal Ieee.double 4841369599423283200 := by
  have h := rungVal_lt (f := Ieee.double) (a := 0) (b := 4841369599423283200) (by omega)
  rw [rungVal_zero] at h
  exact h
theorem far_model {y : Nat} (hn : isNaN Ieee.double y = false) :
    ((FloatKind.f64.format.order y 4841369599423283200 == some .gt || FloatKind.f64.format.order y 4841369599423283200 == some .eq) || (FloatKind.f64.format.order y 14064741636278059008 == some .lt || FloatKind.f64.format.order y 14064741636278059008 == some .eq)) = farB y := by
  obtain ⟨c1, c2, c3, c4⟩ := far_const
  have h0 := far_pos
  have e1 : FloatKind.f64.format.order y 4841369599423283200 = some (compare (sval Ieee.double y) (sval Ieee.double 4841369599423283200)) := order_sval double_hb hn c1
  have e2 : FloatKind.f64.format.order y 14064741636278059008 = some (compare (sval Ieee.double y) (sval Ieee.double 14064741636278059008)) := order_sval double_hb hn c2
  rw [e1, e2, test_ge, test_le, c3, c4]
  have hle := rungVal_le_iff (f := Ieee.double) (a := 4841369599423283200) (b := y % 9223372036854775808)
  unfold farB farW
  generalize hr : rungVal Ieee.double 4841369599423283200 = R at *
  have hs : sval Ieee.double y = (rungVal Ieee.double (y % 9223372036854775808) : Int) ∨ sval Ieee.double y = -(rungVal Ieee.double (y % 9223372036854775808) : Int) := by
    unfold sval
    rw [double_sw]
    split
    · exact .inr rfl
    · exact .inl rfl
  generalize rungVal Ieee.double (y % 9223372036854775808) = r at *
  rw [Bool.eq_iff_iff]
  simp only [Bool.or_eq_true, decide_eq_true_eq]
  rw [← hle]
  rcases hs with h | h <;> rw [h] <;> omega
theorem far_program {y : Nat} (hf : finite Ieee.double y = true) :
    (FloatKind.f64.format.order (y % 9223372036854775808) 4841369599423283200 == some .gt || FloatKind.f64.format.order (y % 9223372036854775808) 4841369599423283200 == some .eq) = farB y := by
  have hlt : y % 9223372036854775808 < Ieee.double.infRung := by
    unfold finite at hf
    rw [double_sw] at hf
    exact of_decide_eq_true hf
  have hc : (4841369599423283200 : Nat) ≤ Ieee.double.infRung := by decide
  have e1 : FloatKind.f64.format.order (y % 9223372036854775808) 4841369599423283200 = some (compare (y % 9223372036854775808) 4841369599423283200) := order_pos double_hb (by omega) hc
  rw [e1]
  unfold farB farW
  generalize y % 9223372036854775808 = r at *
  rcases Nat.lt_trichotomy r 4841369599423283200 with h | h | h
  · rw [decide_eq_false (by omega)]; simp [compare, compareOfLessAndEq, h]
  · subst h; decide
  · rw [decide_eq_true (by omega)]; simp [compare, compareOfLessAndEq, show ¬ r < 4841369599423283200 by omega, show ¬ r = 4841369599423283200 by omega]
theorem near_mag {y : Nat} (hf : finite Ieee.double y = true) (h : farB y = false) : Mag 1126 y := by
  refine ⟨finite_nan hf, ?_⟩
  unfold mag
  unfold farB farW at h
  have hle : y % 9223372036854775808 ≤ (1126 - 51) * 4503599627370496 := by have := of_decide_eq_false h; omega
  rw [← rung_pow 1126 (by omega)]
  exact rungVal_le_iff.2 hle
/-- What a sine of the float32 x is. -/
def sineR (x : Nat) : Nat := if finite Ieee.single x then (if farB (widen x) then 0 else Ieee.single.write (Ieee.double.read (sineW (widen x)))) else 2143289344
def RetSine (x : Nat) (w : World) (e : Ending) (w' : World) : Prop := ∃ r n, e = .returned (.float .f32 r) ∧ Eqv Ieee.single r (sineR x) ∧ w' = w.drewN n
theorem RetSine.nan {x r n : Nat} {w : World} (h : finite Ieee.single x = false) (hr : isNaN Ieee.single r = true) : RetSine x w (.returned (.float .f32 r)) (w.drewN n) :=
  ⟨r, n, rfl, .inr ⟨hr, by
    unfold sineR
    rw [h, if_neg (by simp)]
    decide⟩, rfl⟩
theorem RetSine.far {x n : Nat} {w : World} (h : finite Ieee.single x = true) (h2 : farB (widen x) = true) : RetSine x w (.returned (.float .f32 0)) (w.drewN n) :=
  ⟨0, n, rfl, .inl (by unfold sineR; rw [h, h2]; rfl), rfl⟩
theorem RetSine.near {x r n : Nat} {w : World} (h : finite Ieee.single x = true) (h2 : farB (widen x) = false) (hm : Mag 1126 (widen x)) (hr : Nar (sineW (widen x)) r) : RetSine x w (.returned (.float .f32 r)) (w.drewN n) :=
  ⟨r, n, rfl, .inl (by unfold sineR; rw [h, h2]; exact Nar.small (sineW_mag hm) (by omega) hr), rfl⟩
theorem sub_test {r z : Nat} (h : Eqv Ieee.double r (fop .sub .f64 z z)) : (FloatKind.f64.format.order r 0 != some .eq) = !finite Ieee.double z := by
  have h1 := dsub_self z
  have e : FloatKind.f64.format.order r 0 = FloatKind.f64.format.order (fop .sub .f64 z z) 0 := h.order (Eqv.refl _ 0)
  unfold bne
  rw [e]
  exact congrArg Bool.not h1
theorem nan_word : isNaN Ieee.double 9221120237041090561 = true := by decide
set_option maxHeartbeats 400000 in
theorem nan_any (w : World) : Calls Try.prog 25 #[] w fun e w' => e = .returned (.float .f64 9221120237041090561) ∧ w = w' := by
  go_enter Try.func25, Try.ntmps25
  go_wp2
  go_ret
  exact ⟨rfl, rfl⟩
theorem nar_nan {r : Nat} (h : Nar 9221120237041090561 r) : isNaN Ieee.single r = true := by
  obtain ⟨s, t, hr⟩ := read_nan nan_word
  obtain ⟨_, h⟩ := h
  rw [hr] at h
  exact h
theorem nar_plus {r : Nat} (h : Nar 0 r) : r = 0 := nar_zero (s := 0) (by omega) h
set_option maxHeartbeats 1000000 in
theorem sineWide_nan (y : Nat) (h : finite Ieee.double y = false) (w : World) :
    Calls Try.prog 17 #[.float .f64 y] w fun e w' => ∃ n, e = .returned (.float .f64 9221120237041090561) ∧ w' = w.drewN n := by
  go_enter Try.func17, Try.ntmps17
  go_wp2_with (first | (refine wpList_farith rfl _ _ _ _ _ rfl _ _ _ rfl rfl (by rfl) ?_; intro r2 j hr hlt2; have ht := sub_test hr; clear hr hlt2) | (go_at_call 25; refine (nan_any _).mono ?_; rintro e w' ⟨rfl, rfl⟩))
  go_ret
  exact ⟨_, rfl, rfl⟩
set_option maxHeartbeats 1000000 in
theorem sineWide_far (y : Nat) (hf : finite Ieee.double y = true) (hq : farB y = true) (w : World) :
    Calls Try.prog 17 #[.float .f64 y] w fun e w' => e = .returned (.float .f64 0) ∧ w = w' := by
  have hsy := run_fop_some (P := Try.prog) (op := .sub) 22 .f64 y y 0 (sub_same hf)
  have h00 : (FloatKind.f64.format.order 0 0 != some .eq) = false := by decide
  have hfm := far_model (finite_nan hf)
  rw [hq] at hfm
  generalize hA : (FloatKind.f64.format.order y 4841369599423283200 == some .gt || FloatKind.f64.format.order y 4841369599423283200 == some .eq) = A at *
  generalize hB : (FloatKind.f64.format.order y 14064741636278059008 == some .lt || FloatKind.f64.format.order y 14064741636278059008 == some .eq) = B at *
  clear hf hq
  cases A
  · rw [Bool.false_or] at hfm
    subst hfm
    go_enter Try.func17, Try.ntmps17
    go_wp2_with fail
    go_ret
    exact ⟨rfl, rfl⟩
  · clear hfm hB
    go_enter Try.func17, Try.ntmps17
    go_wp2_with fail
    go_ret
    exact ⟨rfl, rfl⟩
theorem sineWide_near (y : Nat) (hf : finite Ieee.double y = true) (hq : farB y = false) (w : World) :
    Calls Try.prog 17 #[.float .f64 y] w fun e w' => e = .returned (.float .f64 (sineW y)) ∧ w = w' := by
  have hfm := far_model (finite_nan hf)
  rw [hq, Bool.or_eq_false_iff] at hfm
  exact sineWide_in y (near_mag hf hq) hfm.1 hfm.2 w
end Go.Proofs.Ytjpmliigepegaaa
