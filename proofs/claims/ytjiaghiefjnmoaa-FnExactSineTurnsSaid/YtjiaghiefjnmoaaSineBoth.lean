/- The sine of some turns: the model's and the program's, alike, for every float32. -/
import Derived.Test.YtjiaghiefjnmoaaSine
import Derived.RowKit
import Derived.Test.YtjiaghiefjnmoaaOwn
namespace Go.Proofs.Ytjiaghiefjnmoaa
open Go.RowKit Go.Lst FloatKit

theorem cmp_lt {a b : Int} (h : a < b) : compare a b = .lt := by simp [compare, compareOfLessAndEq, h]
theorem cmp_same (a : Int) : compare a a = .eq := by simp [compare, compareOfLessAndEq]
theorem cmp_gt {a b : Int} (h : b < a) : compare a b = .gt := by simp [compare, compareOfLessAndEq, show ¬ a < b by omega, show ¬ a = b by omega]
theorem test_ge (a b : Int) : ((some (compare a b) == some .gt) || (some (compare a b) == some .eq)) = decide (b ≤ a) := by
  rcases Int.lt_trichotomy a b with h | h | h
  · rw [cmp_lt h, decide_eq_false (by omega)]; rfl
  · subst h; rw [cmp_same, decide_eq_true (by omega)]; rfl
  · rw [cmp_gt h, decide_eq_true (by omega)]; rfl
theorem test_le (a b : Int) : ((some (compare a b) == some .lt) || (some (compare a b) == some .eq)) = decide (a ≤ b) := by
  rcases Int.lt_trichotomy a b with h | h | h
  · rw [cmp_lt h, decide_eq_true (by omega)]; rfl
  · subst h; rw [cmp_same, decide_eq_true (by omega)]; rfl
  · rw [cmp_gt h, decide_eq_false (by omega)]; rfl
/-- Two to the power of 52, and as far below zero. -/
def farW : Nat := 4841369599423283200
def farB (y : Nat) : Bool := decide (farW ≤ y % 9223372036854775808)
theorem far_const : isNaN Ieee.double 4841369599423283200 = false ∧ isNaN Ieee.double 14064741636278059008 = false ∧ sval Ieee.double 4841369599423283200 = (rungVal Ieee.double 4841369599423283200 : Int) ∧ sval Ieee.double 14064741636278059008 = -(rungVal Ieee.double 4841369599423283200 : Int) := by
  refine ⟨by decide, by decide, ?_, ?_⟩
  · unfold sval
    rw [double_sw, show (4841369599423283200 / 9223372036854775808 % 2 == 1) = false by decide, show 4841369599423283200 % 9223372036854775808 = 4841369599423283200 by decide]; rfl
  · unfold sval
    rw [double_sw, show (14064741636278059008 / 9223372036854775808 % 2 == 1) = true by decide, show 14064741636278059008 % 9223372036854775808 = 4841369599423283200 by decide]; rfl
theorem far_pos : 0 < rungVal Ieee.double 4841369599423283200 := by
  have h := rungVal_lt (f := Ieee.double) (a := 0) (b := 4841369599423283200) (by omega)
  rw [rungVal_zero] at h
  exact h
theorem far_model {y : Nat} (hn : isNaN Ieee.double y = false) :
    ((FloatKind.f64.format.order y 4841369599423283200 == some .gt || FloatKind.f64.format.order y 4841369599423283200 == some .eq) || (FloatKind.f64.format.order y 14064741636278059008 == some .lt || FloatKind.f64.format.order y 14064741636278059008 == some .eq)) = farB y := by
  obtain ⟨c1, c2, c3, c4⟩ := far_const
  have h0 := far_pos
  have e1 : FloatKind.f64.format.order y 4841369599423283200 = some (compare (sval Ieee.double y) (sval Ieee.double 4841369599423283200)) := order_sval double_hb hn c1
  have e2 : FloatKind.f64.format.order y 14064741636278059008 = some (compare (sval Ieee.double y) (sval Ieee.double 14064741636278059008)) := order_sval double_hb hn c2
  rw [e1, e2, test_ge, test_le, c3, c4]
  have hle := rungVal_le_iff (f := Ieee.double) (a := 4841369599423283200) (b := y % 9223372036854775808)
  unfold farB farW
  generalize hr : rungVal Ieee.double 4841369599423283200 = R at *
  have hs : sval Ieee.double y = (rungVal Ieee.double (y % 9223372036854775808) : Int) ∨ sval Ieee.double y = -(rungVal Ieee.double (y % 9223372036854775808) : Int) := by
    unfold sval
    rw [double_sw]
    split
    · exact .inr rfl
    · exact .inl rfl
  generalize rungVal Ieee.double (y % 9223372036854775808) = r at *
  rw [Bool.eq_iff_iff]
  simp only [Bool.or_eq_true, decide_eq_true_eq]
  rw [← hle]
  rcases hs with h | h <;> rw [h] <;> omega
theorem far_program {y : Nat} (hf : finite Ieee.double y = true) :
    (FloatKind.f64.format.order (y % 9223372036854775808) 4841369599423283200 == some .gt || FloatKind.f64.format.order (y % 9223372036854775808) 4841369599423283200 == some .eq) = farB y := by
  have hlt : y % 9223372036854775808 < Ieee.double.infRung := by
    unfold finite at hf
    rw [double_sw] at hf
    exact of_decide_eq_true hf
  have hc : (4841369599423283200 : Nat) ≤ Ieee.double.infRung := by decide
  have e1 : FloatKind.f64.format.order (y % 9223372036854775808) 4841369599423283200 = some (compare (y % 9223372036854775808) 4841369599423283200) := order_pos double_hb (by omega) hc
  rw [e1]
  unfold farB farW
  generalize y % 9223372036854775808 = r at *
  rcases Nat.lt_trichotomy r 4841369599423283200 with h | h | h
  · rw [decide_eq_false (by omega)]; simp [compare, compareOfLessAndEq, h]
  · subst h; decide
  · rw [decide_eq_true (by omega)]; simp [compare, compareOfLessAndEq, show ¬ r < 4841369599423283200 by omega, show ¬ r = 4841369599423283200 by omega]
theorem near_mag {y : Nat} (hf : finite Ieee.double y = true) (h : farB y = false) : Mag 1126 y := by
  refine ⟨finite_nan hf, ?_⟩
  unfold mag
  unfold farB farW at h
  have hle : y % 9223372036854775808 ≤ (1126 - 51) * 4503599627370496 := by have := of_decide_eq_false h; omega
  rw [← rung_pow 1126 (by omega)]
  exact rungVal_le_iff.2 hle
/-- What a sine of the float32 x is. -/
def sineR (x : Nat) : Nat := if finite Ieee.single x then (if farB (widen x) then 0 else Ieee.single.write (Ieee.double.read (sineW (widen x)))) else 2143289344
def RetSine (x : Nat) (w : World) (e : Ending) (w' : World) : Prop := ∃ r n, e = .returned (.float .f32 r) ∧ Eqv Ieee.single r (sineR x) ∧ w' = w.drewN n
theorem RetSine.nan {x r n : Nat} {w : World} (h : finite Ieee.single x = false) (hr : isNaN Ieee.single r = true) : RetSine x w (.returned (.float .f32 r)) (w.drewN n) :=
  ⟨r, n, rfl, .inr ⟨hr, by
    unfold sineR
    rw [h, if_neg (by simp)]
    decide⟩, rfl⟩
theorem RetSine.far {x n : Nat} {w : World} (h : finite Ieee.single x = true) (h2 : farB (widen x) = true) : RetSine x w (.returned (.float .f32 0)) (w.drewN n) :=
  ⟨0, n, rfl, .inl (by unfold sineR; rw [h, h2]; rfl), rfl⟩
theorem RetSine.near {x r n : Nat} {w : World} (h : finite Ieee.single x = true) (h2 : farB (widen x) = false) (hm : Mag 1126 (widen x)) (hr : Nar (sineW (widen x)) r) : RetSine x w (.returned (.float .f32 r)) (w.drewN n) :=
  ⟨r, n, rfl, .inl (by unfold sineR; rw [h, h2]; exact Nar.small (sineW_mag hm) (by omega) hr), rfl⟩
theorem sub_test {r z : Nat} (h : Eqv Ieee.double r (fop .sub .f64 z z)) : (FloatKind.f64.format.order r 0 != some .eq) = !finite Ieee.double z := by
  have h1 := dsub_self z
  have e : FloatKind.f64.format.order r 0 = FloatKind.f64.format.order (fop .sub .f64 z z) 0 := h.order (Eqv.refl _ 0)
  unfold bne
  rw [e]
  exact congrArg Bool.not h1
theorem nan_word : isNaN Ieee.double 9221120237041090561 = true := by decide
set_option maxHeartbeats 400000 in
theorem nan_any (w : World) : Calls Try.prog 32 #[] w fun e w' => e = .returned (.float .f64 9221120237041090561) ∧ w = w' := by
  go_enter Try.func32, Try.ntmps32
  go_wp2
  go_ret
  exact ⟨rfl, rfl⟩
theorem nar_nan {r : Nat} (h : Nar 9221120237041090561 r) : isNaN Ieee.single r = true := by
  obtain ⟨s, t, hr⟩ := read_nan nan_word
  obtain ⟨_, h⟩ := h
  rw [hr] at h
  exact h
theorem nar_plus {r : Nat} (h : Nar 0 r) : r = 0 := nar_zero (s := 0) (by omega) h
set_option maxHeartbeats 1000000 in
theorem sineWide_nan (y : Nat) (h : finite Ieee.double y = false) (w : World) :
    Calls Try.prog 22 #[.float .f64 y] w fun e w' => ∃ n, e = .returned (.float .f64 9221120237041090561) ∧ w' = w.drewN n := by
  go_enter Try.func22, Try.ntmps22
  go_wp2_with (first | (refine wpList_farith rfl _ _ _ _ _ rfl _ _ _ rfl rfl (by rfl) ?_; intro r2 j hr hlt2; have ht := sub_test hr; clear hr hlt2) | (go_at_call 32; refine (nan_any _).mono ?_; rintro e w' ⟨rfl, rfl⟩))
  go_ret
  exact ⟨_, rfl, rfl⟩
set_option maxHeartbeats 1000000 in
theorem sineWide_far (y : Nat) (hf : finite Ieee.double y = true) (hq : farB y = true) (w : World) :
    Calls Try.prog 22 #[.float .f64 y] w fun e w' => e = .returned (.float .f64 0) ∧ w = w' := by
  have hsy := run_fop_some (P := Try.prog) (op := .sub) 25 .f64 y y 0 (sub_same hf)
  have h00 : (FloatKind.f64.format.order 0 0 != some .eq) = false := by decide
  have hfm := far_model (finite_nan hf)
  rw [hq] at hfm
  generalize hA : (FloatKind.f64.format.order y 4841369599423283200 == some .gt || FloatKind.f64.format.order y 4841369599423283200 == some .eq) = A at *
  generalize hB : (FloatKind.f64.format.order y 14064741636278059008 == some .lt || FloatKind.f64.format.order y 14064741636278059008 == some .eq) = B at *
  clear hf hq
  cases A
  · rw [Bool.false_or] at hfm
    subst hfm
    go_enter Try.func22, Try.ntmps22
    go_wp2_with fail
    go_ret
    exact ⟨rfl, rfl⟩
  · clear hfm hB
    go_enter Try.func22, Try.ntmps22
    go_wp2_with fail
    go_ret
    exact ⟨rfl, rfl⟩
theorem sineWide_near (y : Nat) (hf : finite Ieee.double y = true) (hq : farB y = false) (w : World) :
    Calls Try.prog 22 #[.float .f64 y] w fun e w' => e = .returned (.float .f64 (sineW y)) ∧ w = w' := by
  have hfm := far_model (finite_nan hf)
  rw [hq, Bool.or_eq_false_iff] at hfm
  exact sineWide_in y (near_mag hf hq) hfm.1 hfm.2 w
set_option maxHeartbeats 1000000 in
theorem l01Sine_any (x : Nat) (w : World) : Calls Try.prog 10 #[.float .f32 x] w (RetSine x w) := by
  cases hf : finite Ieee.single x
  · have hF := Lib.hid hf
    clear hf
    go_enter Try.func10, Try.ntmps10
    go_wp2_with (first | (refine wpList_widen rfl _ _ _ rfl u32_some Try.underlying25 _ rfl ?_; intro r k hr; have hR := Lib.hid hr.finite; clear hr) | (go_at_call 22; refine (sineWide_nan _ (by rw [hR.out]; exact hF.out) _).mono ?_; rintro e w' ⟨m, rfl, rfl⟩) | (go_at_call 21; refine (l01Narrow_any _ _).mono ?_; rintro e w' ⟨r3, m3, rfl, hr3, rfl⟩; have hN := Lib.hid (nar_nan hr3); clear hr3))
    go_ret
    exact RetSine.nan hF.out hN.out
  · have hcx := run_widen_num (P := Try.prog) 22 25 u32_some Try.underlying25 x (finite_nan hf)
    have hX := Lib.hid hf
    have hWf := (finite_widen (finite_nan hf)).trans hf
    cases hq : farB (widen x)
    · have hS := Lib.hid (sineWide_near (widen x) hWf hq)
      have hM := Lib.hid (near_mag hWf hq)
      have hQ := Lib.hid hq
      have hPost : Hid (∀ r n, Nar (sineW (widen x)) r → RetSine x w (.returned (.float .f32 r)) (w.drewN n)) := Lib.hid fun r n hr => RetSine.near hX.out hQ.out hM.out hr
      clear hf hWf hq hM hQ
      generalize RetSine x w = Q at *
      generalize sineW (widen x) = S at *
      go_enter Try.func10, Try.ntmps10
      go_wp2_with (first | (go_at_call 22; refine (hS.out _).mono ?_; rintro e w' ⟨rfl, rfl⟩) | (go_at_call 21; refine (l01Narrow_any _ _).mono ?_; rintro e w' ⟨r3, m3, rfl, hr3, rfl⟩; have hN := Lib.hid hr3; clear hr3))
      first | exact hPost.out _ _ hN.out | (go_ret; exact hPost.out _ _ hN.out)
    · have hS := Lib.hid (sineWide_far (widen x) hWf hq)
      have hQ := Lib.hid hq
      clear hf hWf hq
      go_enter Try.func10, Try.ntmps10
      go_wp2_with (first | (go_at_call 22; refine (hS.out _).mono ?_; rintro e w' ⟨rfl, rfl⟩) | (go_at_call 21; refine (l01Narrow_any _ _).mono ?_; rintro e w' ⟨r3, m3, rfl, hr3, rfl⟩; have hN := Lib.hid (nar_plus hr3); clear hr3))
      go_ret
      rw [hN.out]
      exact RetSine.far hX.out hQ.out
set_option maxHeartbeats 400000 in
theorem notNumber_any (w : World) : Calls Try.prog 12 #[] w fun e w' => e = .returned (.float .f32 2143289344) ∧ w = w' := by
  go_enter Try.func12, Try.ntmps12
  go_wp2
  go_ret
  exact ⟨rfl, rfl⟩
set_option maxHeartbeats 1000000 in
theorem sineTurns_any (x : Nat) (w : World) : Calls Try.prog 6 #[.float .f32 x] w (RetSine x w) := by
  cases hn : isNaN Ieee.single x
  · have hcx := run_widen_num (P := Try.prog) 22 25 u32_some Try.underlying25 x hn
    have hFw := finite_widen hn
    have hFl := Lib.hid (fun w' => isFiniteLong_any (widen x) (widen_lt x) w')
    cases hf : finite Ieee.single x
    · rw [hFw, hf] at hFl
      have hF := Lib.hid hf
      clear hf hFw hn
      go_enter Try.func6, Try.ntmps6
      go_wp2_with (first | (go_at_call 11; refine (hFl.out _).mono ?_; rintro e w' ⟨m, rfl, rfl⟩) | (go_at_call 12; refine (notNumber_any _).mono ?_; rintro e w' ⟨rfl, rfl⟩))
      go_ret
      exact RetSine.nan hF.out (by decide)
    · have hWf := hFw.trans hf
      rw [hWf] at hFl
      have hX := Lib.hid hf
      have hAb := Lib.hid (fun w' => abs_any (widen x) (widen_lt x) w')
      have hfp := far_program hWf
      cases hq : farB (widen x)
      · have hM := near_mag hWf hq
        have hS := Lib.hid (fun w' => sineOf_any (widen x) hM w')
        have hQ := Lib.hid hq
        have hMM := Lib.hid hM
        have hPost : Hid (∀ r n, Nar (sineW (widen x)) r → RetSine x w (.returned (.float .f32 r)) (w.drewN n)) := Lib.hid fun r n hr => RetSine.near hX.out hQ.out hMM.out hr
        rw [hq] at hfp
        clear hf hWf hq hM hQ hMM hFw hn
        generalize RetSine x w = Q at *
        generalize sineW (widen x) = S at *
        go_enter Try.func6, Try.ntmps6
        go_wp2_with (first | (go_at_call 11; refine (hFl.out _).mono ?_; rintro e w' ⟨m, rfl, rfl⟩) | (go_at_call 13; refine (hAb.out _).mono ?_; rintro e w' ⟨m2, rfl, rfl⟩) | (go_at_call 15; refine (hS.out _).mono ?_; rintro e w' ⟨rfl, rfl⟩) | (go_at_call 14; refine (narrowNumber_any _ _).mono ?_; rintro e w' ⟨r3, m3, rfl, hr3, rfl⟩; have hN := Lib.hid hr3; clear hr3))
        first | exact hPost.out _ _ hN.out | (go_ret; exact hPost.out _ _ hN.out)
      · have hQ := Lib.hid hq
        rw [hq] at hfp
        clear hf hWf hq hFw hn
        go_enter Try.func6, Try.ntmps6
        go_wp2_with (first | (go_at_call 11; refine (hFl.out _).mono ?_; rintro e w' ⟨m, rfl, rfl⟩) | (go_at_call 13; refine (hAb.out _).mono ?_; rintro e w' ⟨m2, rfl, rfl⟩))
        go_ret
        exact RetSine.far hX.out hQ.out
  · have hf : finite Ieee.single x = false := by
      cases hq : finite Ieee.single x
      · rfl
      · rw [finite_nan hq] at hn; cases hn
    have hF := Lib.hid hf
    clear hf hn
    go_enter Try.func6, Try.ntmps6
    go_wp2_with (first | (refine wpList_widen rfl _ _ _ rfl u32_some Try.underlying25 _ rfl ?_; intro r k hr; have hR := Lib.hid hr.finite; have hl := Lib.hid (show r < 18446744073709551616 from hr.1); clear hr) | (go_at_call 11; refine (isFiniteLong_any _ hl.out _).mono ?_; rw [hR.out, hF.out]; rintro e w' ⟨m, rfl, rfl⟩) | (go_at_call 12; refine (notNumber_any _).mono ?_; rintro e w' ⟨rfl, rfl⟩))
    go_ret
    exact RetSine.nan hF.out (by decide)
theorem sineTurns_both (x : Nat) (_ : (Lit.float .f32 x).wf = true) : ∃ (r0 : Nat),
    (∀ (B : Nat) (w : World), B ≤ w.heap.size → Calls Try.prog 5 #[.float .f32 x] w fun e w' => ∃ z, e = .returned (.float .f32 z) ∧ Eqv Ieee.single z r0 ∧ Below w.heap.size w w') ∧
    (∀ (B : Nat) (w : World), B ≤ w.heap.size → Calls Try.prog 6 #[.float .f32 x] w fun e w' => ∃ z, e = .returned (.float .f32 z) ∧ Eqv Ieee.single z r0 ∧ Below w.heap.size w w') := by
  have hS : ∀ w, Calls Try.prog 5 #[.float .f32 x] w (RetSine x w) := fun w => by
    have h := Lib.hid (l01Sine_any x w)
    go_enter Try.func5, Try.ntmps5
    go_wp2_with fail
    refine h.out.mono ?_
    rintro e w' ⟨r, n, rfl, hr, rfl⟩
    have hR := Lib.hid hr
    clear hr
    go_wp2_with fail
    go_ret
    exact ⟨_, _, rfl, hR.out, rfl⟩
  exact ⟨sineR x, fun B w _ => (hS w).mono fun _ _ ⟨r, n, he, hr, hw⟩ => ⟨r, he, hr, by rw [hw]; exact below_drawn _ _⟩, fun B w _ => (sineTurns_any x w).mono fun _ _ ⟨r, n, he, hr, hw⟩ => ⟨r, he, hr, by rw [hw]; exact below_drawn _ _⟩⟩
end Go.Proofs.Ytjiaghiefjnmoaa
