/- Contracts of the logarithms, for all float32. -/
import Derived.Test.YtncbohecppdfnaaLog
namespace FloatKit
open Ieee

/-- A float32 that is a number without a sign and no zero is a normal float64. -/
theorem widen_normal {b : Nat} (h0 : 0 < b) (h1 : b < 2139095040) : 4503599627370496 ≤ widen b ∧ widen b < 9218868437227405312 := by
  have hf : finite single b = true := by
    unfold finite; rw [single_sw, single_inf, Nat.mod_eq_of_lt (by omega)]; exact decide_eq_true h1
  obtain ⟨s, m, e, hr⟩ := (finite_iff single_hb b).1 hf
  obtain ⟨g1, g2, g3⟩ := read_single_bounds hr
  have hs : s = false := by
    have := read_sign hr
    rw [single_sw, Nat.div_eq_of_lt (by omega)] at this
    exact this
  subst hs
  have hm : m ≠ 0 := by
    intro h
    subst h
    obtain ⟨hv, _, _, _⟩ := read_sval single_hb hr
    rw [signed_zero] at hv
    unfold sval at hv
    rw [single_sw, Nat.div_eq_of_lt (by omega), if_neg (by decide), Nat.mod_eq_of_lt (by omega)] at hv
    have h2 : rungVal single b = 0 := by omega
    have := rungVal_inj (f := single) (h2.trans (rungVal_zero single).symm)
    omega
  have hw : widen b = double.nearest false m e := by unfold widen; rw [hr]; rfl
  have hmod : widen b % 9223372036854775808 = widen b := by
    have := nearest_mod double false m e
    rw [double_sw, ← hw] at this
    exact this
  constructor
  · have key := nearest_ge double false m e ((52 - 51) * 4503599627370496) (by decide) (-1074) (by omega) (by decide) (by
      rw [rung_pow 52 (by omega), double_lp, show (-1074 - -1074 : Int).toNat = 0 by decide, Nat.pow_zero, Nat.mul_one]
      have : 2 ^ 52 ≤ 2 ^ (e - -1074).toNat := Nat.pow_le_pow_right (by omega) (by omega)
      exact Nat.le_trans this (Nat.le_mul_of_pos_left _ (by omega)))
    rw [double_sw, ← hw, hmod] at key
    omega
  · have hfw := (finite_widen (finite_nan hf)).trans hf
    unfold finite at hfw
    rw [double_sw, double_inf, hmod] at hfw
    exact of_decide_eq_true hfw

/-- A number with a sign and no zero is less than 0. -/
theorem order_neg {x : Nat} (h1 : 2147483648 < x) (h2 : x < 4294967296) (hn : isNaN single x = false) : (single.order x 0 == some .lt) = true := by
  rw [order_sval single_hb hn (by decide)]
  have s0 : sval single 0 = 0 := by decide
  have hp : 0 < rungVal single (x % 2147483648) := by
    have := rungVal_lt (f := single) (show 0 < x % 2147483648 by omega)
    rw [rungVal_zero] at this; exact this
  have s1 : sval single x = -(rungVal single (x % 2147483648) : Int) := by
    unfold sval
    rw [single_sw, show x / 2147483648 = 1 by omega]; rfl
  rw [s0, s1, show compare (-(rungVal single (x % 2147483648) : Int)) 0 = .lt by simp only [compare, compareOfLessAndEq]; rw [if_pos (by omega)]]
  rfl
theorem order_posr {x : Nat} (h : x ≤ 2139095040) : single.order x 0 = some (compare x 0) := order_pos single_hb (by rw [single_inf]; exact h) (by omega)
end FloatKit
namespace Go.Proofs.Ytncbohecppdfnaa
open Go.RowKit FloatKit

/-- A logarithm's kinds: of a positive number, of zero, of the infinity, and none. -/
def RetLog (x : Nat) (w : World) (e : Ending) (w' : World) : Prop := ∃ d r n, e = .returned (.float .f32 r) ∧ w' = w.drewN n ∧
  (if x % 2147483648 = 0 then r = 4286578688 else if x < 2139095040 then Eqv Ieee.double d (logC (redX (widen x)) (redE (widen x))) ∧ Nar d r else if x = 2139095040 then r = 2139095040 else isNaN Ieee.single r = true)

set_option maxHeartbeats 400000 in
theorem infNeg_any (w : World) : Calls Try.prog 66 #[.int .i64 (-1)] w fun e w' => e = .returned (.float .f64 18442240474082181120) ∧ w = w' := by
  go_enter Try.func66, Try.ntmps66
  go_wp2
  go_ret
  exact ⟨rfl, rfl⟩

theorem ozw {x : Nat} (h : isNaN Ieee.single x = false) : Ieee.double.order (widen x) 0 = Ieee.single.order x 0 := by
  have hw0 : widen 0 = 0 := by decide
  have h1 := order_widen h (show isNaN Ieee.single 0 = false by decide)
  rw [hw0] at h1
  exact h1
theorem nar_inf {Y r : Nat} {s : Bool} (h : Nar Y r) (hY : Ieee.double.read Y = .infinity s) : r = Ieee.single.write (.infinity s) := by
  obtain ⟨_, h⟩ := h
  rw [hY] at h
  exact h
theorem nar_nanLog {r : Nat} (h : Nar 9221120237041090561 r) : isNaN Ieee.single r = true := by
  obtain ⟨s, t, hr⟩ := read_nan (show isNaN Ieee.double 9221120237041090561 = true by decide)
  obtain ⟨_, h⟩ := h
  rw [hr] at h
  exact h
theorem zero_facts {x : Nat} (h : x % 2147483648 = 0) : isNaN Ieee.single x = false ∧ Ieee.single.order x 0 = some .eq := by
  have h1 := order_zero x
  rw [decide_eq_true h] at h1
  exact ⟨by rw [nan_above single_hb, single_sw, h]; exact decide_eq_false (by omega), eq_of_beq h1⟩


set_option maxHeartbeats 400000 in
theorem notNumberLog_any (w : World) : Calls Try.prog 70 #[] w fun e w' => e = .returned (.float .f32 2143289344) ∧ w = w' := by
  go_enter Try.func70, Try.ntmps70
  go_wp2
  go_ret
  exact ⟨rfl, rfl⟩

theorem neg_not_above {x : Nat} (h1 : 2147483648 < x) (h2 : x < 4294967296) (hn : isNaN Ieee.single x = false) : (FloatKind.f64.format.order (widen x) 9218868437227405311 == some .gt) = false := by
  show (Ieee.double.order (widen x) 9218868437227405311 == some .gt) = false
  have hw := widen_sign h2 hn
  rw [order_sval double_hb (widen_not_nan hn) (by decide)]
  have s1 : sval Ieee.double (widen x) = -(rungVal Ieee.double (widen x % 9223372036854775808) : Int) := by
    unfold sval
    rw [double_sw, hw, show x / 2147483648 = 1 by omega]; rfl
  have s2 : sval Ieee.double 9218868437227405311 = (rungVal Ieee.double 9218868437227405311 : Int) := by
    unfold sval
    rw [double_sw]; rfl
  rw [s1, s2, beq_eq_false_iff_ne]
  intro hh
  have hg := Option.some.inj hh
  simp only [compare, compareOfLessAndEq] at hg
  split at hg
  · cases hg
  · split at hg
    · cases hg
    · omega

set_option maxHeartbeats 1000000 in
theorem logNumber_any (x : Nat) (hx : x < 4294967296) (w : World) : Calls Try.prog 37 #[.float .f32 x] w (RetLog x w) := by
  by_cases c0 : x % 2147483648 = 0
  · have t1 : (FloatKind.f32.format.order x 0 == some .eq) = true := (order_zero x).trans (decide_eq_true c0)
    have hP : Hid (∀ r n, Nar 18442240474082181120 r → RetLog x w (.returned (.float .f32 r)) (w.drewN n)) := Lib.hid fun r n h =>
      ⟨0, r, n, rfl, rfl, by rw [if_pos c0]; exact nar_inf h (s := true) (by decide)⟩
    clear c0 hx
    generalize RetLog x w = Post at *
    go_enter Try.func37, Try.ntmps37
    go_wp2_with (first | (go_at_call 66; refine (infNeg_any _).mono ?_; rintro e w' ⟨rfl, rfl⟩) | (refine wpList_narrow rfl _ _ _ rfl u64_some Try.underlying43 _ rfl ?_; intro r n hr; have hN := Lib.hid hr; clear hr))
    exact hP.out _ _ hN.out
  have t1 : (FloatKind.f32.format.order x 0 == some .eq) = false := (order_zero x).trans (decide_eq_false c0)
  by_cases c1 : x < 2139095040
  · have hn : isNaN Ieee.single x = false := by rw [nan_above single_hb, single_sw, single_inf, Nat.mod_eq_of_lt (by omega)]; exact decide_eq_false (by omega)
    have hf : finite Ieee.single x = true := by unfold finite; rw [single_sw, single_inf, Nat.mod_eq_of_lt (by omega)]; exact decide_eq_true c1
    have hcx := run_widen_num (P := Try.prog) 43 47 u32_some Try.underlying47 x hn
    obtain ⟨g1, g2⟩ := widen_normal (b := x) (by omega) c1
    have hC := Lib.hid (logOf_any (widen x) g1 g2)
    have t3 : (FloatKind.f64.format.order (widen x) 9218868437227405311 == some .gt) = false := by
      have h : FloatKind.f64.format.order (widen x) 9218868437227405311 = some (compare (widen x) 9218868437227405311) := order_pos (f := Ieee.double) double_hb (by rw [double_inf]; omega) (by rw [double_inf]; omega)
      rw [h, beq_eq_false_iff_ne]
      intro hh
      have := Nat.compare_eq_gt.1 (Option.some.inj hh)
      omega
    have t4 : (FloatKind.f32.format.order x 0 == some .lt) = false := by
      rw [show FloatKind.f32.format.order x 0 = some (compare x 0) from order_posr (by omega), Nat.compare_eq_gt.2 (show 0 < x by omega)]; rfl
    have hP : Hid (∀ d r n, Eqv Ieee.double d (logC (redX (widen x)) (redE (widen x))) → Nar d r → RetLog x w (.returned (.float .f32 r)) (w.drewN n)) := Lib.hid fun d r n h h' =>
      ⟨d, r, n, rfl, rfl, by rw [if_neg c0, if_pos c1]; exact ⟨h, h'⟩⟩
    clear c0 c1 hn g1 g2 hx
    generalize RetLog x w = Post at *
    go_enter Try.func37, Try.ntmps37
    go_wp2_with (first | (go_at_call 68; refine (isInf1_any _ _).mono ?_; rintro e w' ⟨rfl, rfl⟩) | (go_at_call 69; refine (isFinite_any _ _).mono ?_; rintro e w' ⟨m, rfl, rfl⟩) | (go_at_call 71; refine (hC.out _).mono ?_; rintro e w' ⟨d, m, rfl, hd, _, rfl⟩; have hD := Lib.hid hd; clear hd) | (go_at_call 67; refine (narrowNumber_any _ _).mono ?_; rintro e w' ⟨r, m, rfl, hr, rfl⟩; have hN := Lib.hid hr; clear hr))
    exact hP.out _ _ _ hD.out hN.out
  by_cases c2 : x = 2139095040
  · subst c2
    have hcx := run_widen_num (P := Try.prog) 43 47 u32_some Try.underlying47 2139095040 (by decide)
    rw [show widen 2139095040 = 9218868437227405312 by decide] at hcx
    have t3 : (FloatKind.f64.format.order 9218868437227405312 9218868437227405311 == some .gt) = true := by decide
    have hP : Hid (∀ n, RetLog 2139095040 w (.returned (.float .f32 2139095040)) (w.drewN n)) := Lib.hid fun n =>
      ⟨0, _, n, rfl, rfl, by rw [if_neg c0, if_neg c1, if_pos rfl]⟩
    clear c0 c1 hx
    generalize RetLog 2139095040 w = Post at *
    go_enter Try.func37, Try.ntmps37
    go_wp2_with (first | (go_at_call 68; refine (isInf1_any _ _).mono ?_; rintro e w' ⟨rfl, rfl⟩))
    exact hP.out 0
  · have hP : Hid (∀ n, RetLog x w (.returned (.float .f32 2143289344)) (w.drewN n)) := Lib.hid fun n =>
      ⟨0, _, n, rfl, rfl, by rw [if_neg c0, if_neg c1, if_neg c2]; decide⟩
    have hT : Hid (∀ Y, Wid x Y → (FloatKind.f64.format.order Y 9218868437227405311 == some .gt) = false) := Lib.hid fun Y hY => by
      cases hn : isNaN Ieee.single x
      · have hb : 2147483648 < x := by
          rw [nan_above single_hb, single_sw, single_inf] at hn
          have := of_decide_eq_false hn
          omega
        have e := hY.eq hn
        subst e
        exact neg_not_above hb hx hn
      · show (Ieee.double.order Y 9218868437227405311 == some .gt) = false
        rw [order_nan_left _ _ _ (hY.nan.trans hn)]; rfl
    cases hf : finite Ieee.single x
    · clear c0 c1 c2 hx
      generalize RetLog x w = Post at *
      go_enter Try.func37, Try.ntmps37
      go_wp2_with (first | (refine wpList_widen rfl _ _ _ rfl u32_some Try.underlying47 _ rfl ?_; intro Y n hY; have t3 := hT.out _ hY; clear hY) | (go_at_call 68; refine (isInf1_any _ _).mono ?_; rintro e w' ⟨rfl, rfl⟩) | (go_at_call 69; refine (isFinite_any _ _).mono ?_; rintro e w' ⟨m, rfl, rfl⟩) | (go_at_call 70; refine (notNumberLog_any _).mono ?_; rintro e w' ⟨rfl, rfl⟩))
      exact hP.out _
    · have hn := finite_nan hf
      have hb : 2147483648 < x := by
        rw [nan_above single_hb, single_sw, single_inf] at hn
        have := of_decide_eq_false hn
        omega
      have t4 : (FloatKind.f32.format.order x 0 == some .lt) = true := order_neg hb hx hn
      clear c0 c1 c2 hx hn hb
      generalize RetLog x w = Post at *
      go_enter Try.func37, Try.ntmps37
      go_wp2_with (first | (refine wpList_widen rfl _ _ _ rfl u32_some Try.underlying47 _ rfl ?_; intro Y n hY; have t3 := hT.out _ hY; clear hY) | (go_at_call 68; refine (isInf1_any _ _).mono ?_; rintro e w' ⟨rfl, rfl⟩) | (go_at_call 69; refine (isFinite_any _ _).mono ?_; rintro e w' ⟨m, rfl, rfl⟩) | (go_at_call 70; refine (notNumberLog_any _).mono ?_; rintro e w' ⟨rfl, rfl⟩))
      exact hP.out _

theorem floatOfInt_mag {n : Int} (h : n.natAbs ≤ 65536) : Mag 1090 (floatOfInt .f64 n) := by
  show Mag 1090 (Ieee.double.nearest (n < 0) n.natAbs 0)
  refine Mag.write _ _ 0 (-1074) 1090 (by omega) (by omega) (by omega) (by omega) ?_
  have h2 : n.natAbs * 2 ^ ((0 : Int) - -1074).toNat ≤ 2 ^ 16 * 2 ^ ((0 : Int) - -1074).toNat := Nat.mul_le_mul_right _ h
  refine Nat.le_trans h2 ?_
  rw [← Nat.pow_add]
  exact Nat.pow_le_pow_right (by omega) (by omega)

theorem log_same {x : Nat} {w1 w2 w1' w2' : World} {e1 e2 : Ending} (h1 : RetLog x w1 e1 w1') (h2 : RetLog x w2 e2 w2') :
    ∃ r1 r2 n1 n2, e1 = .returned (.float .f32 r1) ∧ e2 = .returned (.float .f32 r2) ∧ w1' = w1.drewN n1 ∧ w2' = w2.drewN n2 ∧ Eqv Ieee.single r1 r2 := by
  obtain ⟨d1, r1, n1, rfl, rfl, h1⟩ := h1
  obtain ⟨d2, r2, n2, rfl, rfl, h2⟩ := h2
  refine ⟨r1, r2, n1, n2, rfl, rfl, rfl, rfl, ?_⟩
  by_cases c0 : x % 2147483648 = 0
  · rw [if_pos c0] at h1 h2; exact .inl (h1.trans h2.symm)
  rw [if_neg c0] at h1 h2
  by_cases c1 : x < 2139095040
  · rw [if_pos c1] at h1 h2
    obtain ⟨g1, g2⟩ := widen_normal (b := x) (by omega) c1
    have hX : redX (widen x) < 4609434218613702656 := by
      unfold redX
      split
      · omega
      · split <;> omega
    have hE : (redE (widen x)).natAbs ≤ 65536 := by
      unfold redE
      split
      · omega
      · split <;> omega
    have hm := logC_mag (x := redX (widen x)) (e := redE (widen x)) hX (floatOfInt_mag hE)
    have e := h2.1.eq hm.1
    exact Nar.calm h1.2 h2.2 (h1.1.trans h2.1.symm) (.inr (.inr ⟨1146, by omega, by rw [e]; exact hm⟩))
  rw [if_neg c1] at h1 h2
  by_cases c2 : x = 2139095040
  · rw [if_pos c2] at h1 h2; exact .inl (h1.trans h2.symm)
  · rw [if_neg c2] at h1 h2; exact .inr ⟨h1, h2⟩
end Go.Proofs.Ytncbohecppdfnaa
