/- Contracts of the logarithms, for all float32. -/
import Derived.Test.YtjiaghiefjnmoaaLog
namespace FloatKit
open Ieee

/-- A float32 that is a number without a sign and no zero is a normal float64. -/
theorem widen_normal {b : Nat} (h0 : 0 < b) (h1 : b < 2139095040) : 4503599627370496 ≤ widen b ∧ widen b < 9218868437227405312 := by
  have hf : finite single b = true := by
    unfold finite; rw [single_sw, single_inf, Nat.mod_eq_of_lt (by omega)]; exact decide_eq_true h1
  obtain ⟨s, m, e, hr⟩ := (finite_iff single_hb b).1 hf
  obtain ⟨g1, g2, g3⟩ := read_single_bounds hr
  have hs : s = false := by
    have := read_sign hr
    rw [single_sw, Nat.div_eq_of_lt (by omega)] at this
    exact this
  subst hs
  have hm : m ≠ 0 := by
    intro h
    subst h
    obtain ⟨hv, _, _, _⟩ := read_sval single_hb hr
    rw [signed_zero] at hv
    unfold sval at hv
    rw [single_sw, Nat.div_eq_of_lt (by omega), if_neg (by decide), Nat.mod_eq_of_lt (by omega)] at hv
    have h2 : rungVal single b = 0 := by omega
    have := rungVal_inj (f := single) (h2.trans (rungVal_zero single).symm)
    omega
  have hw : widen b = double.nearest false m e := by unfold widen; rw [hr]; rfl
  have hmod : widen b % 9223372036854775808 = widen b := by
    have := nearest_mod double false m e
    rw [double_sw, ← hw] at this
    exact this
  constructor
  · have key := nearest_ge double false m e ((52 - 51) * 4503599627370496) (by decide) (-1074) (by omega) (by decide) (by
      rw [rung_pow 52 (by omega), double_lp, show (-1074 - -1074 : Int).toNat = 0 by decide, Nat.pow_zero, Nat.mul_one]
      have : 2 ^ 52 ≤ 2 ^ (e - -1074).toNat := Nat.pow_le_pow_right (by omega) (by omega)
      exact Nat.le_trans this (Nat.le_mul_of_pos_left _ (by omega)))
    rw [double_sw, ← hw, hmod] at key
    omega
  · have hfw := (finite_widen (finite_nan hf)).trans hf
    unfold finite at hfw
    rw [double_sw, double_inf, hmod] at hfw
    exact of_decide_eq_true hfw

/-- A number with a sign and no zero is less than 0. -/
theorem order_neg {x : Nat} (h1 : 2147483648 < x) (h2 : x < 4294967296) (hn : isNaN single x = false) : (single.order x 0 == some .lt) = true := by
  rw [order_sval single_hb hn (by decide)]
  have s0 : sval single 0 = 0 := by decide
  have hp : 0 < rungVal single (x % 2147483648) := by
    have := rungVal_lt (f := single) (show 0 < x % 2147483648 by omega)
    rw [rungVal_zero] at this; exact this
  have s1 : sval single x = -(rungVal single (x % 2147483648) : Int) := by
    unfold sval
    rw [single_sw, show x / 2147483648 = 1 by omega]; rfl
  rw [s0, s1, show compare (-(rungVal single (x % 2147483648) : Int)) 0 = .lt by simp only [compare, compareOfLessAndEq]; rw [if_pos (by omega)]]
  rfl
theorem order_posr {x : Nat} (h : x ≤ 2139095040) : single.order x 0 = some (compare x 0) := order_pos single_hb (by rw [single_inf]; exact h) (by omega)
end FloatKit
namespace Go.Proofs.Ytjiaghiefjnmoaa
open Go.RowKit FloatKit

/-- A logarithm's kinds: of a positive number, of zero, of the infinity, and none. -/
def RetLog (x : Nat) (w : World) (e : Ending) (w' : World) : Prop := ∃ d r n, e = .returned (.float .f32 r) ∧ w' = w.drewN n ∧
  (if x % 2147483648 = 0 then r = 4286578688 else if x < 2139095040 then Eqv Ieee.double d (logC (redX (widen x)) (redE (widen x))) ∧ Nar d r else if x = 2139095040 then r = 2139095040 else isNaN Ieee.single r = true)

set_option maxHeartbeats 400000 in
theorem nanLog_any (w : World) : Calls Try.prog 32 #[] w fun e w' => e = .returned (.float .f64 9221120237041090561) ∧ w = w' := by
  go_enter Try.func32, Try.ntmps32
  go_wp2
  go_ret
  exact ⟨rfl, rfl⟩
set_option maxHeartbeats 400000 in
theorem infNeg_any (w : World) : Calls Try.prog 33 #[.int .i64 (-1)] w fun e w' => e = .returned (.float .f64 18442240474082181120) ∧ w = w' := by
  go_enter Try.func33, Try.ntmps33
  go_wp2
  go_ret
  exact ⟨rfl, rfl⟩

set_option maxHeartbeats 1000000 in
theorem l01LogWide_nan (Y : Nat) (h : (FloatKind.f64.format.order Y Y != some .eq) = true ∨ (FloatKind.f64.format.order Y Y != some .eq) = false ∧ (FloatKind.f64.format.order Y 0 == some .lt) = true) (w : World) :
    Calls Try.prog 29 #[.float .f64 Y] w fun e w' => e = .returned (.float .f64 9221120237041090561) ∧ w = w' := by
  rcases h with h | ⟨h, h'⟩
  · go_enter Try.func29, Try.ntmps29
    go_wp2_with (go_at_call 32; refine (nanLog_any _).mono ?_; rintro e w' ⟨rfl, rfl⟩)
    go_ret
    exact ⟨rfl, rfl⟩
  · go_enter Try.func29, Try.ntmps29
    go_wp2_with (go_at_call 32; refine (nanLog_any _).mono ?_; rintro e w' ⟨rfl, rfl⟩)
    go_ret
    exact ⟨rfl, rfl⟩

set_option maxHeartbeats 1000000 in
theorem l01LogWide_zero (Y : Nat) (h1 : (FloatKind.f64.format.order Y Y != some .eq) = false) (h2 : (FloatKind.f64.format.order Y 0 == some .lt) = false) (h3 : (FloatKind.f64.format.order Y 0 == some .eq) = true) (w : World) :
    Calls Try.prog 29 #[.float .f64 Y] w fun e w' => e = .returned (.float .f64 18442240474082181120) ∧ w = w' := by
  go_enter Try.func29, Try.ntmps29
  go_wp2_with (go_at_call 33; refine (infNeg_any _).mono ?_; rintro e w' ⟨rfl, rfl⟩)
  go_ret
  exact ⟨rfl, rfl⟩

set_option maxHeartbeats 1000000 in
theorem l01LogWide_inf (w : World) : Calls Try.prog 29 #[.float .f64 9218868437227405312] w fun e w' => e = .returned (.float .f64 9218868437227405312) ∧ w = w' := by
  have h1 : (FloatKind.f64.format.order 9218868437227405312 9218868437227405312 != some .eq) = false := by decide
  have h2 : (FloatKind.f64.format.order 9218868437227405312 0 == some .lt) = false := by decide
  have h3 : (FloatKind.f64.format.order 9218868437227405312 0 == some .eq) = false := by decide
  have h4 : (FloatKind.f64.format.order 9218868437227405312 9218868437227405311 == some .gt) = true := by decide
  go_enter Try.func29, Try.ntmps29
  go_wp2_with (go_at_call 24; refine (isInf1_any _ _).mono ?_; rintro e w' ⟨rfl, rfl⟩)
  go_ret
  exact ⟨rfl, rfl⟩

theorem ozw {x : Nat} (h : isNaN Ieee.single x = false) : Ieee.double.order (widen x) 0 = Ieee.single.order x 0 := by
  have hw0 : widen 0 = 0 := by decide
  have h1 := order_widen h (show isNaN Ieee.single 0 = false by decide)
  rw [hw0] at h1
  exact h1
theorem nar_inf {Y r : Nat} {s : Bool} (h : Nar Y r) (hY : Ieee.double.read Y = .infinity s) : r = Ieee.single.write (.infinity s) := by
  obtain ⟨_, h⟩ := h
  rw [hY] at h
  exact h
theorem nar_nanLog {r : Nat} (h : Nar 9221120237041090561 r) : isNaN Ieee.single r = true := by
  obtain ⟨s, t, hr⟩ := read_nan (show isNaN Ieee.double 9221120237041090561 = true by decide)
  obtain ⟨_, h⟩ := h
  rw [hr] at h
  exact h
theorem zero_facts {x : Nat} (h : x % 2147483648 = 0) : isNaN Ieee.single x = false ∧ Ieee.single.order x 0 = some .eq := by
  have h1 := order_zero x
  rw [decide_eq_true h] at h1
  exact ⟨by rw [nan_above single_hb, single_sw, h]; exact decide_eq_false (by omega), eq_of_beq h1⟩



theorem floatOfInt_mag {n : Int} (h : n.natAbs ≤ 65536) : Mag 1090 (floatOfInt .f64 n) := by
  show Mag 1090 (Ieee.double.nearest (n < 0) n.natAbs 0)
  refine Mag.write _ _ 0 (-1074) 1090 (by omega) (by omega) (by omega) (by omega) ?_
  have h2 : n.natAbs * 2 ^ ((0 : Int) - -1074).toNat ≤ 2 ^ 16 * 2 ^ ((0 : Int) - -1074).toNat := Nat.mul_le_mul_right _ h
  refine Nat.le_trans h2 ?_
  rw [← Nat.pow_add]
  exact Nat.pow_le_pow_right (by omega) (by omega)

theorem log_same {x : Nat} {w1 w2 w1' w2' : World} {e1 e2 : Ending} (h1 : RetLog x w1 e1 w1') (h2 : RetLog x w2 e2 w2') :
    ∃ r1 r2 n1 n2, e1 = .returned (.float .f32 r1) ∧ e2 = .returned (.float .f32 r2) ∧ w1' = w1.drewN n1 ∧ w2' = w2.drewN n2 ∧ Eqv Ieee.single r1 r2 := by
  obtain ⟨d1, r1, n1, rfl, rfl, h1⟩ := h1
  obtain ⟨d2, r2, n2, rfl, rfl, h2⟩ := h2
  refine ⟨r1, r2, n1, n2, rfl, rfl, rfl, rfl, ?_⟩
  by_cases c0 : x % 2147483648 = 0
  · rw [if_pos c0] at h1 h2; exact .inl (h1.trans h2.symm)
  rw [if_neg c0] at h1 h2
  by_cases c1 : x < 2139095040
  · rw [if_pos c1] at h1 h2
    obtain ⟨g1, g2⟩ := widen_normal (b := x) (by omega) c1
    have hX : redX (widen x) < 4609434218613702656 := by
      unfold redX
      split
      · omega
      · split <;> omega
    have hE : (redE (widen x)).natAbs ≤ 65536 := by
      unfold redE
      split
      · omega
      · split <;> omega
    have hm := logC_mag (x := redX (widen x)) (e := redE (widen x)) hX (floatOfInt_mag hE)
    have e := h2.1.eq hm.1
    exact Nar.calm h1.2 h2.2 (h1.1.trans h2.1.symm) (.inr (.inr ⟨1146, by omega, by rw [e]; exact hm⟩))
  rw [if_neg c1] at h1 h2
  by_cases c2 : x = 2139095040
  · rw [if_pos c2] at h1 h2; exact .inl (h1.trans h2.symm)
  · rw [if_neg c2] at h1 h2; exact .inr ⟨h1, h2⟩
end Go.Proofs.Ytjiaghiefjnmoaa
