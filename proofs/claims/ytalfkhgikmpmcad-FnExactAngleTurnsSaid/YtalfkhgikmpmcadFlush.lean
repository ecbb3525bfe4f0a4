/- Contracts of FlushNumber, for every float32: a zero with its sign in place of a subnormal number. -/
import Derived.Test.YtalfkhgikmpmcadBits
namespace FloatKit
open Ieee

/-- A zero is narrowed to the zero of its sign. -/
theorem nar_zero {s : Nat} {r : Nat} (hs : s < 2) (h : Nar (s * 9223372036854775808) r) : r = s * 2147483648 := by
  obtain ⟨_, h⟩ := h
  rcases (show s = 0 ∨ s = 1 by omega) with rfl | rfl
  · have e : double.read (0 * 9223372036854775808) = .number false 0 (-1074) := by decide
    rw [e] at h
    exact h (by decide)
  · have e : double.read (1 * 9223372036854775808) = .number true 0 (-1074) := by decide
    rw [e] at h
    exact h (by decide)
end FloatKit
namespace Go.Proofs.Ytalfkhgikmpmcad
open Go.RowKit FloatKit

/-- A number, but a zero of its sign if it is subnormal. -/
def flush (b : Nat) : Nat := if b % 2147483648 < 8388608 then b / 2147483648 * 2147483648 else b

theorem sign_field (b : Nat) (hb : b < 4294967296) (hn : b % 2147483648 < 8388608) : bits .and .i64 (bitsOf b) 2147483648 = ((b / 2147483648 * 2147483648 : Nat) : Int) := by
  have hq : isNaN Ieee.single b = false := by
    rw [nan_above single_hb, single_sw, single_inf]; exact decide_eq_false (by omega)
  have h := i64_and_nat b 2147483648 (by omega) (by omega)
  have hm := nat_midmask 32 31 b (by decide)
  have hc : (2 ^ 32 - 2 ^ 31 : Nat) = 2147483648 := by decide
  rw [hc] at hm
  rw [show ((2147483648 : Nat) : Int) = 2147483648 from rfl, hm] at h
  unfold bitsOf
  rw [hq]
  simp only [Bool.false_eq_true, if_false]
  rw [h]
  omega

set_option maxHeartbeats 400000 in
theorem l01Flush_any (b : Nat) (hb : b < 4294967296) (w : World) : Calls Try.prog 27 #[.float .f32 b] w (Ret (.float .f32 (flush b)) w) := by
  have h1 := exponent_field b hb
  have hB := Lib.hid hb
  by_cases h : b % 2147483648 < 8388608
  · rw [show flush b = _ from if_pos h]
    have h2 := sign_field b hb h
    have h3 : (0 : Int) ≤ ((b / 2147483648 * 2147483648 : Nat) : Int) := by omega
    have h4 : ((b / 2147483648 * 2147483648 : Nat) : Int) ≤ 4294967295 := by omega
    rw [decide_eq_true h] at h1
    clear hb h
    generalize hz : b / 2147483648 * 2147483648 = z at *
    clear hz
    go_enter Try.func27, Try.ntmps27
    go_wp2_with (first | (go_at_call 47; refine (l01Bits_any _ hB.out _).mono ?_; rintro e w' ⟨m, rfl, rfl⟩) | (go_at_call 48; refine (l01From_any _ (by assumption) (by assumption) _).mono ?_; rintro e w' ⟨m, rfl, rfl⟩))
    go_ret
    exact Ret.later _ _ _
  · rw [show flush b = _ from if_neg h]
    rw [decide_eq_false h] at h1
    clear hb h
    go_enter Try.func27, Try.ntmps27
    go_wp2_with (first | (go_at_call 47; refine (l01Bits_any _ hB.out _).mono ?_; rintro e w' ⟨m, rfl, rfl⟩))
    go_ret
    exact Ret.later _ _ _

theorem copysign_bits (s : Nat) (hs : s < 18446744073709551616) : bits .and .u64 (s : Int) 9223372036854775808 = ((s / 9223372036854775808 * 9223372036854775808 : Nat) : Int) := by
  have h := bits_and_u64_nat s 9223372036854775808 hs (by omega)
  have hm := nat_midmask 64 63 s (by decide)
  have hc : (2 ^ 64 - 2 ^ 63 : Nat) = 9223372036854775808 := by decide
  rw [hc] at hm
  rw [show ((9223372036854775808 : Nat) : Int) = 9223372036854775808 from rfl, hm] at h
  rw [h]
  omega
theorem or_zero_bits (z : Nat) (hz : z < 18446744073709551616) : bits .or .u64 0 (z : Int) = (z : Int) := by
  have h := bits_or_u64_nat 0 z (by omega) hz
  rw [Nat.zero_or] at h
  exact h

set_option maxHeartbeats 400000 in
/-- A zero with the sign of s. -/
theorem copysign_zero (s : Nat) (hs : s < 18446744073709551616) (w : World) : Calls Try.prog 29 #[.float .f64 0, .float .f64 s] w (Ret (.float .f64 (s / 9223372036854775808 * 9223372036854775808)) w) := by
  have h1 := copysign_bits s hs
  have h2 : bits .andNot .u64 0 9223372036854775808 = 0 := by decide
  have h3 := or_zero_bits (s / 9223372036854775808 * 9223372036854775808) (by omega)
  generalize hz : s / 9223372036854775808 * 9223372036854775808 = z at *
  clear hz hs
  go_enter Try.func29, Try.ntmps29
  go_wp2
  go_ret
  exact Ret.now _ _

set_option maxHeartbeats 400000 in
theorem flushNumber_any (b : Nat) (hb : b < 4294967296) (w : World) : Calls Try.prog 11 #[.float .f32 b] w (Ret (.float .f32 (flush b)) w) := by
  cases hs : subnormal b
  · have hf : flush b = b := by
      unfold flush
      unfold subnormal at hs
      simp at hs
      by_cases h : b % 2147483648 < 8388608
      · rw [if_pos h]
        have : b % 2147483648 = 0 := by
          by_cases h0 : b % 2147483648 = 0
          · exact h0
          · have := hs h0; omega
        omega
      · rw [if_neg h]
    rw [hf]
    have hS := Lib.hid hs
    clear hs hf hb
    go_enter Try.func11, Try.ntmps11
    go_wp2_with (go_at_call 28; refine (isSubnormal_any _ _).mono ?_; rintro e w' ⟨m, rfl, rfl⟩; rw [hS.out])
    go_ret
    exact Ret.later _ _ _
  · have hlt : b % 2147483648 < 8388608 := by
      unfold subnormal at hs
      simp at hs
      exact hs.2
    have hn : isNaN Ieee.single b = false := by
      rw [nan_above single_hb, single_sw, single_inf]; exact decide_eq_false (by omega)
    have hw := widen_sign hb hn
    have hf : flush b = b / 2147483648 * 2147483648 := if_pos hlt
    rw [hf]
    have hS := Lib.hid hs
    have hF : Hid (∀ x r, Wid b x → Nar (x / 9223372036854775808 * 9223372036854775808) r → r = b / 2147483648 * 2147483648) := Lib.hid fun x r hx hr => by
      rw [hx.eq hn, hw] at hr
      exact nar_zero (by omega) hr
    clear hs hf hb hlt hn hw
    go_enter Try.func11, Try.ntmps11
    go_wp2_with (first | (go_at_call 28; refine (isSubnormal_any _ _).mono ?_; rintro e w' ⟨m, rfl, rfl⟩; rw [hS.out]) | (refine wpList_widen rfl _ _ _ rfl u32_some Try.underlying25 _ rfl ?_; intro x n hx; have hL := Lib.hid hx.lt; have hX := Lib.hid hx; clear hx) | (go_at_call 29; refine (copysign_zero _ (by exact hL.out) _).mono ?_; rintro e w' ⟨m, rfl, rfl⟩) | (refine wpList_narrow rfl _ _ _ rfl u64_some Try.underlying22 _ rfl ?_; intro r n hr; obtain rfl := hF.out _ _ hX.out hr; clear hr))
    go_ret
    exact Ret.later _ _ _
end Go.Proofs.Ytalfkhgikmpmcad
