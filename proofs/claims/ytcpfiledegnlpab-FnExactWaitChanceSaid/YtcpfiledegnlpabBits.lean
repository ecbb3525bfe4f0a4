/- Contracts: what the functions on the bits of a float32 return, for every float32. -/
import Derived.Test.YtcpfiledegnlpabChecked
import Derived.Test.YtcpfiledegnlpabFloatOrder
import Derived.Test.YtcpfiledegnlpabBase
import Derived.WalkLawsBesides
import Derived.Lib.Hide
namespace Go.Proofs.Ytcpfiledegnlpab
open Go.RowKit FloatKit

/-- The bits of a number, one value for all not-a-numbers. -/
def bitsOf (b : Nat) : Int := if isNaN Ieee.single b then 2143289344 else b

theorem neq_self (k : FloatKind) (b : Nat) : (k.format.order b b != some .eq) = isNaN k.format b := by
  rw [order_self]; cases isNaN k.format b <;> rfl

theorem u32_some : (Try.prog.underlying 22).isSome = true := by rw [Try.underlying22]; rfl
theorem u64_some : (Try.prog.underlying 26).isSome = true := by rw [Try.underlying26]; rfl









set_option maxHeartbeats 400000 in
theorem l01Finite_any (b : Nat) (w : World) : Calls Try.prog 96 #[.float .f32 b] w (Ret (.bool (finite Ieee.single b)) w) := by
  go_enter Try.func96, Try.ntmps96
  go_wp2_with (refine wpList_farith rfl _ _ _ _ _ rfl _ _ _ rfl rfl (by rfl) ?_; intro r n hr hlt; have h0 : (FloatKind.f32.format.order r 0 == some .eq) = finite Ieee.single b := (by rw [hr.order (Eqv.refl _ 0)]; exact fsub_self b); clear hr)
  go_ret
  exact Ret.later _ _ _

theorem zero_word {a : Nat} (hn : isNaN Ieee.double a = false) : (FloatKind.f64.format.order a a == some .eq) = true := by
  show (Ieee.double.order a a == some .eq) = true
  rw [order_self, hn]; rfl

set_option maxHeartbeats 400000 in
/-- Numbers that are equal, or both not-a-numbers, are called the same. -/
theorem sameFloat_eqv (a b : Nat) (h : Eqv Ieee.double a b) (w : World) : Calls Try.prog 17 #[.float .f64 a, .float .f64 b] w (Ret (.bool true) w) := by
  have h1 : (FloatKind.f64.format.order a a != some .eq) = isNaN Ieee.double a := neq_self .f64 a
  have h2 : (FloatKind.f64.format.order b b != some .eq) = isNaN Ieee.double b := neq_self .f64 b
  cases hn : isNaN Ieee.double a
  · obtain rfl := h.symm.eq hn
    rw [hn] at h1
    have h3 := zero_word hn
    clear hn h h2
    cases hz : (FloatKind.f64.format.order b 0 == some .eq)
    · go_enter Try.func17, Try.ntmps17
      go_wp2
      go_ret
      exact Ret.now _ _
    · go_enter Try.func17, Try.ntmps17
      go_wp2_with (refine wpList_farith rfl _ _ _ _ _ rfl _ _ _ rfl rfl (by rfl) ?_; intro r n hr hlt; have hg := hr.order (Eqv.refl _ 0); clear hr hlt)
      go_ret
      exact Ret.later _ _ _
  · have hb : isNaN Ieee.double b = true := by rw [← h.nan, hn]
    rw [hn] at h1
    rw [hb] at h2
    clear hn hb h
    go_enter Try.func17, Try.ntmps17
    go_wp2
    go_ret
    exact Ret.now _ _


theorem i64_and_nat (a b : Nat) (ha : a < 9223372036854775808) (hb : b < 9223372036854775808) : bits .and .i64 (a : Int) (b : Int) = ((a &&& b : Nat) : Int) := by
  have hx : a &&& b < 2 ^ 63 := Nat.and_lt_two_pow _ (by omega)
  have h1 : (BitVec.ofInt 64 (a : Int)).toNat = a := by
    rw [BitVec.ofInt_natCast, BitVec.toNat_ofNat]; exact Nat.mod_eq_of_lt (by omega)
  have h2 : (BitVec.ofInt 64 (b : Int)).toNat = b := by
    rw [BitVec.ofInt_natCast, BitVec.toNat_ofNat]; exact Nat.mod_eq_of_lt (by omega)
  show IntKind.i64.wrap ((BitVec.ofInt 64 (a : Int) &&& BitVec.ofInt 64 (b : Int)).toNat : Int) = _
  rw [BitVec.toNat_and, h1, h2, IntKind.wrap_i64]
  omega

/-- The field of the exponent, of the bits of a number. -/
theorem exponent_field (b : Nat) (hb : b < 4294967296) : (bits .and .i64 (bitsOf b) 2139095040 == 0) = decide (b % 2147483648 < 8388608) := by
  unfold bitsOf
  cases hn : isNaN Ieee.single b
  · have h := i64_and_nat b 2139095040 (by omega) (by omega)
    have hm := nat_midmask 31 23 b (by decide)
    have hc : (2 ^ 31 - 2 ^ 23 : Nat) = 2139095040 := by decide
    rw [hc] at hm
    rw [show ((2139095040 : Nat) : Int) = 2139095040 from rfl, hm] at h
    simp only [Bool.false_eq_true, if_false]
    rw [h, Bool.eq_iff_iff, beq_iff_eq, decide_eq_true_eq]
    omega
  · have h := i64_and_nat 2143289344 2139095040 (by omega) (by omega)
    rw [show ((2139095040 : Nat) : Int) = 2139095040 from rfl, show ((2143289344 : Nat) : Int) = 2143289344 from rfl] at h
    simp only [if_true]
    rw [h]
    rw [nan_above single_hb, single_sw, single_inf] at hn
    have := of_decide_eq_true hn
    have h2 : ¬ b % 2147483648 < 8388608 := by omega
    simp [h2]

/-- Not zero, and nearer to zero than all normal numbers. -/
def subnormal (b : Nat) : Bool := !decide (b % 2147483648 = 0) && decide (b % 2147483648 < 8388608)

end Go.Proofs.Ytcpfiledegnlpab
