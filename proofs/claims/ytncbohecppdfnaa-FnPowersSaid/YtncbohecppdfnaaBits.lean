/- Contracts: what the functions on the bits of a float32 return, for every float32. -/
import Derived.Test.YtncbohecppdfnaaChecked
import Derived.Test.YtncbohecppdfnaaFloatOrder
import Derived.Test.YtncbohecppdfnaaBase
import Derived.WalkLawsBesides
import Derived.Lib.Hide
namespace Go.Proofs.Ytncbohecppdfnaa
open Go.RowKit FloatKit

/-- The bits of a number, one value for all not-a-numbers. -/
def bitsOf (b : Nat) : Int := if isNaN Ieee.single b then 2143289344 else b

theorem neq_self (k : FloatKind) (b : Nat) : (k.format.order b b != some .eq) = isNaN k.format b := by
  rw [order_self]; cases isNaN k.format b <;> rfl

theorem u32_some : (Try.prog.underlying 43).isSome = true := by rw [Try.underlying43]; rfl
theorem u64_some : (Try.prog.underlying 47).isSome = true := by rw [Try.underlying47]; rfl

@[go_sem] theorem run_f32frombits (b : Int) (w : World) : (callFunc 96 #[.int .u32 b]).run Try.prog w = .ok (.value (.float .f32 b.toNat)) w := by
  rw [run_callFunc_extern (P := Try.prog) (e := Extern.MathFloatBits.float32frombits) Try.func96 (by kernel_rfl) (by kernel_rfl) (by kernel_rfl) (by kernel_rfl)]; rfl
@[go_sem] theorem run_f64bits (b : Nat) (w : World) : (callFunc 100 #[.float .f64 b]).run Try.prog w = .ok (.value (.int .u64 b)) w := by
  rw [run_callFunc_extern (P := Try.prog) (e := Extern.MathFloatBits.float64bits) Try.func100 (by kernel_rfl) (by kernel_rfl) (by kernel_rfl) (by kernel_rfl)]; rfl
@[go_sem] theorem run_f64frombits (b : Int) (w : World) : (callFunc 93 #[.int .u64 b]).run Try.prog w = .ok (.value (.float .f64 b.toNat)) w := by
  rw [run_callFunc_extern (P := Try.prog) (e := Extern.MathFloatBits.float64frombits) Try.func93 (by kernel_rfl) (by kernel_rfl) (by kernel_rfl) (by kernel_rfl)]; rfl


set_option maxHeartbeats 400000 in
set_option maxRecDepth 100000 in
theorem isNaN_any (b : Nat) (w : World) : Calls Try.prog 101 #[.float .f64 b] w (Ret (.bool (isNaN Ieee.double b)) w) := by
  have h0 : (FloatKind.f64.format.order b b != some .eq) = isNaN Ieee.double b := neq_self .f64 b
  go_enter Try.func101, Try.ntmps101
  go_wp2
  go_ret
  exact Ret.now _ _


theorem abs_bits (x : Nat) (hx : x < 18446744073709551616) : bits .andNot .u64 (x : Int) 9223372036854775808 = ((x % 9223372036854775808 : Nat) : Int) := by
  have h := u64_andNot_nat x 9223372036854775808 hx (by omega)
  rw [show ((9223372036854775808 : Nat) : Int) = 9223372036854775808 from rfl] at h
  rw [h, show (18446744073709551615 - 9223372036854775808 : Nat) = 2 ^ 63 - 1 by decide, Nat.and_two_pow_sub_one_eq_mod]

set_option maxHeartbeats 400000 in
set_option maxRecDepth 100000 in
theorem abs_any (b : Nat) (hb : b < 18446744073709551616) (w : World) : Calls Try.prog 94 #[.float .f64 b] w (Ret (.float .f64 (b % 9223372036854775808)) w) := by
  have h0 := abs_bits b hb
  clear hb
  go_enter Try.func94, Try.ntmps94
  go_wp2
  go_ret
  exact Ret.now _ _

set_option maxHeartbeats 400000 in
set_option maxRecDepth 100000 in
theorem isInf0_any (b : Nat) (hb : b < 18446744073709551616) (w : World) : Calls Try.prog 68 #[.float .f64 b, .int .i64 0] w (Ret (.bool (!finite Ieee.double b && !isNaN Ieee.double b)) w) := by
  have h0 : (FloatKind.f64.format.order (b % 9223372036854775808) 9218868437227405311 == some .gt) = (!finite Ieee.double b && !isNaN Ieee.double b) := above_max b
  have hB := Lib.hid hb
  clear hb
  generalize hq : (!finite Ieee.double b && !isNaN Ieee.double b) = q at *
  clear hq
  go_enter Try.func68, Try.ntmps68
  go_wp2_with (go_at_call 94; refine (abs_any _ hB.out _).mono ?_; rintro e w' ⟨m, rfl, rfl⟩)
  go_ret
  exact Ret.later _ _ _

set_option maxHeartbeats 400000 in
set_option maxRecDepth 100000 in
theorem isFiniteLong_any (b : Nat) (hb : b < 18446744073709551616) (w : World) : Calls Try.prog 95 #[.float .f64 b] w (Ret (.bool (finite Ieee.double b)) w) := by
  have hB := Lib.hid hb
  clear hb
  cases hn : isNaN Ieee.double b
  · go_enter Try.func95, Try.ntmps95
    go_wp2_with (first | (go_at_call 101; refine (isNaN_any _ _).mono ?_; rintro e w' ⟨m, rfl, rfl⟩) | (go_at_call 68; refine (isInf0_any _ hB.out _).mono ?_; rintro e w' ⟨m, rfl, rfl⟩))
    go_ret
    exact Ret.later _ _ _
  · have hf : finite Ieee.double b = false := by
      cases hf : finite Ieee.double b
      · rfl
      · rw [finite_nan hf] at hn; cases hn
    rw [hf]
    clear hf
    go_enter Try.func95, Try.ntmps95
    go_wp2_with (first | (go_at_call 101; refine (isNaN_any _ _).mono ?_; rintro e w' ⟨m, rfl, rfl⟩) | (go_at_call 68; refine (isInf0_any _ hB.out _).mono ?_; rintro e w' ⟨m, rfl, rfl⟩))
    go_ret
    exact Ret.later _ _ _

set_option maxHeartbeats 400000 in
set_option maxRecDepth 100000 in
theorem isFinite_any (b : Nat) (w : World) : Calls Try.prog 69 #[.float .f32 b] w (Ret (.bool (finite Ieee.single b)) w) := by
  go_enter Try.func69, Try.ntmps69
  go_wp2_with (first | (refine wpList_widen rfl _ _ _ rfl u32_some Try.underlying47 _ rfl ?_; intro r n hr) | (go_at_call 95; refine (isFiniteLong_any _ (by exact hr.lt) _).mono ?_; rintro e w' ⟨m, rfl, rfl⟩; have hq := hr.finite; clear hr))
  go_ret
  exact Ret.later _ _ _




theorem i64_and_nat (a b : Nat) (ha : a < 9223372036854775808) (hb : b < 9223372036854775808) : bits .and .i64 (a : Int) (b : Int) = ((a &&& b : Nat) : Int) := by
  have hx : a &&& b < 2 ^ 63 := Nat.and_lt_two_pow _ (by omega)
  have h1 : (BitVec.ofInt 64 (a : Int)).toNat = a := by
    rw [BitVec.ofInt_natCast, BitVec.toNat_ofNat]; exact Nat.mod_eq_of_lt (by omega)
  have h2 : (BitVec.ofInt 64 (b : Int)).toNat = b := by
    rw [BitVec.ofInt_natCast, BitVec.toNat_ofNat]; exact Nat.mod_eq_of_lt (by omega)
  show IntKind.i64.wrap ((BitVec.ofInt 64 (a : Int) &&& BitVec.ofInt 64 (b : Int)).toNat : Int) = _
  rw [BitVec.toNat_and, h1, h2, IntKind.wrap_i64]
  omega

/-- The field of the exponent, of the bits of a number. -/
theorem exponent_field (b : Nat) (hb : b < 4294967296) : (bits .and .i64 (bitsOf b) 2139095040 == 0) = decide (b % 2147483648 < 8388608) := by
  unfold bitsOf
  cases hn : isNaN Ieee.single b
  · have h := i64_and_nat b 2139095040 (by omega) (by omega)
    have hm := nat_midmask 31 23 b (by decide)
    have hc : (2 ^ 31 - 2 ^ 23 : Nat) = 2139095040 := by decide
    rw [hc] at hm
    rw [show ((2139095040 : Nat) : Int) = 2139095040 from rfl, hm] at h
    simp only [Bool.false_eq_true, if_false]
    rw [h, Bool.eq_iff_iff, beq_iff_eq, decide_eq_true_eq]
    omega
  · have h := i64_and_nat 2143289344 2139095040 (by omega) (by omega)
    rw [show ((2139095040 : Nat) : Int) = 2139095040 from rfl, show ((2143289344 : Nat) : Int) = 2143289344 from rfl] at h
    simp only [if_true]
    rw [h]
    rw [nan_above single_hb, single_sw, single_inf] at hn
    have := of_decide_eq_true hn
    have h2 : ¬ b % 2147483648 < 8388608 := by omega
    simp [h2]

/-- Not zero, and nearer to zero than all normal numbers. -/
def subnormal (b : Nat) : Bool := !decide (b % 2147483648 = 0) && decide (b % 2147483648 < 8388608)

end Go.Proofs.Ytncbohecppdfnaa
