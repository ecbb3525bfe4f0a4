/- Contracts: what the functions on the bits of a float32 return, for every float32. -/
import Derived.Test.YtjpmliigepegaaaDoorChecked
import Derived.Test.YtjpmliigepegaaaDoorFloatOrder
import Derived.Test.YtjpmliigepegaaaDoorBase
import Derived.WalkLawsBesides
import Derived.Lib.Hide
namespace Go.Proofs.YtjpmliigepegaaaDoor
open Go.RowKit FloatKit

/-- The bits of a number, one value for all not-a-numbers. -/
def bitsOf (b : Nat) : Int := if isNaN Ieee.single b then 2143289344 else b

theorem neq_self (k : FloatKind) (b : Nat) : (k.format.order b b != some .eq) = isNaN k.format b := by
  rw [order_self]; cases isNaN k.format b <;> rfl

theorem u32_some : (Tryd.prog.underlying 36).isSome = true := by rw [Tryd.underlying36]; rfl
theorem u64_some : (Tryd.prog.underlying 33).isSome = true := by rw [Tryd.underlying33]; rfl

@[go_sem] theorem run_f32bits (b : Nat) (w : World) : (callFunc 25 #[.float .f32 b]).run Tryd.prog w = .ok (.value (.int .u32 b)) w := by
  rw [run_callFunc_extern (P := Tryd.prog) (e := Extern.MathFloatBits.float32bits) Tryd.func25 (by kernel_rfl) (by kernel_rfl) (by kernel_rfl) (by kernel_rfl)]; rfl
@[go_sem] theorem run_f32frombits (b : Int) (w : World) : (callFunc 24 #[.int .u32 b]).run Tryd.prog w = .ok (.value (.float .f32 b.toNat)) w := by
  rw [run_callFunc_extern (P := Tryd.prog) (e := Extern.MathFloatBits.float32frombits) Tryd.func24 (by kernel_rfl) (by kernel_rfl) (by kernel_rfl) (by kernel_rfl)]; rfl

set_option maxHeartbeats 400000 in
set_option maxRecDepth 100000 in
theorem l01Bits_any (b : Nat) (hb : b < 4294967296) (w : World) : Calls Tryd.prog 19 #[.float .f32 b] w (Ret (.int .i64 (bitsOf b)) w) := by
  have h0 := neq_self .f32 b
  have h1 : (b : Int) ≤ 4294967295 := by omega
  have h2 : (0 : Int) ≤ b := by omega
  cases hn : isNaN FloatKind.f32.format b
  · rw [hn] at h0
    have hv : bitsOf b = b := by unfold bitsOf; rw [show isNaN Ieee.single b = false from hn]; rfl
    rw [hv]
    clear hv hn
    go_enter Tryd.func19, Tryd.ntmps19
    go_wp2
    go_ret
    exact Ret.now _ _
  · rw [hn] at h0
    have hv : bitsOf b = 2143289344 := by unfold bitsOf; rw [show isNaN Ieee.single b = true from hn]; rfl
    rw [hv]
    clear hv hn
    go_enter Tryd.func19, Tryd.ntmps19
    go_wp2
    go_ret
    exact Ret.now _ _

set_option maxHeartbeats 400000 in
set_option maxRecDepth 100000 in
theorem isNaN_any (b : Nat) (w : World) : Calls Tryd.prog 29 #[.float .f64 b] w (Ret (.bool (isNaN Ieee.double b)) w) := by
  have h0 : (FloatKind.f64.format.order b b != some .eq) = isNaN Ieee.double b := neq_self .f64 b
  go_enter Tryd.func29, Tryd.ntmps29
  go_wp2
  go_ret
  exact Ret.now _ _

set_option maxHeartbeats 400000 in
set_option maxRecDepth 100000 in
theorem bitsOf_any (b : Nat) (hb : b < 4294967296) (w : World) : Calls Tryd.prog 23 #[.float .f32 b] w (Ret (.int .i64 (bitsOf b)) w) := by
  have h1 : (b : Int) ≤ 4294967295 := by omega
  have h2 : (0 : Int) ≤ b := by omega
  cases hn : isNaN Ieee.single b
  · have hv : bitsOf b = b := by unfold bitsOf; rw [hn]; rfl
    rw [hv]
    have hN := Lib.hid hn
    clear hv hn
    go_enter Tryd.func23, Tryd.ntmps23
    go_wp2_with (first | (refine wpList_widen rfl _ _ _ rfl u32_some Tryd.underlying33 _ rfl ?_; intro r n hr; have hq := hr.nan.trans hN.out; clear hr) | (go_at_call 29; refine (isNaN_any _ _).mono ?_; rintro e w' ⟨m, rfl, rfl⟩))
    go_ret
    exact Ret.later _ _ _
  · have hv : bitsOf b = 2143289344 := by unfold bitsOf; rw [hn]; rfl
    rw [hv]
    have hN := Lib.hid hn
    clear hv hn
    go_enter Tryd.func23, Tryd.ntmps23
    go_wp2_with (first | (refine wpList_widen rfl _ _ _ rfl u32_some Tryd.underlying33 _ rfl ?_; intro r n hr; have hq := hr.nan.trans hN.out; clear hr) | (go_at_call 29; refine (isNaN_any _ _).mono ?_; rintro e w' ⟨m, rfl, rfl⟩))
    go_ret
    exact Ret.later _ _ _






theorem zero_word {a : Nat} (hn : isNaN Ieee.double a = false) : (FloatKind.f64.format.order a a == some .eq) = true := by
  show (Ieee.double.order a a == some .eq) = true
  rw [order_self, hn]; rfl

set_option maxHeartbeats 400000 in
set_option maxRecDepth 100000 in
/-- Numbers that are equal, or both not-a-numbers, are called the same. -/
theorem sameFloat_eqv (a b : Nat) (h : Eqv Ieee.double a b) (w : World) : Calls Tryd.prog 17 #[.float .f64 a, .float .f64 b] w (Ret (.bool true) w) := by
  have h1 : (FloatKind.f64.format.order a a != some .eq) = isNaN Ieee.double a := neq_self .f64 a
  have h2 : (FloatKind.f64.format.order b b != some .eq) = isNaN Ieee.double b := neq_self .f64 b
  cases hn : isNaN Ieee.double a
  · obtain rfl := h.symm.eq hn
    rw [hn] at h1
    have h3 := zero_word hn
    clear hn h h2
    cases hz : (FloatKind.f64.format.order b 0 == some .eq)
    · go_enter Tryd.func17, Tryd.ntmps17
      go_wp2
      go_ret
      exact Ret.now _ _
    · go_enter Tryd.func17, Tryd.ntmps17
      go_wp2_with (refine wpList_farith rfl _ _ _ _ _ rfl _ _ _ rfl rfl (by rfl) ?_; intro r n hr hlt; have hg := hr.order (Eqv.refl _ 0); clear hr hlt)
      go_ret
      exact Ret.later _ _ _
  · have hb : isNaN Ieee.double b = true := by rw [← h.nan, hn]
    rw [hn] at h1
    rw [hb] at h2
    clear hn hb h
    go_enter Tryd.func17, Tryd.ntmps17
    go_wp2
    go_ret
    exact Ret.now _ _

set_option maxHeartbeats 400000 in
set_option maxRecDepth 100000 in
theorem l01From_any (n : Int) (h1 : 0 ≤ n) (h2 : n ≤ 4294967295) (w : World) : Calls Tryd.prog 18 #[.int .i64 n] w (Ret (.float .f32 n.toNat) w) := by
  go_enter Tryd.func18, Tryd.ntmps18
  go_wp2
  go_ret
  exact Ret.now _ _

theorem i64_and_nat (a b : Nat) (ha : a < 9223372036854775808) (hb : b < 9223372036854775808) : bits .and .i64 (a : Int) (b : Int) = ((a &&& b : Nat) : Int) := by
  have hx : a &&& b < 2 ^ 63 := Nat.and_lt_two_pow _ (by omega)
  have h1 : (BitVec.ofInt 64 (a : Int)).toNat = a := by
    rw [BitVec.ofInt_natCast, BitVec.toNat_ofNat]; exact Nat.mod_eq_of_lt (by omega)
  have h2 : (BitVec.ofInt 64 (b : Int)).toNat = b := by
    rw [BitVec.ofInt_natCast, BitVec.toNat_ofNat]; exact Nat.mod_eq_of_lt (by omega)
  show IntKind.i64.wrap ((BitVec.ofInt 64 (a : Int) &&& BitVec.ofInt 64 (b : Int)).toNat : Int) = _
  rw [BitVec.toNat_and, h1, h2, IntKind.wrap_i64]
  omega

/-- The field of the exponent, of the bits of a number. -/
theorem exponent_field (b : Nat) (hb : b < 4294967296) : (bits .and .i64 (bitsOf b) 2139095040 == 0) = decide (b % 2147483648 < 8388608) := by
  unfold bitsOf
  cases hn : isNaN Ieee.single b
  · have h := i64_and_nat b 2139095040 (by omega) (by omega)
    have hm := nat_midmask 31 23 b (by decide)
    have hc : (2 ^ 31 - 2 ^ 23 : Nat) = 2139095040 := by decide
    rw [hc] at hm
    rw [show ((2139095040 : Nat) : Int) = 2139095040 from rfl, hm] at h
    simp only [Bool.false_eq_true, if_false]
    rw [h, Bool.eq_iff_iff, beq_iff_eq, decide_eq_true_eq]
    omega
  · have h := i64_and_nat 2143289344 2139095040 (by omega) (by omega)
    rw [show ((2139095040 : Nat) : Int) = 2139095040 from rfl, show ((2143289344 : Nat) : Int) = 2143289344 from rfl] at h
    simp only [if_true]
    rw [h]
    rw [nan_above single_hb, single_sw, single_inf] at hn
    have := of_decide_eq_true hn
    have h2 : ¬ b % 2147483648 < 8388608 := by omega
    simp [h2]

/-- Not zero, and nearer to zero than all normal numbers. -/
def subnormal (b : Nat) : Bool := !decide (b % 2147483648 = 0) && decide (b % 2147483648 < 8388608)

end Go.Proofs.YtjpmliigepegaaaDoor
