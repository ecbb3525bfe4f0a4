/- Contracts: what the functions on the bits of a float32 return, for every float32. -/
import Derived.Test.YtalfkhgikmpmcaaChecked
import Derived.Test.YtalfkhgikmpmcaaFloatOrder
import Derived.WalkLawsBesides
import Derived.Lib.Hide
namespace Go.Proofs.Ytalfkhgikmpmcaa
open Go.RowKit FloatKit

/-- The call returns this value; the world is as it was but for answers drawn. -/
def Ret (v : Value) (w : World) (e : Ending) (w' : World) : Prop := ∃ n, e = .returned v ∧ w' = w.drewN n
theorem Ret.now (v : Value) (w : World) : Ret v w (.returned v) w := ⟨0, rfl, rfl⟩
theorem Ret.later (v : Value) (w : World) (n : Nat) : Ret v w (.returned v) (w.drewN n) := ⟨n, rfl, rfl⟩

/-- The bits of a number, one value for all not-a-numbers. -/
def bitsOf (b : Nat) : Int := if isNaN Ieee.single b then 2143289344 else b

theorem neq_self (k : FloatKind) (b : Nat) : (k.format.order b b != some .eq) = isNaN k.format b := by
  rw [order_self]; cases isNaN k.format b <;> rfl

theorem u32_some : (Try.prog.underlying 28).isSome = true := by rw [Try.underlying28]; rfl
theorem u64_some : (Try.prog.underlying 27).isSome = true := by rw [Try.underlying27]; rfl

@[go_sem] theorem run_f32bits (b : Nat) (w : World) : (callFunc 65 #[.float .f32 b]).run Try.prog w = .ok (.value (.int .u32 b)) w := by
  rw [run_callFunc_extern (P := Try.prog) (e := Extern.MathFloatBits.float32bits) Try.func65 (by kernel_rfl) (by kernel_rfl) (by kernel_rfl) (by kernel_rfl)]; rfl
@[go_sem] theorem run_f32frombits (b : Int) (w : World) : (callFunc 68 #[.int .u32 b]).run Try.prog w = .ok (.value (.float .f32 b.toNat)) w := by
  rw [run_callFunc_extern (P := Try.prog) (e := Extern.MathFloatBits.float32frombits) Try.func68 (by kernel_rfl) (by kernel_rfl) (by kernel_rfl) (by kernel_rfl)]; rfl
@[go_sem] theorem run_f64bits (b : Nat) (w : World) : (callFunc 70 #[.float .f64 b]).run Try.prog w = .ok (.value (.int .u64 b)) w := by
  rw [run_callFunc_extern (P := Try.prog) (e := Extern.MathFloatBits.float64bits) Try.func70 (by kernel_rfl) (by kernel_rfl) (by kernel_rfl) (by kernel_rfl)]; rfl
@[go_sem] theorem run_f64frombits (b : Int) (w : World) : (callFunc 69 #[.int .u64 b]).run Try.prog w = .ok (.value (.float .f64 b.toNat)) w := by
  rw [run_callFunc_extern (P := Try.prog) (e := Extern.MathFloatBits.float64frombits) Try.func69 (by kernel_rfl) (by kernel_rfl) (by kernel_rfl) (by kernel_rfl)]; rfl

set_option maxHeartbeats 400000 in
theorem l01Bits_any (b : Nat) (hb : b < 4294967296) (w : World) : Calls Try.prog 63 #[.float .f32 b] w (Ret (.int .i64 (bitsOf b)) w) := by
  have h0 := neq_self .f32 b
  have h1 : (b : Int) ≤ 4294967295 := by omega
  have h2 : (0 : Int) ≤ b := by omega
  cases hn : isNaN FloatKind.f32.format b
  · rw [hn] at h0
    have hv : bitsOf b = b := by unfold bitsOf; rw [show isNaN Ieee.single b = false from hn]; rfl
    rw [hv]
    clear hv hn
    go_enter Try.func63, Try.ntmps63
    go_wp2
    go_ret
    exact Ret.now _ _
  · rw [hn] at h0
    have hv : bitsOf b = 2143289344 := by unfold bitsOf; rw [show isNaN Ieee.single b = true from hn]; rfl
    rw [hv]
    clear hv hn
    go_enter Try.func63, Try.ntmps63
    go_wp2
    go_ret
    exact Ret.now _ _

set_option maxHeartbeats 400000 in
theorem isNaN_any (b : Nat) (w : World) : Calls Try.prog 64 #[.float .f64 b] w (Ret (.bool (isNaN Ieee.double b)) w) := by
  have h0 : (FloatKind.f64.format.order b b != some .eq) = isNaN Ieee.double b := neq_self .f64 b
  go_enter Try.func64, Try.ntmps64
  go_wp2
  go_ret
  exact Ret.now _ _

set_option maxHeartbeats 400000 in
theorem bitsOf_any (b : Nat) (hb : b < 4294967296) (w : World) : Calls Try.prog 35 #[.float .f32 b] w (Ret (.int .i64 (bitsOf b)) w) := by
  have h1 : (b : Int) ≤ 4294967295 := by omega
  have h2 : (0 : Int) ≤ b := by omega
  cases hn : isNaN Ieee.single b
  · have hv : bitsOf b = b := by unfold bitsOf; rw [hn]; rfl
    rw [hv]
    have hN := Lib.hid hn
    clear hv hn
    go_enter Try.func35, Try.ntmps35
    go_wp2_with (first | (refine wpList_widen rfl _ _ _ rfl u32_some Try.underlying27 _ rfl ?_; intro r n hr; have hq := hr.nan.trans hN.out; clear hr) | (go_at_call 64; refine (isNaN_any _ _).mono ?_; rintro e w' ⟨m, rfl, rfl⟩))
    go_ret
    exact Ret.later _ _ _
  · have hv : bitsOf b = 2143289344 := by unfold bitsOf; rw [hn]; rfl
    rw [hv]
    have hN := Lib.hid hn
    clear hv hn
    go_enter Try.func35, Try.ntmps35
    go_wp2_with (first | (refine wpList_widen rfl _ _ _ rfl u32_some Try.underlying27 _ rfl ?_; intro r n hr; have hq := hr.nan.trans hN.out; clear hr) | (go_at_call 64; refine (isNaN_any _ _).mono ?_; rintro e w' ⟨m, rfl, rfl⟩))
    go_ret
    exact Ret.later _ _ _

theorem abs_bits (x : Nat) (hx : x < 18446744073709551616) : bits .andNot .u64 (x : Int) 9223372036854775808 = ((x % 9223372036854775808 : Nat) : Int) := by
  have h := u64_andNot_nat x 9223372036854775808 hx (by omega)
  rw [show ((9223372036854775808 : Nat) : Int) = 9223372036854775808 from rfl] at h
  rw [h, show (18446744073709551615 - 9223372036854775808 : Nat) = 2 ^ 63 - 1 by decide, Nat.and_two_pow_sub_one_eq_mod]

set_option maxHeartbeats 400000 in
theorem abs_any (b : Nat) (hb : b < 18446744073709551616) (w : World) : Calls Try.prog 41 #[.float .f64 b] w (Ret (.float .f64 (b % 9223372036854775808)) w) := by
  have h0 := abs_bits b hb
  clear hb
  go_enter Try.func41, Try.ntmps41
  go_wp2
  go_ret
  exact Ret.now _ _

set_option maxHeartbeats 400000 in
theorem isInf0_any (b : Nat) (hb : b < 18446744073709551616) (w : World) : Calls Try.prog 61 #[.float .f64 b, .int .i64 0] w (Ret (.bool (!finite Ieee.double b && !isNaN Ieee.double b)) w) := by
  have h0 : (FloatKind.f64.format.order (b % 9223372036854775808) 9218868437227405311 == some .gt) = (!finite Ieee.double b && !isNaN Ieee.double b) := above_max b
  have hB := Lib.hid hb
  clear hb
  generalize hq : (!finite Ieee.double b && !isNaN Ieee.double b) = q at *
  clear hq
  go_enter Try.func61, Try.ntmps61
  go_wp2_with (go_at_call 41; refine (abs_any _ hB.out _).mono ?_; rintro e w' ⟨m, rfl, rfl⟩)
  go_ret
  exact Ret.later _ _ _

set_option maxHeartbeats 400000 in
theorem isFiniteLong_any (b : Nat) (hb : b < 18446744073709551616) (w : World) : Calls Try.prog 39 #[.float .f64 b] w (Ret (.bool (finite Ieee.double b)) w) := by
  have hB := Lib.hid hb
  clear hb
  cases hn : isNaN Ieee.double b
  · go_enter Try.func39, Try.ntmps39
    go_wp2_with (first | (go_at_call 64; refine (isNaN_any _ _).mono ?_; rintro e w' ⟨m, rfl, rfl⟩) | (go_at_call 61; refine (isInf0_any _ hB.out _).mono ?_; rintro e w' ⟨m, rfl, rfl⟩))
    go_ret
    exact Ret.later _ _ _
  · have hf : finite Ieee.double b = false := by
      cases hf : finite Ieee.double b
      · rfl
      · rw [finite_nan hf] at hn; cases hn
    rw [hf]
    clear hf
    go_enter Try.func39, Try.ntmps39
    go_wp2_with (first | (go_at_call 64; refine (isNaN_any _ _).mono ?_; rintro e w' ⟨m, rfl, rfl⟩) | (go_at_call 61; refine (isInf0_any _ hB.out _).mono ?_; rintro e w' ⟨m, rfl, rfl⟩))
    go_ret
    exact Ret.later _ _ _

set_option maxHeartbeats 400000 in
theorem isFinite_any (b : Nat) (w : World) : Calls Try.prog 33 #[.float .f32 b] w (Ret (.bool (finite Ieee.single b)) w) := by
  go_enter Try.func33, Try.ntmps33
  go_wp2_with (first | (refine wpList_widen rfl _ _ _ rfl u32_some Try.underlying27 _ rfl ?_; intro r n hr) | (go_at_call 39; refine (isFiniteLong_any _ (by exact hr.lt) _).mono ?_; rintro e w' ⟨m, rfl, rfl⟩; have hq := hr.finite; clear hr))
  go_ret
  exact Ret.later _ _ _

set_option maxHeartbeats 400000 in
theorem l01Finite_any (b : Nat) (w : World) : Calls Try.prog 62 #[.float .f32 b] w (Ret (.bool (finite Ieee.single b)) w) := by
  go_enter Try.func62, Try.ntmps62
  go_wp2_with (refine wpList_farith rfl _ _ _ _ _ rfl _ _ _ rfl rfl (by rfl) ?_; intro r n hr hlt; have h0 : (FloatKind.f32.format.order r 0 == some .eq) = finite Ieee.single b := (by rw [hr.order (Eqv.refl _ 0)]; exact fsub_self b); clear hr)
  go_ret
  exact Ret.later _ _ _

theorem zero_word {a : Nat} (hn : isNaN Ieee.double a = false) : (FloatKind.f64.format.order a a == some .eq) = true := by
  show (Ieee.double.order a a == some .eq) = true
  rw [order_self, hn]; rfl

set_option maxHeartbeats 400000 in
/-- Numbers that are equal, or both not-a-numbers, are called the same. -/
theorem sameFloat_eqv (a b : Nat) (h : Eqv Ieee.double a b) (w : World) : Calls Try.prog 38 #[.float .f64 a, .float .f64 b] w (Ret (.bool true) w) := by
  have h1 : (FloatKind.f64.format.order a a != some .eq) = isNaN Ieee.double a := neq_self .f64 a
  have h2 : (FloatKind.f64.format.order b b != some .eq) = isNaN Ieee.double b := neq_self .f64 b
  cases hn : isNaN Ieee.double a
  · obtain rfl := h.symm.eq hn
    rw [hn] at h1
    have h3 := zero_word hn
    clear hn h h2
    cases hz : (FloatKind.f64.format.order b 0 == some .eq)
    · go_enter Try.func38, Try.ntmps38
      go_wp2
      go_ret
      exact Ret.now _ _
    · go_enter Try.func38, Try.ntmps38
      go_wp2_with (refine wpList_farith rfl _ _ _ _ _ rfl _ _ _ rfl rfl (by rfl) ?_; intro r n hr hlt; have hg := hr.order (Eqv.refl _ 0); clear hr hlt)
      go_ret
      exact Ret.later _ _ _
  · have hb : isNaN Ieee.double b = true := by rw [← h.nan, hn]
    rw [hn] at h1
    rw [hb] at h2
    clear hn hb h
    go_enter Try.func38, Try.ntmps38
    go_wp2
    go_ret
    exact Ret.now _ _

set_option maxHeartbeats 400000 in
theorem l01Same_any (a b : Nat) (ha : a < 4294967296) (hb : b < 4294967296) (w : World) : Calls Try.prog 52 #[.float .f32 a, .float .f32 b] w (Ret (.bool (bitsOf a == bitsOf b)) w) := by
  have hA := Lib.hid ha
  have hB := Lib.hid hb
  clear ha hb
  go_enter Try.func52, Try.ntmps52
  go_wp2_with fail
  refine (l01Bits_any _ hA.out _).mono ?_
  rintro e w' ⟨m, rfl, rfl⟩
  go_wp2_with fail
  refine (l01Bits_any _ hB.out _).mono ?_
  rintro e w' ⟨n, rfl, rfl⟩
  go_wp2_with fail
  go_ret
  exact Ret.later _ _ _
set_option maxHeartbeats 400000 in
theorem sameNumber_any (a b : Nat) (ha : a < 4294967296) (hb : b < 4294967296) (w : World) : Calls Try.prog 31 #[.float .f32 a, .float .f32 b] w (Ret (.bool (bitsOf a == bitsOf b)) w) := by
  have hA := Lib.hid ha
  have hB := Lib.hid hb
  clear ha hb
  go_enter Try.func31, Try.ntmps31
  go_wp2_with fail
  refine (bitsOf_any _ hA.out _).mono ?_
  rintro e w' ⟨m, rfl, rfl⟩
  go_wp2_with fail
  refine (bitsOf_any _ hB.out _).mono ?_
  rintro e w' ⟨n, rfl, rfl⟩
  go_wp2_with fail
  go_ret
  exact Ret.later _ _ _
set_option maxHeartbeats 400000 in
theorem l00In_yes (n lo hi : Int) (h1 : lo ≤ n) (h2 : n ≤ hi) (w : World) : Calls Try.prog 66 #[.int .i64 n, .int .i64 lo, .int .i64 hi] w fun e w' => e = .returned (.bool true) ∧ w = w' := by
  go_enter Try.func66, Try.ntmps66
  go_wp2
  go_ret
  exact ⟨rfl, rfl⟩
set_option maxHeartbeats 400000 in
theorem l00In_no (n lo hi : Int) (h : n < lo ∨ hi < n) (w : World) : Calls Try.prog 66 #[.int .i64 n, .int .i64 lo, .int .i64 hi] w fun e w' => e = .returned (.bool false) ∧ w = w' := by
  by_cases h1 : n < lo
  · clear h
    have h3 : decide (lo ≤ n) = false := by simp; omega
    go_enter Try.func66, Try.ntmps66
    go_wp2
    go_ret
    exact ⟨rfl, rfl⟩
  · have h2 : hi < n := by omega
    have h3 : lo ≤ n := by omega
    have h4 : decide (n ≤ hi) = false := by simp; omega
    clear h h1
    go_enter Try.func66, Try.ntmps66
    go_wp2
    go_ret
    exact ⟨rfl, rfl⟩
set_option maxHeartbeats 400000 in
theorem l01From_any (n : Int) (h1 : 0 ≤ n) (h2 : n ≤ 4294967295) (w : World) : Calls Try.prog 67 #[.int .i64 n] w (Ret (.float .f32 n.toNat) w) := by
  go_enter Try.func67, Try.ntmps67
  go_wp2
  go_ret
  exact Ret.now _ _
/-- The 32 bits n as a number; nothing where n is no 32 bits. -/
def fromBits (n : Int) : Value := if 0 ≤ n ∧ n ≤ 4294967295 then .tuple #[.float .f32 n.toNat, .bool true] else .tuple #[.float .f32 0, .bool false]

set_option maxHeartbeats 400000 in
theorem l01FromBits_any (n : Int) (w : World) : Calls Try.prog 36 #[.int .i64 n] w (Ret (fromBits n) w) := by
  by_cases h : 0 ≤ n ∧ n ≤ 4294967295
  · rw [show fromBits n = _ from if_pos h]
    obtain ⟨h1, h2⟩ := h
    go_enter Try.func36, Try.ntmps36
    go_wp2_with (first | (go_at_call 66; refine (l00In_yes _ _ _ (by assumption) (by assumption) _).mono ?_; rintro e w' ⟨rfl, rfl⟩) | (go_at_call 67; refine (l01From_any _ (by assumption) (by assumption) _).mono ?_; rintro e w' ⟨m, rfl, rfl⟩))
    go_ret2
    exact Ret.later _ _ _
  · rw [show fromBits n = _ from if_neg h]
    have hH := Lib.hid h
    clear h
    go_enter Try.func36, Try.ntmps36
    go_wp2_with (go_at_call 66; refine (l00In_no _ _ _ (by have := hH.out; omega) _).mono ?_; rintro e w' ⟨rfl, rfl⟩)
    go_ret2
    exact Ret.now _ _
set_option maxHeartbeats 400000 in
theorem fromBits_any (n : Int) (w : World) : Calls Try.prog 37 #[.int .i64 n] w (Ret (fromBits n) w) := by
  by_cases h : 0 ≤ n ∧ n ≤ 4294967295
  · rw [show fromBits n = _ from if_pos h]
    obtain ⟨h1, h2⟩ := h
    go_enter Try.func37, Try.ntmps37
    go_wp2
    go_ret2
    exact Ret.now _ _
  · rw [show fromBits n = _ from if_neg h]
    by_cases h1 : 0 ≤ n
    · have h2 : 4294967295 < n := by omega
      clear h
      go_enter Try.func37, Try.ntmps37
      go_wp2
      go_ret2
      exact Ret.now _ _
    · have h2 : n < 0 := by omega
      clear h h1
      go_enter Try.func37, Try.ntmps37
      go_wp2
      go_ret2
      exact Ret.now _ _
end Go.Proofs.Ytalfkhgikmpmcaa
