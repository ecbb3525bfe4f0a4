/- Contracts: what the functions on the bits of a float32 return, for every float32. -/
import Derived.Test.YtalfkhgikmpmcaaChecked
import Derived.Test.YtalfkhgikmpmcaaFloatWalk
import Derived.WalkLawsBesides
import Derived.Lib.Hide
namespace Go.Proofs.Ytalfkhgikmpmcaa
open Go.RowKit FloatKit

/-- The call returns this value; the world is as it was but for answers drawn. -/
def Ret (v : Value) (w : World) (e : Ending) (w' : World) : Prop := ∃ n, e = .returned v ∧ w' = w.drewN n
theorem Ret.now (v : Value) (w : World) : Ret v w (.returned v) w := ⟨0, rfl, rfl⟩
theorem Ret.later (v : Value) (w : World) (n : Nat) : Ret v w (.returned v) (w.drewN n) := ⟨n, rfl, rfl⟩

/-- The bits of a number, one value for all not-a-numbers. -/
def bitsOf (b : Nat) : Int := if isNaN Ieee.single b then 2143289344 else b

theorem neq_self (k : FloatKind) (b : Nat) : (k.format.order b b != some .eq) = isNaN k.format b := by
  rw [order_self]; cases isNaN k.format b <;> rfl

theorem u32_some : (Try.prog.underlying 28).isSome = true := by rw [Try.underlying28]; rfl
theorem u64_some : (Try.prog.underlying 27).isSome = true := by rw [Try.underlying27]; rfl

@[go_sem] theorem run_f32bits (b : Nat) (w : World) : (callFunc 65 #[.float .f32 b]).run Try.prog w = .ok (.value (.int .u32 b)) w := by
  rw [run_callFunc_extern (P := Try.prog) (e := Extern.MathFloatBits.float32bits) Try.func65 (by kernel_rfl) (by kernel_rfl) (by kernel_rfl) (by kernel_rfl)]; rfl
@[go_sem] theorem run_f32frombits (b : Int) (w : World) : (callFunc 68 #[.int .u32 b]).run Try.prog w = .ok (.value (.float .f32 b.toNat)) w := by
  rw [run_callFunc_extern (P := Try.prog) (e := Extern.MathFloatBits.float32frombits) Try.func68 (by kernel_rfl) (by kernel_rfl) (by kernel_rfl) (by kernel_rfl)]; rfl
@[go_sem] theorem run_f64bits (b : Nat) (w : World) : (callFunc 70 #[.float .f64 b]).run Try.prog w = .ok (.value (.int .u64 b)) w := by
  rw [run_callFunc_extern (P := Try.prog) (e := Extern.MathFloatBits.float64bits) Try.func70 (by kernel_rfl) (by kernel_rfl) (by kernel_rfl) (by kernel_rfl)]; rfl
@[go_sem] theorem run_f64frombits (b : Int) (w : World) : (callFunc 69 #[.int .u64 b]).run Try.prog w = .ok (.value (.float .f64 b.toNat)) w := by
  rw [run_callFunc_extern (P := Try.prog) (e := Extern.MathFloatBits.float64frombits) Try.func69 (by kernel_rfl) (by kernel_rfl) (by kernel_rfl) (by kernel_rfl)]; rfl

set_option maxHeartbeats 400000 in
theorem l01Bits_any (b : Nat) (hb : b < 4294967296) (w : World) : Calls Try.prog 63 #[.float .f32 b] w (Ret (.int .i64 (bitsOf b)) w) := by
  have h0 := neq_self .f32 b
  have h1 : (b : Int) ≤ 4294967295 := by omega
  have h2 : (0 : Int) ≤ b := by omega
  cases hn : isNaN FloatKind.f32.format b
  · rw [hn] at h0
    have hv : bitsOf b = b := by unfold bitsOf; rw [show isNaN Ieee.single b = false from hn]; rfl
    rw [hv]
    clear hv hn
    go_enter Try.func63, Try.ntmps63
    go_wp2
    go_ret
    exact Ret.now _ _
  · rw [hn] at h0
    have hv : bitsOf b = 2143289344 := by unfold bitsOf; rw [show isNaN Ieee.single b = true from hn]; rfl
    rw [hv]
    clear hv hn
    go_enter Try.func63, Try.ntmps63
    go_wp2
    go_ret
    exact Ret.now _ _

set_option maxHeartbeats 400000 in
theorem isNaN_any (b : Nat) (w : World) : Calls Try.prog 64 #[.float .f64 b] w (Ret (.bool (isNaN Ieee.double b)) w) := by
  have h0 : (FloatKind.f64.format.order b b != some .eq) = isNaN Ieee.double b := neq_self .f64 b
  go_enter Try.func64, Try.ntmps64
  go_wp2
  go_ret
  exact Ret.now _ _

set_option maxHeartbeats 400000 in
theorem bitsOf_any (b : Nat) (hb : b < 4294967296) (w : World) : Calls Try.prog 35 #[.float .f32 b] w (Ret (.int .i64 (bitsOf b)) w) := by
  have h1 : (b : Int) ≤ 4294967295 := by omega
  have h2 : (0 : Int) ≤ b := by omega
  cases hn : isNaN Ieee.single b
  · have hv : bitsOf b = b := by unfold bitsOf; rw [hn]; rfl
    rw [hv]
    have hN := Lib.hid hn
    clear hv hn
    go_enter Try.func35, Try.ntmps35
    go_wp2_with (first | (refine wpList_widen rfl _ _ _ rfl u32_some Try.underlying27 _ rfl ?_; intro r n hr; have hq := hr.nan.trans hN.out; clear hr) | (go_at_call 64; refine (isNaN_any _ _).mono ?_; rintro e w' ⟨m, rfl, rfl⟩))
    go_ret
    exact Ret.later _ _ _
  · have hv : bitsOf b = 2143289344 := by unfold bitsOf; rw [hn]; rfl
    rw [hv]
    have hN := Lib.hid hn
    clear hv hn
    go_enter Try.func35, Try.ntmps35
    go_wp2_with (first | (refine wpList_widen rfl _ _ _ rfl u32_some Try.underlying27 _ rfl ?_; intro r n hr; have hq := hr.nan.trans hN.out; clear hr) | (go_at_call 64; refine (isNaN_any _ _).mono ?_; rintro e w' ⟨m, rfl, rfl⟩))
    go_ret
    exact Ret.later _ _ _
end Go.Proofs.Ytalfkhgikmpmcaa
