/- Contracts of the square roots, for every float32. -/
import Derived.Test.YtnofngnlmhdgaaaBits
import Derived.Test.YtnofngnlmhdgaaaFloatMag
namespace Go.Proofs.Ytnofngnlmhdgaaa
open Go.RowKit FloatKit

/-- The call returns a float64 that is this one, or a not-a-number as this one is. -/
def RetD (F : Nat) (w : World) (e : Ending) (w' : World) : Prop := ∃ r n, e = .returned (.float .f64 r) ∧ Eqv Ieee.double r F ∧ r < 18446744073709551616 ∧ w' = w.drewN n
/-- The call returns the float64 x, narrowed. -/
def RetN (x : Nat) (w : World) (e : Ending) (w' : World) : Prop := ∃ r n, e = .returned (.float .f32 r) ∧ Nar x r ∧ w' = w.drewN n

theorem sqrt_form (x : Nat) : Extern.MathSqrt.sqrt #[.float .f64 x] = (match FloatKind.f64.format.sqrt x with
    | some r => pure (.float .f64 r)
    | none => do pure (.float .f64 (← choose (.nanBits .f64 x x)))) := rfl
theorem run_sqrt_some (x r : Nat) (h : Ieee.double.sqrt x = some r) (w : World) : (callFunc 24 #[.float .f64 x]).run Try.prog w = .ok (.value (.float .f64 r)) w := by
  rw [run_callFunc_extern (P := Try.prog) (e := Extern.MathSqrt.sqrt) Try.func24 (by kernel_rfl) (by kernel_rfl) (by kernel_rfl) (by kernel_rfl)]
  have h2 : FloatKind.f64.format.sqrt x = some r := h
  rw [sqrt_form, h2]; rfl
theorem run_sqrt_none (x : Nat) (h : Ieee.double.sqrt x = none) (w : World) : (callFunc 24 #[.float .f64 x]).run Try.prog w = .ok (.value (.float .f64 (nanOp .f64 x x w))) (w.drewN 1) := by
  rw [run_callFunc_extern (P := Try.prog) (e := Extern.MathSqrt.sqrt) Try.func24 (by kernel_rfl) (by kernel_rfl) (by kernel_rfl) (by kernel_rfl)]
  have h2 : FloatKind.f64.format.sqrt x = none := h
  rw [sqrt_form, h2]
  simp [nanOp, show (Question.nanBits FloatKind.f64 x x).forced = false from rfl, World.drew_is_drewN]

set_option maxHeartbeats 400000 in
theorem sqrt_any (x : Nat) (w : World) : Calls Try.prog 20 #[.float .f64 x] w (RetD (sqrtC x) w) := by
  cases h : Ieee.double.sqrt x with
  | some r =>
    have hr := run_sqrt_some x r h
    have hE : Hid (Eqv Ieee.double r (sqrtC x) ∧ r < 18446744073709551616) := Lib.hid ⟨by unfold sqrtC; rw [h]; exact Eqv.refl _ _, Ieee.double.sqrt_lt h⟩
    clear h
    go_enter Try.func20, Try.ntmps20
    go_wp2
    go_ret
    exact ⟨_, 0, rfl, hE.out.1, hE.out.2, rfl⟩
  | none =>
    have hr := run_sqrt_none x h
    have hE : Hid (∀ W, Eqv Ieee.double (nanOp .f64 x x W) (sqrtC x) ∧ nanOp .f64 x x W < 18446744073709551616) := Lib.hid fun W => ⟨.inr ⟨nanOp_nan .f64 x x W, by unfold sqrtC; rw [h]; exact qnan_nan .f64⟩, cut_nanBits_lt .f64 x x _⟩
    clear h
    go_enter Try.func20, Try.ntmps20
    go_wp2
    go_ret
    exact ⟨_, 1, rfl, (hE.out _).1, (hE.out _).2, rfl⟩
set_option maxHeartbeats 400000 in
theorem l01Narrow_any (x : Nat) (w : World) : Calls Try.prog 19 #[.float .f64 x] w (RetN x w) := by
  go_enter Try.func19, Try.ntmps19
  go_wp2_with (refine wpList_narrow rfl _ _ _ rfl u64_some Try.underlying22 _ rfl ?_; intro r n hr; have hR := Lib.hid hr; clear hr)
  go_ret
  exact ⟨_, _, rfl, hR.out, rfl⟩
set_option maxHeartbeats 400000 in
theorem narrowNumber_any (x : Nat) (w : World) : Calls Try.prog 21 #[.float .f64 x] w (RetN x w) := by
  go_enter Try.func21, Try.ntmps21
  go_wp2_with (refine wpList_narrow rfl _ _ _ rfl u64_some Try.underlying22 _ rfl ?_; intro r n hr; have hR := Lib.hid hr; clear hr)
  go_ret
  exact ⟨_, _, rfl, hR.out, rfl⟩

/-- What a root of the float32 a is. -/
def RetRoot (a : Nat) (w : World) (e : Ending) (w' : World) : Prop := ∃ x y r n, Wid a x ∧ Eqv Ieee.double y (sqrtC x) ∧ Nar y r ∧ e = .returned (.float .f32 r) ∧ w' = w.drewN n

theorem root_same {a x x' y y' r r' : Nat} (ha : a < 4294967296) (hx : Wid a x) (hx' : Wid a x') (hy : Eqv Ieee.double y (sqrtC x)) (hy' : Eqv Ieee.double y' (sqrtC x')) (hr : Nar y r) (hr' : Nar y' r') : Eqv Ieee.single r r' := by
  have e1 : sqrtC x = sqrtC x' := sqrtC_eqv (Wid.eqv hx hx' (Eqv.refl _ _))
  have e2 : Eqv Ieee.double y y' := hy.trans (by rw [e1]; exact hy'.symm)
  refine Nar.calm hr hr' e2 ?_
  have hc := root_calm ha hx'
  rcases hc with h | ⟨s, h⟩ | ⟨k, hk, h⟩
  · exact .inl (by rw [hy'.nan]; exact h)
  · have := hy'.eq (by unfold isNaN; rw [h]; rfl)
    exact .inr (.inl ⟨s, by rw [this]; exact h⟩)
  · have := hy'.eq h.1
    exact .inr (.inr ⟨k, hk, by rw [this]; exact h⟩)

set_option maxHeartbeats 400000 in
theorem rootNumber_any (a : Nat) (w : World) : Calls Try.prog 17 #[.float .f32 a] w (RetRoot a w) := by
  go_enter Try.func17, Try.ntmps17
  go_wp2_with (first | (refine wpList_widen rfl _ _ _ rfl u32_some Try.underlying26 _ rfl ?_; intro x n hx; have hX := Lib.hid hx; clear hx) | (go_at_call 20; refine (sqrt_any _ _).mono ?_; rintro e w' ⟨y, m, rfl, hy, _, rfl⟩; have hY := Lib.hid hy; clear hy) | (go_at_call 21; refine (narrowNumber_any _ _).mono ?_; rintro e w' ⟨r, m, rfl, hr, rfl⟩; have hR := Lib.hid hr; clear hr))
  go_ret
  exact ⟨_, _, _, _, hX.out, hY.out, hR.out, rfl, rfl⟩
end Go.Proofs.Ytnofngnlmhdgaaa
