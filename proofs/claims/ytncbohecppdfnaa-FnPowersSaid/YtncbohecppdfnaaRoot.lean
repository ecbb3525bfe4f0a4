/- Contracts of the square roots, for every float32. -/
import Derived.Test.YtncbohecppdfnaaBits
import Derived.Test.YtncbohecppdfnaaFloatMag
namespace Go.Proofs.Ytncbohecppdfnaa
open Go.RowKit FloatKit

/-- The call returns a float64 that is this one, or a not-a-number as this one is. -/
def RetD (F : Nat) (w : World) (e : Ending) (w' : World) : Prop := ∃ r n, e = .returned (.float .f64 r) ∧ Eqv Ieee.double r F ∧ r < 18446744073709551616 ∧ w' = w.drewN n
/-- The call returns the float64 x, narrowed. -/
def RetN (x : Nat) (w : World) (e : Ending) (w' : World) : Prop := ∃ r n, e = .returned (.float .f32 r) ∧ Nar x r ∧ w' = w.drewN n

set_option maxHeartbeats 400000 in
theorem narrowNumber_any (x : Nat) (w : World) : Calls Try.prog 67 #[.float .f64 x] w (RetN x w) := by
  go_enter Try.func67, Try.ntmps67
  go_wp2_with (refine wpList_narrow rfl _ _ _ rfl u64_some Try.underlying43 _ rfl ?_; intro r n hr; have hR := Lib.hid hr; clear hr)
  go_ret
  exact ⟨_, _, rfl, hR.out, rfl⟩

/-- What a root of the float32 a is. -/
def RetRoot (a : Nat) (w : World) (e : Ending) (w' : World) : Prop := ∃ x y r n, Wid a x ∧ Eqv Ieee.double y (sqrtC x) ∧ Nar y r ∧ e = .returned (.float .f32 r) ∧ w' = w.drewN n

theorem root_same {a x x' y y' r r' : Nat} (ha : a < 4294967296) (hx : Wid a x) (hx' : Wid a x') (hy : Eqv Ieee.double y (sqrtC x)) (hy' : Eqv Ieee.double y' (sqrtC x')) (hr : Nar y r) (hr' : Nar y' r') : Eqv Ieee.single r r' := by
  have e1 : sqrtC x = sqrtC x' := sqrtC_eqv (Wid.eqv hx hx' (Eqv.refl _ _))
  have e2 : Eqv Ieee.double y y' := hy.trans (by rw [e1]; exact hy'.symm)
  refine Nar.calm hr hr' e2 ?_
  have hc := root_calm ha hx'
  rcases hc with h | ⟨s, h⟩ | ⟨k, hk, h⟩
  · exact .inl (by rw [hy'.nan]; exact h)
  · have := hy'.eq (by unfold isNaN; rw [h]; rfl)
    exact .inr (.inl ⟨s, by rw [this]; exact h⟩)
  · have := hy'.eq h.1
    exact .inr (.inr ⟨k, hk, by rw [this]; exact h⟩)

end Go.Proofs.Ytncbohecppdfnaa
