/- Words for what a call returns, and the contract of the model's test of bounds. -/
import Derived.Test.YtjpmliigepegaaaDoorChecked
import Derived.WalkKit
import Derived.WalkLawsBesides
import Derived.Lib.Hide
namespace Go.Proofs.YtjpmliigepegaaaDoor
open Go.RowKit

/-- The call returns this value; the world is as it was but for answers drawn. -/
def Ret (v : Value) (w : World) (e : Ending) (w' : World) : Prop := ∃ n, e = .returned v ∧ w' = w.drewN n
theorem Ret.now (v : Value) (w : World) : Ret v w (.returned v) w := ⟨0, rfl, rfl⟩
theorem Ret.later (v : Value) (w : World) (n : Nat) : Ret v w (.returned v) (w.drewN n) := ⟨n, rfl, rfl⟩

theorem Ret.quiet {P : Program} {f : FuncId} {args : Array Value} {w : World} {n : Nat} {v : Value} (h : Calls P f args (w.drewN n) (Ret v (w.drewN n))) :
    Calls P f args (w.drewN n) fun e w'' => e = .returned v ∧ ∃ m, w'' = w.drewN m :=
  h.mono fun _ _ ⟨m, he, hw⟩ => ⟨he, n + m, by rw [hw, World.drewN_drewN]⟩

end Go.Proofs.YtjpmliigepegaaaDoor
