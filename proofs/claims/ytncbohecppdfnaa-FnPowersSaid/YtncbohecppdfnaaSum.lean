/- Contracts of the sums of lists of float32, for every list: from left to right, up to which not-a-number it is. -/
import Derived.Test.YtncbohecppdfnaaEqF
namespace Go.Proofs.Ytncbohecppdfnaa
open Go.RowKit Go.Lst FloatKit

/-- The call returns a number that is this one, or a not-a-number as this one is. -/
def RetF (F : Nat) (w : World) (e : Ending) (w' : World) : Prop := ∃ r n, e = .returned (.float .f32 r) ∧ Eqv Ieee.single r F ∧ w' = w.drewN n
def RetF2 (F : Nat) (ok : Bool) (w : World) (e : Ending) (w' : World) : Prop := ∃ r n, e = .returned (.tuple #[.float .f32 r, .bool ok]) ∧ Eqv Ieee.single r F ∧ w' = w.drewN n

def sumF (xs : List Nat) : Nat := xs.foldl (fun s x => fop .add .f32 s x) 0

theorem sumF_snoc (xs : List Nat) (k x : Nat) (h : xs[k]? = some x) : sumF (xs.take (k + 1)) = fop .add .f32 (sumF (xs.take k)) x := by
  unfold sumF
  rw [List.take_add_one, h, List.foldl_append]
  rfl


end Go.Proofs.Ytncbohecppdfnaa
