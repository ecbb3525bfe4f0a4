/- Contracts: the greatest starts of tasks, in the model and in the program. -/
import Derived.Test.YtfnpbhplnlfnmaaLate
import Derived.Test.YtfnpbhplnlfnmaaEarly3
namespace Go.Proofs.Ytfnpbhplnlfnmaa
open Go.RowKit Go.Lst

theorem lateTo_step (xs : List TaskD) (e : Int) {k : Nat} (hk : k < xs.length) : lateTo xs e (xs.length - k) = (lateTo xs e (xs.length - (k + 1))).set k (lateAt xs (lateTo xs e (xs.length - (k + 1))) k e) := by
  rw [show xs.length - k = (xs.length - (k + 1)) + 1 by omega]
  simp only [lateTo]
  rw [show xs.length - 1 - (xs.length - (k + 1)) = k by omega]


end Go.Proofs.Ytfnpbhplnlfnmaa
