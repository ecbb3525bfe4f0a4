/- Contracts: the greatest start of a task, in the model and in the program. -/
import Derived.Test.YtfnpbhplnlfnmaaLatePure
import Derived.Test.YtfnpbhplnlfnmaaEarly2
namespace Go.Proofs.Ytfnpbhplnlfnmaa
open Go.RowKit Go.Lst





end Go.Proofs.Ytfnpbhplnlfnmaa
