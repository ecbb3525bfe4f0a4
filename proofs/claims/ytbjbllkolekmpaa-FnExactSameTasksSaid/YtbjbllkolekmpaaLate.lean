/- Contracts: the greatest start of a task, in the model and in the program. -/
import Derived.Test.YtbjbllkolekmpaaLatePure
import Derived.Test.YtbjbllkolekmpaaEarly2
namespace Go.Proofs.Ytbjbllkolekmpaa
open Go.RowKit Go.Lst





end Go.Proofs.Ytbjbllkolekmpaa
