/- Contracts of the law's own functions on lists of float32: a copy of a list, cell by cell. -/
import Derived.Test.YtcpfiledegnlpabLst
import Derived.Test.YtcpfiledegnlpabBits
import Derived.LoopTactic
import Derived.OwnWalk
import Derived.Outline
namespace Go.Proofs.Ytcpfiledegnlpab
open Go.RowKit Go.Lst FloatKit

end Go.Proofs.Ytcpfiledegnlpab
