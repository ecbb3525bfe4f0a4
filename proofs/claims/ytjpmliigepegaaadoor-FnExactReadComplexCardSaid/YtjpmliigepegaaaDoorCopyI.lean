/- Contracts of the law's own functions on lists of int64: a copy of a list, cell by cell. -/
import Derived.Test.YtjpmliigepegaaaDoorLst
import Derived.Test.YtjpmliigepegaaaDoorBase
import Derived.LoopTactic
import Derived.OwnWalk
import Derived.Outline
namespace Go.Proofs.YtjpmliigepegaaaDoor
open Go.RowKit Go.Lst

end Go.Proofs.YtjpmliigepegaaaDoor
