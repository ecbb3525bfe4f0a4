/- Contracts of the law's own functions on lists of int64: a copy of a list, cell by cell. -/
import Derived.Test.YtpolhjkjgbfdhaaDoorLst
import Derived.Test.YtpolhjkjgbfdhaaDoorBase
import Derived.LoopTactic
import Derived.OwnWalk
import Derived.Outline
namespace Go.Proofs.YtpolhjkjgbfdhaaDoor
open Go.RowKit Go.Lst

end Go.Proofs.YtpolhjkjgbfdhaaDoor
