/- Contracts of the law's own functions on lists of int64: a copy of a list, cell by cell. -/
import Derived.Test.YtncbohecppdfnaaLst
import Derived.Test.YtncbohecppdfnaaBase
import Derived.LoopTactic
import Derived.OwnWalk
import Derived.Outline
namespace Go.Proofs.Ytncbohecppdfnaa
open Go.RowKit Go.Lst

end Go.Proofs.Ytncbohecppdfnaa
