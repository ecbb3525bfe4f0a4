/- Contracts of the law's own functions on lists of float32: a copy of a list, cell by cell. -/
import Derived.Test.YtncbohecppdfnaaLst
import Derived.Test.YtncbohecppdfnaaBits
import Derived.LoopTactic
import Derived.OwnWalk
import Derived.Outline
namespace Go.Proofs.Ytncbohecppdfnaa
open Go.RowKit Go.Lst FloatKit

end Go.Proofs.Ytncbohecppdfnaa
