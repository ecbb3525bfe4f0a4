/- Lists of Job: a word for them, and contracts of the law's own functions on them. -/
import Derived.Test.YtjpmliigepegaaaDoorInts
import Derived.StillTailTactics
namespace Go.Proofs.YtjpmliigepegaaaDoor
open Go.RowKit Go.Lst Go.ChangeShapes Go.WideShapes












end Go.Proofs.YtjpmliigepegaaaDoor
