/- Lists of Job: a word for them, and contracts of the law's own functions on them. -/
import Derived.Test.YtfidppepchobeaaDoorInts
import Derived.StillTailTactics
namespace Go.Proofs.YtfidppepchobeaaDoor
open Go.RowKit Go.Lst Go.ChangeShapes Go.WideShapes












end Go.Proofs.YtfidppepchobeaaDoor
