/- Lists of Arc: a word for them, and contracts of the law's own functions on them. -/
import Derived.Test.YtkjnkomljhlbpaaInts
import Derived.StillTailTactics
namespace Go.Proofs.Ytkjnkomljhlbpaa
open Go.RowKit Go.Lst Go.ChangeShapes Go.WideShapes












end Go.Proofs.Ytkjnkomljhlbpaa
