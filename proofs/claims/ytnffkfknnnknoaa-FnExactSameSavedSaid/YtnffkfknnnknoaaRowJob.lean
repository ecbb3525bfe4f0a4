/- Lists of Job: a word for them, and contracts of the law's own functions on them. -/
import Derived.Test.YtnffkfknnnknoaaInts
import Derived.StillTailTactics
namespace Go.Proofs.Ytnffkfknnnknoaa
open Go.RowKit Go.Lst Go.ChangeShapes Go.WideShapes












end Go.Proofs.Ytnffkfknnnknoaa
