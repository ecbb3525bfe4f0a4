/- Lists of Job: a word for them, and contracts of the law's own functions on them. -/
import Derived.Test.YtdggbjpfllnenaaInts
import Derived.StillTailTactics
namespace Go.Proofs.Ytdggbjpfllnenaa
open Go.RowKit Go.Lst Go.ChangeShapes Go.WideShapes












end Go.Proofs.Ytdggbjpfllnenaa
