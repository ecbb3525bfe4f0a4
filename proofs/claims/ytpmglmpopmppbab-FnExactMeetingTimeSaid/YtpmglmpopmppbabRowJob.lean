/- Lists of Job: a word for them, and contracts of the law's own functions on them. -/
import Derived.Test.YtpmglmpopmppbabInts
import Derived.StillTailTactics
namespace Go.Proofs.Ytpmglmpopmppbab
open Go.RowKit Go.Lst Go.ChangeShapes Go.WideShapes












end Go.Proofs.Ytpmglmpopmppbab
