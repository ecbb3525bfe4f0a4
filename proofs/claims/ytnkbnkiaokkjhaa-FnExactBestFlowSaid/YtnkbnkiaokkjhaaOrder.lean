/- Contracts: when a list is an order; the model's loop, and the program's set of numbers that are missing. -/
import Derived.Test.YtnkbnkiaokkjhaaAreJobs
import Derived.Test.YtnkbnkiaokkjhaaOrdPure
import Derived.Maps.OwnSet
namespace Go.Proofs.Ytnkbnkiaokkjhaa
open Go.RowKit Go.Lst Go.Plan Go.Maps


def isOrder (xs : List Int) (n : Int) : Bool := inB n 1 24 && isOrd xs n

end Go.Proofs.Ytnkbnkiaokkjhaa
