/- Contracts: SlackOf, in the model and in the program. -/
import Derived.Test.YtbjbllkolekmpaaSlack
namespace Go.Proofs.Ytbjbllkolekmpaa
open Go.RowKit Go.Lst

end Go.Proofs.Ytbjbllkolekmpaa
