/- Contracts: SlackOf, in the model and in the program. -/
import Derived.Test.YtfnpbhplnlfnmaaSlack
namespace Go.Proofs.Ytfnpbhplnlfnmaa
open Go.RowKit Go.Lst

end Go.Proofs.Ytfnpbhplnlfnmaa
