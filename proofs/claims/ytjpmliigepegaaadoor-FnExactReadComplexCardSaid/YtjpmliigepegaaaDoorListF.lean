/- Contracts of the law's own functions on lists of float32: copied, marked, and looked at again. -/
import Derived.Test.YtjpmliigepegaaaDoorInts
import Derived.Test.YtjpmliigepegaaaDoorFloatSub
namespace Go.Proofs.YtjpmliigepegaaaDoor
open Go.RowKit Go.Lst FloatKit

end Go.Proofs.YtjpmliigepegaaaDoor
