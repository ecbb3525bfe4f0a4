/- Contract of the law's own comparison of two lists of float32: lists that hold the same numbers, up to which not-a-number it is, are called equal. -/
import Derived.Test.YtncbohecppdfnaaCopyF
import Derived.Deep.QuietTactic
import Derived.BigQuiet
import Derived.Deep.RegionWith
namespace Go.Proofs.Ytncbohecppdfnaa
open Go.RowKit Go.Lst FloatKit

theorem drewN_mk (w : World) (n : Nat) : ∃ m, w.drewN n = w.drewN m := ⟨n, rfl⟩

end Go.Proofs.Ytncbohecppdfnaa
