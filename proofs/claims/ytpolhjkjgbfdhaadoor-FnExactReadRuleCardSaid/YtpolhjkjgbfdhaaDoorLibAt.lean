/- What the program's reading functions ask of Go's library: the table of powers of ten as its text lays it, internal/bytealg.MaxLen some int, strconv's two errors some errors. -/
import Derived.Test.YtpolhjkjgbfdhaaDoorNumbers
namespace Go.Proofs.YtpolhjkjgbfdhaaDoor
open Go.RowKit Go.Lst Go

def LibAt (w : World) : Prop := Tab10 w ∧ MaxAt w ∧ ErrsAt w
theorem LibAt.kept {w w' : World} (h : LibAt w) (hb : Below w.heap.size w w') : LibAt w' := ⟨h.1.kept hb, h.2.1.kept hb, h.2.2.kept hb⟩
end Go.Proofs.YtpolhjkjgbfdhaaDoor
