/- Lists of texts: a word for them, the law's marks of texts, and contracts of the law's own functions on lists of texts: compared, marked, and looked at again. -/
import Derived.Test.YtjpmliigepegaaaDoorInts
import Derived.Test.YtjpmliigepegaaaDoorBlk
import Derived.Test.YtjpmliigepegaaaDoorNear
import Derived.IntWalk
import Derived.Laws.BytesArg
namespace Go.Lst
open Go.RowKit
/-- The slice v holds the texts xs. -/
def LstS (B : Nat) (w : World) (v : Value) (xs : List ByteArray) : Prop := LstK 1 B w v xs.length (xs.map Value.string)
theorem Own.lstS {A B B' e : Nat} {w : World} {v : Value} {xs : List ByteArray} (h : Own A B w v e 1 xs.length (xs.map Value.string)) (hB : B ≤ B') : LstS B' w v xs := h.lstK hB
theorem LstS.lst {B : Nat} {w : World} {v : Value} {xs : List ByteArray} (h : LstS B w v xs) : Lst B w v (xs.map Value.string) := LstK.lst h
end Go.Lst
namespace Go.Proofs.YtjpmliigepegaaaDoor
open Go.RowKit Go.Lst

theorem grown_below {w w' : World} (h : Below w.heap.size w w') (r : Option Nat) : w.grownBy w' r := ⟨h.os, h.tape, h.output, h.size, fun k hk _ => h.block k hk⟩
end Go.Proofs.YtjpmliigepegaaaDoor
