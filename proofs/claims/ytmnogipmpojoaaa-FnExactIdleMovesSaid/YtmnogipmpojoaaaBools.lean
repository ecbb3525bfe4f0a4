/- Lists of bool: a word for them, and contracts of the law's own functions on them: compared, marked, and looked at again. -/
import Derived.Test.YtmnogipmpojoaaaInts
import Derived.IntWalk
namespace Go.Lst
open Go.RowKit
/-- The slice v holds the truths xs. -/
def LstB (B : Nat) (w : World) (v : Value) (xs : List Bool) : Prop := LstK 1 B w v xs.length (xs.map Value.bool)
theorem Own.lstB {A B B' e : Nat} {w : World} {v : Value} {xs : List Bool} (h : Own A B w v e 1 xs.length (xs.map Value.bool)) (hB : B ≤ B') : LstB B' w v xs := h.lstK hB
theorem LstB.lst {B : Nat} {w : World} {v : Value} {xs : List Bool} (h : LstB B w v xs) : Lst B w v (xs.map Value.bool) := LstK.lst h
end Go.Lst
namespace Go.Proofs.Ytmnogipmpojoaaa
open Go.RowKit Go.Lst

def markB (z : Int) : Value := .bool (z % 3 == 0)
end Go.Proofs.Ytmnogipmpojoaaa
