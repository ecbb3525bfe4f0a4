/- A region that draws its order, whose operations only read and whose callees read and make blocks of their own: walked once, in the order of the text. Conditions: those of the kit's law on quiet regions; here at the class of worlds that are as a world was below a block number. -/
import Derived.Test.YtnkbnkiaokkjhaaOwn
import Derived.BigQuiet
namespace Go.Lst
open Go.RowKit

/-- The worlds that are as w was below the block B. -/
def Near (B : Nat) (w : World) : Type := { w' : World // Below B w w' }
def Near.at_ {B : Nat} {w : World} (p : Near B w) : World := p.1
theorem Near.below {B : Nat} {w : World} (p : Near B w) : Below B w p.at_ := p.2
instance (B : Nat) (w : World) : Inhabited (Near B w) := ⟨⟨w, Below.refl B w⟩⟩

theorem wp_region_near {P : Program} {id : Nat} {Q : Exit → Act → World → Prop} {a : Act} {w : World} {l : List Oper} (hm : P.follows .mixedOrders = true) (hB : Region.lexB .any l.toArray = true)
    (h : wpQuiet P l.toArray (fun w' => ∃ p : Near w.heap.size w, w' = p.at_) (fun a' => ∀ w', (∃ p : Near w.heap.size w, w' = p.at_) → Q .normal a' w') l a) : (Code.region id l.toArray true).wp P Q a w :=
  wp_region_quiet (C := fun w' => ∃ p : Near w.heap.size w, w' = p.at_) hm hB ⟨⟨w.drew, (Below.refl _ _).drew⟩, rfl⟩ h

theorem near_cell {w : World} {a : Addr} {v : Value} (h : w.cell? a = some v) (p : Near w.heap.size w) : p.at_.cell? a = some v := by
  rw [p.below.cell (p := a) (World.block_lt_of_cell? w a h)]; exact h

/-- A callee's contract, met in a world of the class. -/
theorem near_of {P : Program} {f : FuncId} {args : Array Value} {B : Nat} {w : World} {p : Near B w} {v : Value} (hB : B ≤ w.heap.size)
    (h : Calls P f args p.at_ fun e w' => e = .returned v ∧ Below p.at_.heap.size p.at_ w') : Calls P f args p.at_ fun e w'' => e = .returned v ∧ ∃ q : Near B w, w'' = q.at_ :=
  h.mono fun _ w'' ⟨he, hb⟩ => ⟨he, ⟨w'', p.below.trans (hb.mono (Nat.le_trans hB p.below.size))⟩, rfl⟩
end Go.Lst
