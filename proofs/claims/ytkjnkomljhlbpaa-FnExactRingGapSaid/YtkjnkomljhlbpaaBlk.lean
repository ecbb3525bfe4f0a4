/- Blocks whose whole content is known (the call's own variables), and how they are kept. -/
import Derived.Test.YtkjnkomljhlbpaaOwn
import Derived.Laws.Rows
import Derived.Laws.NewBlocks
namespace Go.Lst
open Go.RowKit

/-- The block b of the world w is a row of the cells cs of the type t, none of which is frozen. -/
def Whole (w : World) (b : Nat) (t : TypeId) (cs : Array Value) : Prop := w.heap[b]? = some (.cells cs t (0, 0))
theorem Whole.size {w : World} {b : Nat} {t : TypeId} {cs : Array Value} (h : Whole w b t cs) : b < w.heap.size := by
  by_cases hb : b < w.heap.size
  · exact hb
  · have : w.heap[b]? = none := Array.getElem?_eq_none (by omega)
    unfold Whole at h
    rw [this] at h
    cases h
theorem Whole.at_ {w : World} {b : Nat} {t : TypeId} {cs : Array Value} (h : Whole w b t cs) {i : Nat} {u : Value} (hu : cs[i]? = some u) : w.cell? ⟨b, i, none⟩ = some u := (cell_of_row w b i cs t (0, 0) h).trans hu
theorem Whole.free {w : World} {b : Nat} {t : TypeId} {cs : Array Value} (h : Whole w b t cs) (i : Nat) : w.frozen? ⟨b, i, none⟩ = false := by
  unfold Whole at h
  simp only [World.frozen?, h]
  simp
theorem Whole.below {w w' : World} {b B : Nat} {t : TypeId} {cs : Array Value} (h : Whole w b t cs) (hb : Below B w w') (hB : b < B) : Whole w' b t cs := (hb.block b hB).trans h
theorem Whole.kept {w w' : World} {b : Nat} {t : TypeId} {cs : Array Value} (h : Whole w b t cs) (hb : Below w.heap.size w w') : Whole w' b t cs := h.below hb h.size
theorem Whole.made (w : World) (t : TypeId) (cs : Array Value) {b : Nat} (hb : b = w.heap.size) : Whole (w.alloc (.cells cs t)) b t cs := by
  subst hb
  show (w.heap.push _)[w.heap.size]? = _
  simp
theorem Whole.more {w : World} {b : Nat} {t : TypeId} {cs : Array Value} (h : Whole w b t cs) (o : Obj) : Whole (w.alloc o) b t cs := (Below.heap_alloc w o b h.size).trans h
theorem Whole.put {w : World} {b : Nat} {t : TypeId} {cs : Array Value} (h : Whole w b t cs) (i : Nat) (u : Value) : Whole (w.setCell ⟨b, i, none⟩ u) b t (cs.setIfInBounds i u) := by
  unfold Whole at h ⊢
  simp [World.setCell, Array.getElem?_modify, h]
theorem Whole.apart {w : World} {b : Nat} {t : TypeId} {cs : Array Value} (h : Whole w b t cs) {p : Addr} (hp : b ≠ p.block) (u : Value) : Whole (w.setCell p u) b t cs := (Below.heap_setCell w p u b hp).trans h
theorem Whole.beside {w w' : World} {b : Nat} {t : TypeId} {cs : Array Value} {row : Option Nat} (h : Whole w b t cs) (hg : w.grownBy w' row) (hr : some b ≠ row) : Whole w' b t cs := (hg.block b h.size hr).trans h
theorem Whole.draws {w : World} {b : Nat} {t : TypeId} {cs : Array Value} (h : Whole w b t cs) (n : Nat) : Whole (w.drewN n) b t cs := h
end Go.Lst
