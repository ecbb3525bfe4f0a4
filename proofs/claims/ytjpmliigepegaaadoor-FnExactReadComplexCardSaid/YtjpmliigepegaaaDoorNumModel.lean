/- Contract: the list of numbers of float32 that a text spells, read by the model's loop. No condition. -/
import Derived.Test.YtjpmliigepegaaaDoorNumRead
namespace Go.Proofs.YtjpmliigepegaaaDoor
open Go.RowKit Go.Lst Go FloatKit

/-- Rows of other types lie in other blocks. -/
theorem own_ne {w : World} {A B e1 e2 k1 k2 n1 n2 : Nat} {v1 v2 : Value} {c1 c2 : List Value} (h1 : w.ownsRow A e1 k1 v1 n1 c1) (h2 : w.ownsRow B e2 k2 v2 n2 c2) (he : e1 ≠ e2) : ∀ g, v2.ownBlock = some g → v1.ownBlock ≠ some g := by
  intro g hg hg1
  obtain ⟨_, h1⟩ := h1
  obtain ⟨_, h2⟩ := h2
  rcases h1 with ⟨rfl, _⟩ | ⟨a, ca, x, rfl, _, hx, _⟩
  · cases hg1
  rcases h2 with ⟨rfl, _⟩ | ⟨b, cb, y, rfl, _, hy, _⟩
  · cases hg
  obtain rfl : a = g := by simpa [Value.ownBlock] using hg1
  obtain rfl : b = a := by simpa [Value.ownBlock] using hg
  rw [hx] at hy
  have := (Obj.cells.inj (Option.some.inj hy)).2.1
  exact he this
theorem row_beside {w w' : World} {A e k n : Nat} {v : Value} {cs : List Value} {row : Option Nat} (h : w.ownsRow A e k v n cs) (hg : w.grownBy w' row) (hne : ∀ g, v.ownBlock = some g → row ≠ some g) : w'.ownsRow A e k v n cs := by
  have hlt := h.lt
  obtain ⟨hl, h⟩ := h
  refine ⟨hl, ?_⟩
  rcases h with h | ⟨b, c, x, rfl, h1, h2, h3⟩
  · exact .inl h
  · exact .inr ⟨b, c, x, rfl, h1, by rw [hg.block b (hlt b rfl).2 (fun e => hne b rfl e.symm)]; exact h2, h3⟩
theorem news_cell8 (w : World) (t : TypeId) (u : Value) : ∀ (j : Nat) (x : Value), [u][j]? = some x → (w.alloc (.cells #[u] t)).cell? ((⟨w.heap.size, 0, none⟩ : Addr).add j) = some x := news_string7 w t u
end Go.Proofs.YtjpmliigepegaaaDoor
