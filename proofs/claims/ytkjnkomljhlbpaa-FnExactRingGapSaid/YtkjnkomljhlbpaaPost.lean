/- Words for what a call returns: a list and whether it succeeds; a list, a number and whether it succeeds. -/
import Derived.Test.YtkjnkomljhlbpaaTimes
import Derived.StillTailTactics
import Derived.IntWalk
namespace Go.Proofs.Ytkjnkomljhlbpaa
open Go.RowKit Go.Lst

def ListPost (r : List Int) (ok : Bool) (w : World) (e : Ending) (w' : World) : Prop :=
  ∃ v', e = .returned (.tuple #[v', .bool ok]) ∧ Own w.heap.size w'.heap.size w' v' 2 1 r.length (r.map (Value.int .i64)) ∧ Below w.heap.size w w'
theorem list_no {r : List Int} {ok : Bool} {w w' : World} (h1 : r = []) (h2 : ok = false) (hb : Below w.heap.size w w') : ListPost r ok w (.returned (.tuple #[.slice none 0 0, .bool false])) w' := by
  subst h1 h2
  exact ⟨_, rfl, own_nil, hb⟩
theorem list_yes {r : List Int} {ok : Bool} {v : Value} {w w' : World} {A n : Nat} (h2 : ok = true) (hA : w.heap.size ≤ A) (hn : r.length = n) (ho : w'.ownsRow A 2 1 v n (r.map (Value.int .i64))) (hm : n ≤ 1048576) (hb : Below w.heap.size w w') : ListPost r ok w (.returned (.tuple #[v, .bool true])) w' := by
  subst h2 hn
  exact ⟨_, rfl, (Own.new ho (by unfold maxLen; omega)).mono hA (Nat.le_refl _), hb⟩
def ListNumPost (r : List Int) (x : Int) (ok : Bool) (w : World) (e : Ending) (w' : World) : Prop :=
  ∃ v', e = .returned (.tuple #[v', .int .i64 x, .bool ok]) ∧ Own w.heap.size w'.heap.size w' v' 2 1 r.length (r.map (Value.int .i64)) ∧ Below w.heap.size w w'
def NumPost (x : Int) (ok : Bool) (w : World) (e : Ending) (w' : World) : Prop := e = .returned (.tuple #[.int .i64 x, .bool ok]) ∧ Below w.heap.size w w'
theorem num_no {x : Int} {ok : Bool} {w w' : World} (h1 : x = 0) (h2 : ok = false) (hb : Below w.heap.size w w') : NumPost x ok w (.returned (.tuple #[.int .i64 0, .bool false])) w' := by
  subst h1 h2
  exact ⟨rfl, hb⟩
theorem num_yes {x y : Int} {ok : Bool} {w w' : World} (h1 : x = y) (h2 : ok = true) (hb : Below w.heap.size w w') : NumPost x ok w (.returned (.tuple #[.int .i64 y, .bool true])) w' := by
  subst h1 h2
  exact ⟨rfl, hb⟩
theorem zeros_row {w0 : World} {B g n : Nat} (h : w0.ownsRow B 2 1 (.slice (some ⟨g, 0, none⟩) n n) n (madeCells #[Value.int .i64 0] n).toList) :
    w0.ownsRow B 2 1 (.slice (some ⟨g, 0, none⟩) n n) n ((List.replicate n (0 : Int)).map (Value.int .i64)) := by
  rw [toList_madeCells_one] at h
  rw [List.map_replicate]
  exact h
theorem zeros_small (n : Nat) : Small (List.replicate n 0) 0 := fun i => by
  rw [List.getD_eq_getElem?_getD, List.getElem?_replicate]
  split <;> simp
theorem maxTo_ge {xs : List Int} : ∀ {k i : Nat}, i ≤ k → xs.getD i 0 ≤ maxTo xs k
  | 0, i, h => by have : i = 0 := by omega
                  subst this; exact Int.le_refl _
  | k + 1, i, h => by
    unfold maxTo
    by_cases e : i = k + 1
    · subst e; omega
    · have := maxTo_ge (xs := xs) (k := k) (i := i) (by omega)
      omega
theorem maxTo_le {xs : List Int} {c : Int} : ∀ {k : Nat}, (∀ i, i ≤ k → xs.getD i 0 ≤ c) → maxTo xs k ≤ c
  | 0, h => h 0 (Nat.le_refl _)
  | k + 1, h => by
    have h1 := maxTo_le (xs := xs) (k := k) (c := c) fun i hi => h i (by omega)
    have h2 := h (k + 1) (Nat.le_refl _)
    unfold maxTo
    omega
theorem all_at {ts : List Int} {lo hi : Int} (h : ∀ (i : Nat) (x : Int), ts[i]? = some x → lo ≤ x ∧ x ≤ hi) {k : Nat} (hk : k < ts.length) : lo ≤ ts.getD k 0 ∧ ts.getD k 0 ≤ hi := by
  have e : ts[k]? = some ts[k] := List.getElem?_eq_getElem _
  rw [getD_of e]
  exact h k _ e
/-- A cell of a row of the call's own, read. -/
theorem row_cell {w : World} {A g n cap : Nat} {e : TypeId} {xs : List Int} (h : w.ownsRow A e 1 (.slice (some ⟨g, 0, none⟩) n cap) n (xs.map (Value.int .i64))) {k : Nat} (hk : k < xs.length) :
    w.cell? ⟨g, k, none⟩ = some (.int .i64 (xs.getD k 0)) := by
  have hl := h.1
  rw [List.length_map, Nat.mul_one] at hl
  have e1 : xs[k]? = some xs[k] := List.getElem?_eq_getElem _
  exact (h.cellAt k (by omega)).trans (by rw [List.getElem?_map, e1, getD_of e1]; rfl)
/-- A number of a row of the call's own is written. -/
theorem row_set {w : World} {A g n cap : Nat} {e : TypeId} {xs : List Int} (h : w.ownsRow A e 1 (.slice (some ⟨g, 0, none⟩) n cap) n (xs.map (Value.int .i64))) (k : Nat) (x : Int) :
    (w.setCell ⟨g, k, none⟩ (.int .i64 x)).ownsRow A e 1 (.slice (some ⟨g, 0, none⟩) n cap) n ((xs.set k x).map (Value.int .i64)) ∧ w.grownBy (w.setCell ⟨g, k, none⟩ (.int .i64 x)) (some g) := by
  have := h.stored k (.int .i64 x)
  rw [List.map_set]
  exact this
end Go.Proofs.Ytkjnkomljhlbpaa
