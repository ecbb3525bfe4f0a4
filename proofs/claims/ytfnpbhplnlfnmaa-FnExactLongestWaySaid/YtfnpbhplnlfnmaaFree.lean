/- Contracts: FreeSlackOf, in the model and in the program. -/
import Derived.Test.YtfnpbhplnlfnmaaSlack3
import Derived.Deep.AppendLies
import Derived.Deep.RegionHeld3
namespace Go.Proofs.Ytfnpbhplnlfnmaa
open Go.RowKit Go.Lst

def freeAt (xs : List TaskD) (i : Nat) : Int := lateAt xs (early xs) i (endOf xs (early xs)) - (early xs).getD i 0
def freeOf (xs : List TaskD) : List Int := fill (freeAt xs) xs.length
def freeRes (xs : List TaskD) : List Int := if areTasks xs then freeOf xs else []
theorem freeOf_length (xs : List TaskD) : (freeOf xs).length = xs.length := fill_length _ _
theorem freeRes_length (xs : List TaskD) : (freeRes xs).length ≤ 1048576 := by
  unfold freeRes
  split
  · rename_i h; rw [freeOf_length]; have := (areTasks_fit h).most; omega
  · simp
theorem list_no {xs : List TaskD} {w w' : World} {r : List Int} (h : areTasks xs = false) (hr : r = []) (hb : Below w.heap.size w w') : ListPost r (areTasks xs) w (.returned (.tuple #[.slice none 0 0, .bool false])) w' := by
  subst hr
  exact ⟨.slice none 0 0, by rw [h], own_nil, hb⟩
theorem list_yes {xs : List TaskD} {w w' : World} {r : List Int} {v : Value} (h : areTasks xs = true) (hl : r.length = xs.length) (ho : Own w.heap.size w'.heap.size w' v 2 1 xs.length (r.map (Value.int .i64))) (hb : Below w.heap.size w w') : ListPost r (areTasks xs) w (.returned (.tuple #[v, .bool true])) w' :=
  ⟨v, by rw [h], early_own ho hl, hb⟩
theorem freeRes_no {xs : List TaskD} (h : areTasks xs = false) : freeRes xs = [] := by unfold freeRes; rw [if_neg (by rw [h]; simp)]
theorem freeRes_yes {xs : List TaskD} (h : areTasks xs = true) : freeRes xs = freeOf xs := by unfold freeRes; rw [if_pos h]
theorem freeAt_bound {xs : List TaskD} (h : Fit xs) (i : Nat) : -1100 ≤ lateAt xs (early xs) i (endOf xs (early xs)) ∧ lateAt xs (early xs) i (endOf xs (early xs)) ≤ 18600 := by
  have h1 := endOf_bound h
  have := lateAt_bound h (early_bound h) i (e := endOf xs (early xs)) (by omega)
  omega

theorem news_oneN (w : World) (t : TypeId) (u : Value) : ∀ (q : Unit) (j : Nat) (x : Value), [u][j]? = some x → (w.alloc (.cells #[u] t)).cell? ((⟨w.heap.size, 0, none⟩ : Addr).add j) = some x := fun _ j x hj => by
  match j, hj with
  | 0, hj =>
    obtain rfl : u = x := by simpa using hj
    exact (Whole.made w t #[u] rfl).at_ rfl
  | j + 1, hj => simp at hj
theorem alloc_eq (w : World) (o : Obj) : (w.alloc o).heap.size = w.heap.size + 1 := by simp
theorem alloc_le {B : Nat} {w : World} (h : B ≤ w.heap.size) (o : Obj) : B ≤ (w.alloc o).heap.size := by rw [alloc_eq]; omega
theorem below_appendN {B n : Nat} {w wr w6 : World} {o : Obj} {v : Value} {cs : List Value} {e : TypeId} (hb : Below B w wr) (hO : wr.ownsRow B e 1 v n cs) (hg : (wr.alloc o).grownBy w6 v.ownBlock) (hB : B ≤ wr.heap.size) : Below B w w6 :=
  (hb.alloc hB o).grown hg (alloc_le hB o) fun k hk => (hO.lt k hk).1
theorem earlyPost_no {xs : List TaskD} {w w' : World} {e : Ending} (h : areTasks xs = false) (hp : EarlyPost xs w e w') : e = .returned (.tuple #[.slice none 0 0, .int .i64 0, .bool false]) ∧ Below w.heap.size w w' ∨ ∃ v', e = .returned (.tuple #[v', .int .i64 0, .bool false]) ∧ (∃ a n c, v' = .slice a n c) ∧ Below w.heap.size w w' := by
  obtain ⟨v', he, ho, hb⟩ := hp
  refine .inr ⟨v', ?_, own_slice ho, hb⟩
  rw [he, h]; unfold earlyEnd; rw [h]; rfl
theorem earlyPost_yes {xs : List TaskD} {w w' : World} {e : Ending} (h : areTasks xs = true) (hp : EarlyPost xs w e w') : ∃ v', e = .returned (.tuple #[v', .int .i64 (endOf xs (early xs)), .bool true]) ∧ Own w.heap.size w'.heap.size w' v' 2 1 (early xs).length ((early xs).map (Value.int .i64)) ∧ Below w.heap.size w w' := by
  obtain ⟨v', he, ho, hb⟩ := hp
  unfold earlyEnd earlyRes at *
  rw [if_pos h] at he
  rw [if_pos h] at ho
  exact ⟨v', by rw [he, h], ho, hb⟩

end Go.Proofs.Ytfnpbhplnlfnmaa
