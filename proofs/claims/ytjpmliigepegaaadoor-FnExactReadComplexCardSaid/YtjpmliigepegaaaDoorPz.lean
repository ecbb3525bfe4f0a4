/- Places of a row that are told one by one. -/
import Derived.Test.YtjpmliigepegaaaDoorOwn
namespace Go.Proofs.YtjpmliigepegaaaDoor
open Go.RowKit Go.Lst

/-- Places 0 to k - 1 are told, the others are still as they were made. -/
def pz (f : Nat → Value) (z : Value) (k n : Nat) : List Value := (List.range k).map f ++ List.replicate (n - k) z
theorem pz_zero (f : Nat → Value) (z : Value) (n : Nat) : pz f z 0 n = List.replicate n z := by simp [pz]
theorem pz_full (f : Nat → Value) (z : Value) (n : Nat) : pz f z n n = (List.range n).map f := by simp [pz]
theorem pz_length (f : Nat → Value) (z : Value) {k n : Nat} (h : k ≤ n) : (pz f z k n).length = n := by simp [pz]; omega
theorem pz_at (f : Nat → Value) (z : Value) {k n : Nat} (h : k < n) : (pz f z k n)[k]? = some z := by
  unfold pz
  rw [List.getElem?_append_right (by simp), List.length_map, List.length_range, Nat.sub_self, List.getElem?_replicate, if_pos (by omega)]
theorem pz_set (f : Nat → Value) (z : Value) {k n : Nat} (h : k < n) : (pz f z k n).set k (f k) = pz f z (k + 1) n := by
  unfold pz
  obtain ⟨q, hq⟩ : ∃ q, n - k = q + 1 := ⟨n - k - 1, by omega⟩
  rw [hq, show n - (k + 1) = q by omega, List.replicate_succ, List.set_append_right _ _ (by simp), List.length_map, List.length_range, Nat.sub_self, List.set_cons_zero, List.range_succ, List.map_append, List.append_assoc]
  rfl
end Go.Proofs.YtjpmliigepegaaaDoor
