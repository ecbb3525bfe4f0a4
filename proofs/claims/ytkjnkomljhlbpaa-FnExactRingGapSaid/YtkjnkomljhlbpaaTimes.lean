/- Contracts: times of jobs on alike machines; sums and greatest ones of lists; a bound of the last end. -/
import Derived.Test.YtkjnkomljhlbpaaAreJobs
import Derived.IntWalk
namespace Go.Proofs.Ytkjnkomljhlbpaa
open Go.RowKit Go.Lst

def sumTo (ts : List Int) : Nat → Int
  | 0 => 0
  | k + 1 => sumTo ts k + ts.getD k 0
def maxTo (ts : List Int) : Nat → Int
  | 0 => ts.getD 0 0
  | k + 1 => max (maxTo ts k) (ts.getD (k + 1) 0)
theorem sumTo_bound {ts : List Int} {lo hi : Int} (h : ∀ (i : Nat) (x : Int), ts[i]? = some x → lo ≤ x ∧ x ≤ hi) (h0 : 0 ≤ lo) : ∀ k, k ≤ ts.length → 0 ≤ sumTo ts k ∧ sumTo ts k ≤ hi * k
  | 0, _ => by simp [sumTo]
  | k + 1, hk => by
    have ih := sumTo_bound h h0 k (by omega)
    have e : ts[k]? = some ts[k] := List.getElem?_eq_getElem _
    have hx := h k _ e
    unfold sumTo
    rw [getD_of e]
    have e1 : hi * ((k + 1 : Nat) : Int) = hi * (k : Int) + hi := by rw [Int.natCast_add]; exact Int.mul_add _ _ _ |>.trans (by simp)
    rw [e1]
    omega
theorem maxTo_bound {ts : List Int} {lo hi : Int} (h : ∀ (i : Nat) (x : Int), ts[i]? = some x → lo ≤ x ∧ x ≤ hi) : ∀ k, k < ts.length → lo ≤ maxTo ts k ∧ maxTo ts k ≤ hi
  | 0, hk => by
    have e : ts[0]? = some ts[0] := List.getElem?_eq_getElem _
    unfold maxTo
    rw [getD_of e]
    exact h 0 _ e
  | k + 1, hk => by
    have ih := maxTo_bound h k (by omega)
    have e : ts[k + 1]? = some ts[k + 1] := List.getElem?_eq_getElem _
    have hx := h _ _ e
    unfold maxTo
    rw [getD_of e]
    omega
theorem mx_eq (a b : Int) : (if a < b then b else a) = max a b := by split <;> omega



def Small (fs : List Int) (hi : Int) : Prop := ∀ i, 0 ≤ fs.getD i 0 ∧ fs.getD i 0 ≤ hi
theorem Small.set {fs : List Int} {hi hi' x : Int} {i : Nat} (h : Small fs hi) (hx : 0 ≤ x ∧ x ≤ hi') (hle : hi ≤ hi') : Small (fs.set i x) hi' := fun k => by
  have := h k
  rw [List.getD_eq_getElem?_getD] at this ⊢
  by_cases e : i = k
  · subst e
    by_cases hl : i < fs.length
    · rw [List.getElem?_set_self hl]; exact hx
    · rw [List.getElem?_eq_none (by rw [List.length_set]; omega)]; exact ⟨by simp, by simp; omega⟩
  · rw [List.getElem?_set_ne e]
    omega
/-- Times of jobs, and so many machines. -/
def okTimes (ts : List Int) : Bool := decide (1 ≤ ts.length) && decide (ts.length ≤ 24) && allIn ts 1 10000
def areTimes (ts : List Int) (m : Int) : Bool := okTimes ts && inB m 1 8
theorem okTimes_of {ts : List Int} (h : okTimes ts = true) : 1 ≤ ts.length ∧ ts.length ≤ 24 ∧ ∀ (i : Nat) (x : Int), ts[i]? = some x → 1 ≤ x ∧ x ≤ 10000 := by
  simp only [okTimes, Bool.and_eq_true, decide_eq_true_eq] at h
  exact ⟨h.1.1, h.1.2, fun i x hx => allIn_of h.2 hx⟩


end Go.Proofs.Ytkjnkomljhlbpaa
