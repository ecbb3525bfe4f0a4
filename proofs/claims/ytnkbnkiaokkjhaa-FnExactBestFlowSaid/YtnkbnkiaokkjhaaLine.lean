/- Contracts: times of lines; sums of lists; the least number of stations by sums. -/
import Derived.Test.YtnkbnkiaokkjhaaTimes
import Derived.IntWalk
namespace Go.Proofs.Ytnkbnkiaokkjhaa
open Go.RowKit Go.Lst

def okLine (ts : List Int) : Bool := okTimes ts && decide (ts.length ≤ 12)
theorem okLine_times {ts : List Int} (h : okLine ts = true) : okTimes ts = true := by
  simp only [okLine, Bool.and_eq_true] at h
  exact h.1
theorem okLine_of {ts : List Int} (h : okLine ts = true) : 1 ≤ ts.length ∧ ts.length ≤ 12 ∧ ∀ (i : Nat) (x : Int), ts[i]? = some x → 1 ≤ x ∧ x ≤ 10000 := by
  have h1 := okTimes_of (okLine_times h)
  simp only [okLine, Bool.and_eq_true, decide_eq_true_eq] at h
  exact ⟨h1.1, h.2, h1.2.2⟩
theorem sums_ok {ts : List Int} (h : okTimes ts = true) : ∀ k, k ≤ ts.length → 0 ≤ sumTo ts k ∧ sumTo ts k ≤ 1000000000000 := fun k hk => by
  have h1 := okTimes_of h
  have h2 := sumTo_bound (lo := 0) (hi := 10000) (fun i x hx => by have := h1.2.2 i x hx; omega) (by omega) k hk
  omega
theorem okLine_eq (ts : List Int) : okLine ts = (decide (1 ≤ ts.length) && decide (ts.length ≤ 12) && allIn ts 1 10000) := by
  unfold okLine okTimes
  by_cases h : ts.length ≤ 12
  · rw [decide_eq_true h, decide_eq_true (show ts.length ≤ 24 by omega)]; simp
  · rw [decide_eq_false h]; simp



/-- The binary digit of the task k, and the greatest set of tasks before it. -/
def p2 (k : Nat) : Int := IntKind.i64.wrap (1 * 2 ^ k)
def setsAt (k : Nat) : Int := IntKind.i64.wrap (p2 k - 1)
def okSets (bs : List Int) : Nat → Bool
  | 0 => true
  | k + 1 => okSets bs k && inB (bs.getD k 0) 0 (setsAt k)
def isLine (ts bs : List Int) : Bool := okLine ts && decide (bs.length = ts.length) && okSets bs bs.length
theorem okSets_false {bs : List Int} {k : Nat} (h : okSets bs k = false) : ∀ m, k ≤ m → okSets bs m = false
  | 0, hm => by have : k = 0 := by omega
                subst this; exact h
  | m + 1, hm => by
    by_cases e : k = m + 1
    · subst e; exact h
    · unfold okSets
      rw [okSets_false h m (by omega), Bool.false_and]
theorem okSets_step {bs : List Int} {k : Nat} {x : Int} (hx : bs[k]? = some x) : okSets bs (k + 1) = (okSets bs k && inB x 0 (setsAt k)) := by
  show (okSets bs k && inB (bs.getD k 0) 0 (setsAt k)) = _
  rw [getD_of hx]
theorem okSets_no {bs : List Int} {k m : Nat} {x : Int} (hx : bs[k]? = some x) (hq : inB x 0 (setsAt k) = false) (hm : k < m) : okSets bs m = false :=
  okSets_false (k := k + 1) (by rw [okSets_step hx, hq, Bool.and_false]) m hm
end Go.Proofs.Ytnkbnkiaokkjhaa
