/- Contracts: runs of blocks. -/
import Derived.Test.YtnmecfibfajbnaaAreJobs
import Derived.Test.YtnmecfibfajbnaaPost
namespace Go.Proofs.Ytnmecfibfajbnaa
open Go.RowKit Go.Lst

def okRuns (xs : List Int) : Bool := decide (1 ≤ xs.length) && decide (xs.length ≤ 12) && allIn xs 0 1000
theorem okRuns_of {xs : List Int} (h : okRuns xs = true) : 1 ≤ xs.length ∧ xs.length ≤ 12 ∧ ∀ (i : Nat) (x : Int), xs[i]? = some x → 0 ≤ x ∧ x ≤ 1000 := by
  simp only [okRuns, Bool.and_eq_true, decide_eq_true_eq] at h
  exact ⟨h.1.1, h.1.2, fun i x hx => allIn_of h.2 hx⟩
end Go.Proofs.Ytnmecfibfajbnaa
