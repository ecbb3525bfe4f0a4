/- Contracts: EarlyStarts as a whole. -/
import Derived.Test.YtbjbllkolekmpaaEarly2
namespace Go.Proofs.Ytbjbllkolekmpaa
open Go.RowKit Go.Lst

def earlyRes (xs : List TaskD) : List Int := if areTasks xs then early xs else []
def earlyEnd (xs : List TaskD) : Int := if areTasks xs then endOf xs (early xs) else 0
theorem areTasks_fit {xs : List TaskD} (h : areTasks xs = true) : Fit xs := (areTasks_iff.1 h).fit
theorem earlyRes_length (xs : List TaskD) : (earlyRes xs).length ≤ 1048576 := by
  unfold earlyRes
  split
  · rename_i h; rw [early_length]; have := (areTasks_fit h).most; omega
  · simp
theorem early_own {A B n : Nat} {w : World} {v : Value} {st : List Int} (h : Own A B w v 2 1 n (st.map (Value.int .i64))) (hl : st.length = n) : Own A B w v 2 1 st.length (st.map (Value.int .i64)) := by
  subst hl; exact h
end Go.Proofs.Ytbjbllkolekmpaa
