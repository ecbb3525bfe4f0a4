/- Contracts: SlackOf as a whole. -/
import Derived.Test.YtfnpbhplnlfnmaaSlack2
namespace Go.Proofs.Ytfnpbhplnlfnmaa
open Go.RowKit Go.Lst

def slackRes (xs : List TaskD) : List Int := if areTasks xs then slackOf xs else []
theorem slackOf_length (xs : List TaskD) : (slackOf xs).length = xs.length := fill_length _ _
theorem slackRes_length (xs : List TaskD) : (slackRes xs).length ≤ 1048576 := by
  unfold slackRes
  split
  · rename_i h; rw [slackOf_length]; have := (areTasks_fit h).most; omega
  · simp
/-- A list and whether it is told. -/
def ListPost (r0 : List Int) (r1 : Bool) (w : World) (e : Ending) (w' : World) : Prop :=
  ∃ v', e = .returned (.tuple #[v', .bool r1]) ∧ Own w.heap.size w'.heap.size w' v' 2 1 r0.length (r0.map (Value.int .i64)) ∧ Below w.heap.size w w'
end Go.Proofs.Ytfnpbhplnlfnmaa
