/- Contracts: which lists are arcs. -/
import Derived.Test.YtkjnkomljhlbpaaRowArc
import Derived.Test.YtkjnkomljhlbpaaAreJobs
import Derived.Test.YtkjnkomljhlbpaaBlk
namespace Go.Proofs.Ytkjnkomljhlbpaa
open Go.RowKit Go.Lst

theorem all_any {α : Type} (p : α → Bool) (xs : List α) : xs.all p = !(xs.any fun x => !(p x)) := by
  induction xs with
  | nil => rfl
  | cons x xs ih => simp [ih, Bool.not_or]

set_option maxHeartbeats 400000 in
theorem l05Nodes_any (n : Int) (w : World) : Calls Try.prog 21 #[.int .i64 n] w fun e w' => e = .returned (.bool (inB n 1 12)) ∧ w = w' := by
  go_enter Try.func21, Try.ntmps21
  go_wp2_with (go_at_call 14; refine (l00In_any _ _ _ _).mono ?_; rintro e w' ⟨rfl, rfl⟩)
  go_ret
  exact ⟨rfl, rfl⟩



end Go.Proofs.Ytkjnkomljhlbpaa
