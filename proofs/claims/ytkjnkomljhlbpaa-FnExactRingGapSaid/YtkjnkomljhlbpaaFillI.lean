/- Pure facts on lists that are told place by place. -/
import Derived.Test.YtkjnkomljhlbpaaLst
namespace Go.Proofs.Ytkjnkomljhlbpaa
open Go.RowKit Go.Lst

def fillI (f : Nat → Int) (k : Nat) : List Int := (List.range k).map f
theorem fillI_succ (f : Nat → Int) (k : Nat) : fillI f (k + 1) = fillI f k ++ [f k] := by unfold fillI; rw [List.range_succ, List.map_append]; rfl
theorem fillI_length (f : Nat → Int) (k : Nat) : (fillI f k).length = k := by simp [fillI]
theorem one_int (x : Int) : ∀ u ∈ [Value.int .i64 x], u.oneCell' = true := by simp [Value.oneCell']
end Go.Proofs.Ytkjnkomljhlbpaa
