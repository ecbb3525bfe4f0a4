/- Contracts of the law's own functions on lists of int64: a copy of a list, cell by cell. -/
import Derived.Test.YtncbjdkidkklgaaLst
import Derived.Test.YtncbjdkidkklgaaBase
import Derived.LoopTactic
import Derived.OwnWalk
import Derived.Outline
namespace Go.Proofs.Ytncbjdkidkklgaa
open Go.RowKit Go.Lst

theorem infoI : (Try.prog.info? 2).map (fun i => (i.zero, i.size, i.bytes)) = some (some (.int .i64 0), 1, 8) := by kernel_rfl

theorem copy_stepI {cs : List Value} {n k : Nat} (z u : Value) (hl : cs.length = n) (hk : k < n) (hu : cs[k]? = some u) :
    (cs.take k ++ List.replicate (n - k) z).set k u = cs.take (k + 1) ++ List.replicate (n - (k + 1)) z := by
  obtain ⟨m, hm⟩ : ∃ m, n - k = m + 1 := ⟨n - k - 1, by omega⟩
  rw [hm, show n - (k + 1) = m by omega, List.replicate_succ]
  have ht : (cs.take k).length = k := by rw [List.length_take]; omega
  rw [List.set_append_right _ _ (by omega), ht, Nat.sub_self, List.set_cons_zero, List.take_add_one, hu]
  simp

end Go.Proofs.Ytncbjdkidkklgaa
