/- What BestTable answers, in the model and in the program. No condition. -/
import Derived.Test.YtncbjdkidkklgaaTabLeast
import Derived.Test.YtncbjdkidkklgaaTabBoth
namespace Go.Proofs.Ytncbjdkidkklgaa
open Go.RowKit Go.Lst

theorem bestTable_both (e : Int) (xs : List RuleD) (p : Int) (_ : (Lit.int .i64 e).wf = true) (_ : ∀ y ∈ xs, y.wf) (_ : (Lit.int .i64 p).wf = true) : ∃ (r0 : List Int) (r1 : Int) (r2 : Bool), r0.length ≤ 1048576 ∧
    (∀ (B : Nat) (v0 : Value) (w : World), LstRule B w v0 xs → B ≤ w.heap.size → Calls Try.prog 17 #[.int .i64 e, v0, .int .i64 p] w fun e' w' => ∃ v', e' = .returned (.tuple #[v', .int .i64 r1, .bool r2]) ∧ Lst.Own w.heap.size w'.heap.size w' v' 2 1 r0.length (r0.map (Value.int .i64)) ∧ Below w.heap.size w w') ∧
    (∀ (B : Nat) (v0 : Value) (w : World), LstRule B w v0 xs → B ≤ w.heap.size → Calls Try.prog 18 #[.int .i64 e, v0, .int .i64 p] w fun e' w' => ∃ v', e' = .returned (.tuple #[v', .int .i64 r1, .bool r2]) ∧ Lst.Own w.heap.size w'.heap.size w' v' 2 1 r0.length (r0.map (Value.int .i64)) ∧ Below w.heap.size w w') :=
  ⟨tabOf e p (bestTab e xs p), bestSum e xs p, (bestTab e xs p).isSome, tabOf_len bestTab (fun _ _ _ h => bestTab_no h), fun B v w h hB => specBest_any B e p v xs w h hB, fun B v w h hB => implBest_any B e p v xs w h hB⟩
end Go.Proofs.Ytncbjdkidkklgaa
