/- What FirstTable and CountTables answer, in the model and in the program. No condition. -/
import Derived.Test.YtncbjdkidkklgaaTabRun
namespace Go.Proofs.Ytncbjdkidkklgaa
open Go.RowKit Go.Lst

theorem tabOf_len {e : Int} {xs : List RuleD} {p : Int} (f : Int → List RuleD → Int → Option Nat) (hf : ∀ e xs p, okTab e xs p = false → f e xs p = none) : (tabOf e p (f e xs p)).length ≤ 1048576 := by
  cases hq : okTab e xs p
  · rw [hf _ _ _ hq]; simp [tabOf]
  · obtain ⟨d, P, rfl, rfl, hd, _⟩ := tab_facts hq
    unfold tabOf
    split
    · rw [tabL_length]; omega
    · simp
theorem firstTable_both (e : Int) (xs : List RuleD) (p : Int) (_ : (Lit.int .i64 e).wf = true) (_ : ∀ y ∈ xs, y.wf) (_ : (Lit.int .i64 p).wf = true) : ∃ (r0 : List Int) (r1 : Bool), r0.length ≤ 1048576 ∧
    (∀ (B : Nat) (v0 : Value) (w : World), LstRule B w v0 xs → B ≤ w.heap.size → Calls Try.prog 7 #[.int .i64 e, v0, .int .i64 p] w fun e' w' => ∃ v', e' = .returned (.tuple #[v', .bool r1]) ∧ Lst.Own w.heap.size w'.heap.size w' v' 2 1 r0.length (r0.map (Value.int .i64)) ∧ Below w.heap.size w w') ∧
    (∀ (B : Nat) (v0 : Value) (w : World), LstRule B w v0 xs → B ≤ w.heap.size → Calls Try.prog 9 #[.int .i64 e, v0, .int .i64 p] w fun e' w' => ∃ v', e' = .returned (.tuple #[v', .bool r1]) ∧ Lst.Own w.heap.size w'.heap.size w' v' 2 1 r0.length (r0.map (Value.int .i64)) ∧ Below w.heap.size w w') :=
  ⟨tabOf e p (firstTab e xs p), (firstTab e xs p).isSome, tabOf_len firstTab (fun _ _ _ h => firstTab_no h), fun B v w h hB => specFirst_any B e p v xs w h hB, fun B v w h hB => implFirst_any B e p v xs w h hB⟩
theorem countTables_both (e : Int) (xs : List RuleD) (p : Int) (_ : (Lit.int .i64 e).wf = true) (_ : ∀ y ∈ xs, y.wf) (_ : (Lit.int .i64 p).wf = true) : ∃ (r0 : Int) (r1 : Bool),
    (∀ (B : Nat) (v0 : Value) (w : World), LstRule B w v0 xs → B ≤ w.heap.size → Calls Try.prog 15 #[.int .i64 e, v0, .int .i64 p] w fun e' w' => e' = .returned (.tuple #[.int .i64 r0, .bool r1]) ∧ Below w.heap.size w w') ∧
    (∀ (B : Nat) (v0 : Value) (w : World), LstRule B w v0 xs → B ≤ w.heap.size → Calls Try.prog 16 #[.int .i64 e, v0, .int .i64 p] w fun e' w' => e' = .returned (.tuple #[.int .i64 r0, .bool r1]) ∧ Below w.heap.size w w') :=
  ⟨countTab e xs p, okTab e xs p, fun B v w h hB => specCount_any B e p v xs w h hB, fun B v w h hB => implCount_any B e p v xs w h hB⟩
end Go.Proofs.Ytncbjdkidkklgaa
