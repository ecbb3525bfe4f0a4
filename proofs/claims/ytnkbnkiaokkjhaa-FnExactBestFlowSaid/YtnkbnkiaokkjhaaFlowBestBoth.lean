/- What BestFlow answers, in the model and in the program. No condition. -/
import Derived.Test.YtnkbnkiaokkjhaaFlowBestRun
import Derived.Test.YtnkbnkiaokkjhaaPermBoth
namespace Go.Proofs.Ytnkbnkiaokkjhaa
open Go.RowKit Go.Lst Go.Plan

theorem bestFlow_both (ts : List Int) (M : Int) (_ : ∀ x ∈ ts, (Lit.int .i64 x).wf = true) (_ : (Lit.int .i64 M).wf = true) : ∃ (r0 : List Int) (r1 : Int) (r2 : Bool), r0.length ≤ 1048576 ∧
    (∀ (B : Nat) (v0 : Value) (w : World), LstI B w v0 ts → B ≤ w.heap.size → Calls Try.prog 14 #[v0, .int .i64 M] w fun e' w' => ∃ v', e' = .returned (.tuple #[v', .int .i64 r1, .bool r2]) ∧ Lst.Own w.heap.size w'.heap.size w' v' 2 1 r0.length (r0.map (Value.int .i64)) ∧ Below w.heap.size w w') ∧
    (∀ (B : Nat) (v0 : Value) (w : World), LstI B w v0 ts → B ≤ w.heap.size → Calls Try.prog 16 #[v0, .int .i64 M] w fun e' w' => ∃ v', e' = .returned (.tuple #[v', .int .i64 r1, .bool r2]) ∧ Lst.Own w.heap.size w'.heap.size w' v' 2 1 r0.length (r0.map (Value.int .i64)) ∧ Below w.heap.size w w') := by
  cases hq : flowOk ts M with
  | false =>
    refine ⟨[], 0, false, by simp, ?_, ?_⟩
    · intro B v0 w h hB
      exact (specFlow_no B v0 ts M w h hq).mono fun e w' ⟨he, hb⟩ => ⟨_, he, own_nil, hb⟩
    · intro B v0 w h hB
      exact (implFlow_no B v0 ts M w h hB hq).mono fun e w' ⟨he, hb⟩ => ⟨_, he, own_nil, hb⟩
  | true =>
    have hs : canShop ts M = true := by unfold flowOk at hq; rw [Bool.and_eq_true] at hq; exact hq.1
    obtain ⟨m, n, rfl, hm1, hm8, hn1, h7, hlen, ht⟩ := flowOk_of hq
    obtain ⟨T, b, hT, hb⟩ := total_least hn1 (flowCost ts m n)
    refine ⟨rowAt n b, flowCost ts m n b, true, by rw [rowAt_length]; omega, ?_, ?_⟩
    · intro B v0 w h hB
      exact (specFlow_yes B m n v0 ts w h hB hs hm1 hm8 hn1 h7 hlen ht).mono fun e w' he => perm_post hT hb (by omega) he
    · intro B v0 w h hB
      exact (implFlow_yes B m n v0 ts w h hB hs hm1 hm8 hn1 h7 hlen ht).mono fun e w' he => perm_post hT hb (by omega) he
end Go.Proofs.Ytnkbnkiaokkjhaa
