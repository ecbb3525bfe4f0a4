/- What BestReleased answers, in the model and in the program. No condition. -/
import Derived.Test.YtnkbnkiaokkjhaaPermRelRun
namespace Go.Proofs.Ytnkbnkiaokkjhaa
open Go.RowKit Go.Lst Go.Plan

theorem perm_post {n T b : Nat} {cs : Nat → Int} {w : World} {e : Ending} {w' : World} (hT : TotalF n T) (hb : leastG cs (List.range T) = some b) (hn : n ≤ 1000) (h : PermPost n cs w e w') :
    ∃ v', e = .returned (.tuple #[v', .int .i64 (cs b), .bool true]) ∧ Lst.Own w.heap.size w'.heap.size w' v' 2 1 (rowAt n b).length ((rowAt n b).map (Value.int .i64)) ∧ Below w.heap.size w w' := by
  obtain ⟨T', b', g, c, hT', hb', rfl, ho, hbw⟩ := h
  obtain rfl := totalF_one hT hT'
  rw [hb] at hb'
  obtain rfl := Option.some.inj hb'
  exact ⟨_, rfl, by rw [rowAt_length]; exact Lst.Own.new ho (by unfold maxLen; omega), hbw⟩
theorem total_least {n : Nat} (hn : 1 ≤ n) (cs : Nat → Int) : ∃ T b, TotalF n T ∧ leastG cs (List.range T) = some b := by
  obtain ⟨T, hT⟩ := total_is hn
  cases h : leastG cs (List.range T) with
  | some b => exact ⟨T, b, hT, h⟩
  | none =>
    exfalso
    have h8 := congrArg List.length ((leastG_nil cs (List.range T)).1 h)
    rw [List.length_range] at h8
    have h7 := hT.1
    rw [h8] at h7
    cases h7
theorem bestReleased_both (xs : List JobD) (kind : Int) (_ : ∀ y ∈ xs, y.wf) (_ : (Lit.int .i64 kind).wf = true) : ∃ (r0 : List Int) (r1 : Int) (r2 : Bool), r0.length ≤ 1048576 ∧
    (∀ (B : Nat) (v0 : Value) (w : World), LstJob B w v0 xs → B ≤ w.heap.size → Calls Try.prog 6 #[v0, .int .i64 kind] w fun e' w' => ∃ v', e' = .returned (.tuple #[v', .int .i64 r1, .bool r2]) ∧ Lst.Own w.heap.size w'.heap.size w' v' 2 1 r0.length (r0.map (Value.int .i64)) ∧ Below w.heap.size w w') ∧
    (∀ (B : Nat) (v0 : Value) (w : World), LstJob B w v0 xs → B ≤ w.heap.size → Calls Try.prog 8 #[v0, .int .i64 kind] w fun e' w' => ∃ v', e' = .returned (.tuple #[v', .int .i64 r1, .bool r2]) ∧ Lst.Own w.heap.size w'.heap.size w' v' 2 1 r0.length (r0.map (Value.int .i64)) ∧ Below w.heap.size w w') := by
  cases hq : relOk xs kind
  · refine ⟨[], 0, false, by simp, fun B v w h _ => (specRel_no B v xs kind w h hq).mono ?_, fun B v w h hB => (implRel_no B v xs kind w h hB hq).mono ?_⟩
    · rintro e w' ⟨rfl, hb⟩; exact ⟨_, rfl, own_nil, hb⟩
    · rintro e w' ⟨rfl, hb⟩; exact ⟨_, rfl, own_nil, hb⟩
  · obtain ⟨hj, h6, _⟩ := relOk_of hq
    obtain ⟨T, b, hT, hb⟩ := total_least (areJobs_of hj).1 (relCost xs kind)
    exact ⟨rowAt xs.length b, relCost xs kind b, true, by rw [rowAt_length]; omega, fun B v w h hB => (specRel_yes B v xs kind w h hB hq).mono fun e w' hp => perm_post hT hb (by omega) hp, fun B v w h hB => (implRel_yes B v xs kind w h hB hq).mono fun e w' hp => perm_post hT hb (by omega) hp⟩
end Go.Proofs.Ytnkbnkiaokkjhaa
