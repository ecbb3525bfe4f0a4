/- What a search over all orders answers: one answer. No condition. -/
import Derived.Test.YtnkbnkiaokkjhaaPermBest
namespace Go.Proofs.Ytnkbnkiaokkjhaa
open Go.RowKit Go.Lst Go.Plan

theorem perm_post {n T b : Nat} {cs : Nat → Int} {w : World} {e : Ending} {w' : World} (hT : TotalF n T) (hb : leastG cs (List.range T) = some b) (hn : n ≤ 1000) (h : PermPost n cs w e w') :
    ∃ v', e = .returned (.tuple #[v', .int .i64 (cs b), .bool true]) ∧ Lst.Own w.heap.size w'.heap.size w' v' 2 1 (rowAt n b).length ((rowAt n b).map (Value.int .i64)) ∧ Below w.heap.size w w' := by
  obtain ⟨T', b', g, c, hT', hb', rfl, ho, hbw⟩ := h
  obtain rfl := totalF_one hT hT'
  rw [hb] at hb'
  obtain rfl := Option.some.inj hb'
  exact ⟨_, rfl, by rw [rowAt_length]; exact Lst.Own.new ho (by unfold maxLen; omega), hbw⟩
theorem total_least {n : Nat} (hn : 1 ≤ n) (cs : Nat → Int) : ∃ T b, TotalF n T ∧ leastG cs (List.range T) = some b := by
  obtain ⟨T, hT⟩ := total_is hn
  cases h : leastG cs (List.range T) with
  | some b => exact ⟨T, b, hT, h⟩
  | none =>
    exfalso
    have h8 := congrArg List.length ((leastG_nil cs (List.range T)).1 h)
    rw [List.length_range] at h8
    have h7 := hT.1
    rw [h8] at h7
    cases h7
end Go.Proofs.Ytnkbnkiaokkjhaa
