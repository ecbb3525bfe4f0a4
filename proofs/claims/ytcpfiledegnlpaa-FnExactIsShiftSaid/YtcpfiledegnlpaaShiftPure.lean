/- Pure facts: what counts of the first letters of a shift, as the program and as the model keep it. -/
import Derived.Test.YtcpfiledegnlpaaAggShiftRule
import Derived.Test.YtcpfiledegnlpaaLetters
namespace Go.Proofs.Ytcpfiledegnlpaa
open Go.RowKit Go.Lst

/-- The program's: slots that are left, slots that are worked, those at last in a row, slots of the pause. -/
structure StageD where
  (left worked row pause : Int)
@[reducible] def StageD.agg (s : StageD) : Value := .agg #[.int .i64 s.left, .int .i64 s.worked, .int .i64 s.row, .int .i64 s.pause]
def StageD.cells (s : StageD) : Array Value := #[.int .i64 s.left, .int .i64 s.worked, .int .i64 s.row, .int .i64 s.pause]
/-- The model's. -/
structure PlaceD where
  (worked row free : Int)
@[reducible] def PlaceD.agg (p : PlaceD) : Value := .agg #[.int .i64 p.worked, .int .i64 p.row, .int .i64 p.free]
def PlaceD.cells (p : PlaceD) : Array Value := #[.int .i64 p.worked, .int .i64 p.row, .int .i64 p.free]
def pauseOf (p : PlaceD) : Int := if 0 < p.worked then p.free else 0
def freePlace (p : PlaceD) : PlaceD := ⟨p.worked, 0, if 0 ≤ p.free then p.free + 1 else p.free⟩
def workPlace (p : PlaceD) : PlaceD := ⟨p.worked + 1, p.row + 1, 0⟩
def restedP (pause : Int) (p : PlaceD) : Bool := !(decide (0 < p.free) && decide (p.free < pause))
def fewW (most row : Int) (p : PlaceD) : Bool := decide (p.worked + 1 ≤ most) && decide (p.row + 1 ≤ row)
def stageAt (r : ShiftRuleD) (p : PlaceD) (k : Nat) : StageD := ⟨r.Slots - k, p.worked, p.row, pauseOf p⟩
def mayWork (r : ShiftRuleD) (p : PlaceD) : Bool := restedP r.Pause p && fewW r.Most r.Row p
def stepP (r : ShiftRuleD) (p : PlaceD) (c : Int) : Option PlaceD := if c = 46 then some (freePlace p) else if c = 119 then (if mayWork r p then some (workPlace p) else none) else none
def startP : PlaceD := ⟨0, 0, -1⟩
def runP (r : ShiftRuleD) (s : ByteArray) : Nat → Option PlaceD
  | 0 => some startP
  | k + 1 => (runP r s k).bind fun p => stepP r p ((s.data.toList.getD k 0).toNat : Int)
/-- The program's step. -/
def freeStage (st : StageD) : StageD := ⟨st.left - 1, st.worked, 0, if 0 < st.worked then st.pause + 1 else st.pause⟩
def workStage (st : StageD) : StageD := ⟨st.left - 1, st.worked + 1, st.row + 1, 0⟩
def mayStage (r : ShiftRuleD) (st : StageD) : Bool := (decide (st.pause = 0) || decide (r.Pause ≤ st.pause)) && (decide (st.worked + 1 ≤ r.Most) && decide (st.row + 1 ≤ r.Row))
def Good (p : PlaceD) (k : Nat) : Prop := ((p.worked = 0 ∧ p.free = -1) ∨ (1 ≤ p.worked ∧ 0 ≤ p.free)) ∧ 0 ≤ p.row ∧ p.row ≤ k ∧ p.worked ≤ k ∧ p.free ≤ k
theorem good_start : Good startP 0 := by unfold Good startP; simp
theorem good_free {p : PlaceD} {k : Nat} (h : Good p k) : Good (freePlace p) (k + 1) := by
  unfold Good freePlace at *
  obtain ⟨h1, h2, h3, h4, h5⟩ := h
  refine ⟨?_, by simp, by simp; omega, by simp; omega, ?_⟩
  · rcases h1 with ⟨a, b⟩ | ⟨a, b⟩
    · exact .inl ⟨a, by rw [if_neg (by omega)]; exact b⟩
    · exact .inr ⟨a, by simp; rw [if_pos b]; omega⟩
  · simp; split <;> omega
theorem good_work {p : PlaceD} {k : Nat} (h : Good p k) : Good (workPlace p) (k + 1) := by
  unfold Good workPlace at *
  obtain ⟨h1, h2, h3, h4, h5⟩ := h
  refine ⟨.inr ⟨?_, by simp⟩, by simp; omega, by simp; omega, by simp; omega, by simp; omega⟩
  rcases h1 with ⟨a, b⟩ | ⟨a, b⟩ <;> (simp; omega)
theorem stage_free {r : ShiftRuleD} {p : PlaceD} {k : Nat} (h : Good p k) : freeStage (stageAt r p k) = stageAt r (freePlace p) (k + 1) := by
  unfold freeStage stageAt freePlace pauseOf
  unfold Good at h
  simp only [StageD.mk.injEq]
  refine ⟨by omega, trivial, trivial, ?_⟩
  rcases h.1 with ⟨a, b⟩ | ⟨a, b⟩
  · rw [if_neg (by omega), if_neg (by omega), if_neg (by omega)]
  · rw [if_pos (by omega), if_pos (by omega), if_pos (by omega), if_pos (by omega)]
theorem stage_work {r : ShiftRuleD} {p : PlaceD} {k : Nat} (h : Good p k) : workStage (stageAt r p k) = stageAt r (workPlace p) (k + 1) := by
  unfold workStage stageAt workPlace pauseOf
  unfold Good at h
  simp only [StageD.mk.injEq]
  refine ⟨by omega, trivial, trivial, ?_⟩
  rw [if_pos (by rcases h.1 with ⟨a, b⟩ | ⟨a, b⟩ <;> omega)]
theorem stage_may {r : ShiftRuleD} {p : PlaceD} {k : Nat} (h : Good p k) : mayStage r (stageAt r p k) = mayWork r p := by
  unfold mayStage mayWork stageAt restedP fewW pauseOf
  unfold Good at h
  congr 1
  rw [Bool.eq_iff_iff]
  simp only [Bool.or_eq_true, Bool.not_eq_true', Bool.and_eq_false_iff, decide_eq_true_eq, decide_eq_false_iff_not]
  rcases h.1 with ⟨a, b⟩ | ⟨a, b⟩
  · rw [if_neg (by omega)]; omega
  · rw [if_pos (by omega)]; omega
theorem runP_good {r : ShiftRuleD} {s : ByteArray} : ∀ {k : Nat} {p : PlaceD}, runP r s k = some p → Good p k
  | 0, p, h => by
    injection h with h
    subst h
    exact good_start
  | k + 1, p, h => by
    unfold runP at h
    cases hk : runP r s k with
    | none => rw [hk] at h; cases h
    | some q =>
      rw [hk] at h
      have ih := runP_good hk
      replace h : stepP r q _ = some p := h
      unfold stepP at h
      split at h
      · injection h with h
        subst h
        exact good_free ih
      · split at h
        · split at h
          · injection h with h
            subst h
            exact good_work ih
          · cases h
        · cases h
theorem runP_none {r : ShiftRuleD} {s : ByteArray} {k : Nat} (h : runP r s k = none) : ∀ n, k ≤ n → runP r s n = none := fun n hn => by
  induction n with
  | zero => rw [show k = 0 by omega] at h; exact h
  | succ n ih =>
    by_cases e : k = n + 1
    · rw [← e]; exact h
    · unfold runP; rw [ih (by omega)]; rfl
theorem runP_free {r : ShiftRuleD} {s : ByteArray} {k : Nat} {p : PlaceD} (h : runP r s k = some p) (hc : (s.data.toList.getD k 0).toNat = 46) : runP r s (k + 1) = some (freePlace p) := by
  unfold runP; rw [h]; show stepP r p _ = _; unfold stepP; rw [hc, if_pos (by rfl)]
theorem runP_work {r : ShiftRuleD} {s : ByteArray} {k : Nat} {p : PlaceD} (h : runP r s k = some p) (hc : (s.data.toList.getD k 0).toNat = 119) (hm : mayWork r p = true) : runP r s (k + 1) = some (workPlace p) := by
  unfold runP; rw [h]; show stepP r p _ = _; unfold stepP; rw [hc, if_neg (by decide), if_pos (by rfl), hm]; rfl
theorem runP_not {r : ShiftRuleD} {s : ByteArray} {k : Nat} {p : PlaceD} (h : runP r s k = some p) (hc : (s.data.toList.getD k 0).toNat = 119) (hm : mayWork r p = false) : runP r s (k + 1) = none := by
  unfold runP; rw [h]; show stepP r p _ = _; unfold stepP; rw [hc, if_neg (by decide), if_pos (by rfl), hm]; rfl
theorem runP_bad {r : ShiftRuleD} {s : ByteArray} {k : Nat} {p : PlaceD} (h : runP r s k = some p) (h1 : ¬ (s.data.toList.getD k 0).toNat = 46) (h2 : ¬ (s.data.toList.getD k 0).toNat = 119) : runP r s (k + 1) = none := by
  unfold runP; rw [h]; show stepP r p _ = _; unfold stepP; rw [if_neg (by omega), if_neg (by omega)]
def shiftB (r : ShiftRuleD) (s : ByteArray) : Bool := decide ((s.size : Int) = r.Slots) && (match runP r s s.size with | some p => decide (r.Least ≤ p.worked) | none => false)
theorem shiftB_some {r : ShiftRuleD} {s : ByteArray} {p : PlaceD} (h : runP r s s.size = some p) : shiftB r s = (decide ((s.size : Int) = r.Slots) && decide (r.Least ≤ p.worked)) := by unfold shiftB; rw [h]
theorem shiftB_none {r : ShiftRuleD} {s : ByteArray} {k : Nat} (h : runP r s k = none) (hk : k ≤ s.size) : shiftB r s = false := by unfold shiftB; rw [runP_none h s.size hk]; simp
theorem shiftB_size {r : ShiftRuleD} {s : ByteArray} (h : ¬ (s.size : Int) = r.Slots) : shiftB r s = false := by unfold shiftB; rw [decide_eq_false h]; rfl
def stageRes (r : ShiftRuleD) (s : ByteArray) : StageD := match runP r s s.size with | some p => stageAt r p s.size | none => ⟨0, 0, 0, 0⟩
def stageOk (r : ShiftRuleD) (s : ByteArray) : Bool := (runP r s s.size).isSome
end Go.Proofs.Ytcpfiledegnlpaa
