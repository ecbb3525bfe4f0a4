/- Contracts: a text is a shift of a rule, the program's. -/
import Derived.Test.YtcpfiledegnlpaaShiftRun
namespace Go.Proofs.Ytcpfiledegnlpaa
open Go.RowKit Go.Lst

set_option maxHeartbeats 4000000 in
set_option maxRecDepth 100000 in
theorem isShift_any (r : ShiftRuleD) (s : ByteArray) (hr : okRule r = true) (hs : s.size ≤ 9223372036854775807) (w : World) :
    Calls Try.prog 66 #[r.agg, .string s] w fun e w' => e = .returned (.bool (shiftB r s)) ∧ Below w.heap.size w w' := by
  have hR := okRule_of hr
  have hC := Lib.hid (fun w' => stageOf_any r s hr hs w')
  have hB0 := Lib.hid (below_alloc (Below.refl w.heap.size w) (.cells r.cells 47))
  have hW0 := Lib.hid (Whole.made w 47 r.cells (b := w.heap.size) rfl)
  cases hrun : runP r s s.size with
  | none =>
    rw [shiftB_none hrun (Nat.le_refl _)]
    have hC2 : Hid (∀ w', Calls Try.prog 82 #[r.agg, .string s] w' fun e w'' => e = .returned (.tuple #[.agg #[.int .i64 0, .int .i64 0, .int .i64 0, .int .i64 0], .bool false]) ∧ Below w'.heap.size w' w'') := Lib.hid fun w' => by
      have := hC.out w'
      unfold StagePost stageRes stageOk at this
      rw [hrun] at this
      exact this
    clear hC hrun
    unfold ShiftRuleD.cells at hB0 hW0
    generalize hq : (fun (e : Ending) (w' : World) => e = .returned (.bool false) ∧ Below w.heap.size w w') = Q at *
    have hQ : Hid (∀ w', Below w.heap.size w w' → Q (.returned (.bool false)) w') := Lib.hid fun w' hb => by rw [← hq]; exact ⟨rfl, hb⟩
    clear hq
    go_enter Try.func66, Try.ntmps66
    go_wp2_with (go_at_call 82; (with_reducible refine (hC2.out _).mono ?_); rintro e w2 ⟨rfl, hb2⟩; have hB2 := Lib.hid (below_on hB0.out (by simp) hb2); clear hb2)
    first | refine hQ.out _ ?_ | (go_ret2; refine hQ.out _ ?_)
    exact (by repeat (first | exact hB2.out | refine Below.setCell ?_ (by have := hB2.out.size; simp; omega) _ | refine Below.alloc ?_ (by have := hB2.out.size; omega) _))
  | some p =>
    rw [shiftB_some hrun]
    have hg := runP_good hrun
    have hC2 : Hid (∀ w', Calls Try.prog 82 #[r.agg, .string s] w' fun e w'' => e = .returned (.tuple #[.agg #[.int .i64 (r.Slots - s.size), .int .i64 p.worked, .int .i64 p.row, .int .i64 (pauseOf p)], .bool true]) ∧ Below w'.heap.size w' w'') := Lib.hid fun w' => by
      have := hC.out w'
      unfold StagePost stageRes stageOk at this
      rw [hrun] at this
      exact this
    clear hC hrun hg
    unfold ShiftRuleD.cells at hB0 hW0
    have hd : decide ((s.size : Int) = r.Slots) = decide (r.Slots - s.size = 0) := decide_eq_decide.2 (by omega)
    rw [hd]
    clear hd hR hr
    obtain ⟨rs, rl, rm, rr, rp⟩ := r
    obtain ⟨pw, pr, pf⟩ := p
    simp only at *
    generalize rs - (s.size : Int) = lf at *
    generalize hps : pauseOf ⟨pw, pr, pf⟩ = ps at *
    clear hps
    generalize hq : (fun (e : Ending) (w' : World) => e = .returned (.bool (decide (lf = 0) && decide (rl ≤ pw))) ∧ Below w.heap.size w w') = Q at *
    have hQ : Hid (∀ w', Below w.heap.size w w' → Q (.returned (.bool (decide (lf = 0) && decide (rl ≤ pw)))) w') := Lib.hid fun w' hb => by rw [← hq]; exact ⟨rfl, hb⟩
    clear hq
    by_cases h0 : lf = 0
    · have d0 : decide (lf = 0) = true := decide_eq_true h0
      rw [d0, Bool.true_and] at hQ
      by_cases h1 : rl ≤ pw
      · have d1 : decide (rl ≤ pw) = true := decide_eq_true h1
        rw [d1] at hQ
        subst h0
        clear d0
        go_enter Try.func66, Try.ntmps66
        go_wp2_with (go_at_call 82; (with_reducible refine (hC2.out _).mono ?_); rintro e w2 ⟨rfl, hb2⟩; have hB2 := Lib.hid (below_on hB0.out (by simp) hb2); have c1 := ((hW0.out.kept hb2).more (.cells #[.int .i64 0, .int .i64 pw, .int .i64 pr, .int .i64 ps] 100)).at_ (i := 1) rfl; clear hb2)
        first | refine hQ.out _ ?_ | (go_ret2; refine hQ.out _ ?_)
        exact (by repeat (first | exact hB2.out | refine Below.setCell ?_ (by have := hB2.out.size; simp; omega) _ | refine Below.alloc ?_ (by have := hB2.out.size; omega) _))
      · have d1 : decide (rl ≤ pw) = false := decide_eq_false h1
        rw [d1] at hQ
        subst h0
        clear d0
        go_enter Try.func66, Try.ntmps66
        go_wp2_with (go_at_call 82; (with_reducible refine (hC2.out _).mono ?_); rintro e w2 ⟨rfl, hb2⟩; have hB2 := Lib.hid (below_on hB0.out (by simp) hb2); have c1 := ((hW0.out.kept hb2).more (.cells #[.int .i64 0, .int .i64 pw, .int .i64 pr, .int .i64 ps] 100)).at_ (i := 1) rfl; clear hb2)
        first | refine hQ.out _ ?_ | (go_ret2; refine hQ.out _ ?_)
        exact (by repeat (first | exact hB2.out | refine Below.setCell ?_ (by have := hB2.out.size; simp; omega) _ | refine Below.alloc ?_ (by have := hB2.out.size; omega) _))
    · have d0 : decide (lf = 0) = false := decide_eq_false h0
      have b0 : (lf == 0) = false := by rw [beq_eq_false_iff_ne]; exact h0
      rw [d0, Bool.false_and] at hQ
      go_enter Try.func66, Try.ntmps66
      go_wp2_with (go_at_call 82; (with_reducible refine (hC2.out _).mono ?_); rintro e w2 ⟨rfl, hb2⟩; have hB2 := Lib.hid (below_on hB0.out (by simp) hb2); clear hb2)
      first | refine hQ.out _ ?_ | (go_ret2; refine hQ.out _ ?_)
      exact (by repeat (first | exact hB2.out | refine Below.setCell ?_ (by have := hB2.out.size; simp; omega) _ | refine Below.alloc ?_ (by have := hB2.out.size; omega) _))
def isShiftA (r : ShiftRuleD) (s : ByteArray) : Bool := okRule r && shiftB r s
def TwoB (a b : Bool) (w : World) (e : Ending) (w' : World) : Prop := e = .returned (.tuple #[.bool a, .bool b]) ∧ Below w.heap.size w w'
set_option maxHeartbeats 4000000 in
theorem implIsShift_any (r : ShiftRuleD) (s : ByteArray) (hs : s.size ≤ 9223372036854775807) (w : World) :
    Calls Try.prog 40 #[r.agg, .string s] w (TwoB (isShiftA r s) (okRule r) w) := by
  have hV := Lib.hid (fun w' => validRule_any r w')
  have hB0 := Lib.hid (below_alloc (Below.refl w.heap.size w) (.cells r.cells 47))
  have hW0 := Lib.hid (Whole.made w 47 r.cells (b := w.heap.size) rfl)
  have hQ : Hid (∀ w', Below w.heap.size w w' → TwoB (isShiftA r s) (okRule r) w (.returned (.tuple #[.bool (isShiftA r s), .bool (okRule r)])) w') := Lib.hid fun w' hb => ⟨rfl, hb⟩
  generalize TwoB (isShiftA r s) (okRule r) w = Q at *
  unfold isShiftA at hQ
  cases hr : okRule r
  · rw [hr] at hQ hV
    rw [Bool.false_and] at hQ
    clear hr
    unfold ShiftRuleD.cells at hB0 hW0
    go_enter Try.func40, Try.ntmps40
    go_wp2_with (go_at_call 36; (with_reducible refine (hV.out _).mono ?_); rintro e w2 ⟨rfl, hb2⟩; have hB2 := Lib.hid (below_on hB0.out (by simp) hb2); clear hb2)
    first | refine hQ.out _ ?_ | (go_ret2; refine hQ.out _ ?_)
    exact hB2.out
  · have hI := Lib.hid (fun w' => isShift_any r s hr hs w')
    rw [hr] at hQ hV
    rw [Bool.true_and] at hQ
    clear hr
    generalize shiftB r s = sb at *
    unfold ShiftRuleD.cells at hB0 hW0
    go_enter Try.func40, Try.ntmps40
    go_wp2_with (first | (go_at_call 36; (with_reducible refine (hV.out _).mono ?_); rintro e w2 ⟨rfl, hb2⟩; have hB2 := Lib.hid (below_on hB0.out (by simp) hb2); have c0 := (hW0.out.kept hb2).at_ (i := 0) rfl; have c1 := (hW0.out.kept hb2).at_ (i := 1) rfl; have c2 := (hW0.out.kept hb2).at_ (i := 2) rfl; have c3 := (hW0.out.kept hb2).at_ (i := 3) rfl; have c4 := (hW0.out.kept hb2).at_ (i := 4) rfl; clear hb2) | (go_at_call 66; (with_reducible refine (hI.out _).mono ?_); rintro e w3 ⟨rfl, hb3⟩; have hB3 := Lib.hid (below_on hB2.out (by simp) hb3); clear hb3))
    first | refine hQ.out _ ?_ | (go_ret2; refine hQ.out _ ?_)
    exact hB3.out
end Go.Proofs.Ytcpfiledegnlpaa
