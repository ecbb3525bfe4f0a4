/- Contracts: a text is a shift of a rule, the model's. -/
import Derived.Test.YtcpfiledegnlpaaShiftIs
namespace Go.Proofs.Ytcpfiledegnlpaa
open Go.RowKit Go.Lst

set_option maxHeartbeats 1000000 in
theorem l06Start_any (w : World) : Calls Try.prog 80 #[] w fun e w' => e = .returned startP.agg ∧ Below w.heap.size w w' := by
  unfold startP
  go_enter Try.func80, Try.ntmps80
  go_wp2_with fail
  exact bodyPost_ret (v := .agg #[.int .i64 0, .int .i64 0, .int .i64 (-1)]) (by simp [results, Try.results80, go_sem]) rfl ⟨rfl, by repeat (first | exact Below.refl _ _ | refine below_alloc ?_ _ | refine below_drew ?_ _ | refine Below.setCell ?_ (Nat.le_refl _) _)⟩
def GoesPost (q : PlaceD) (ok : Bool) (w : World) (e : Ending) (w' : World) : Prop := e = .returned (.tuple #[q.agg, .bool ok]) ∧ Below w.heap.size w w'
set_option maxHeartbeats 4000000 in
set_option maxRecDepth 100000 in
theorem goes_free (b o : Nat) (p : PlaceD) (w : World) (h3 : -1 ≤ p.free ∧ p.free ≤ 1099511627776) :
    Calls Try.prog 81 #[.pointer (some ⟨b, o, none⟩), p.agg, .bool false] w (GoesPost (freePlace p) true w) := by
  obtain ⟨f1, f2⟩ := h3
  obtain ⟨wk, rw0, fr⟩ := p
  simp only at f1 f2 ⊢
  by_cases hf : 0 ≤ fr
  · have hE : freePlace ⟨wk, rw0, fr⟩ = ⟨wk, 0, fr + 1⟩ := by unfold freePlace; simp only; rw [if_pos hf]
    rw [hE]
    clear hE
    have hw1 : IntKind.i64.wrap (fr + 1) = fr + 1 := IntWalk.i64_in _ (by omega)
    go_enter Try.func81, Try.ntmps81
    go_wp2_with fail
    exact bodyPost_ret (v := .tuple #[.agg #[.int .i64 wk, .int .i64 0, .int .i64 (fr + 1)], .bool true]) (by simp [results, Try.results81, go_sem]) rfl ⟨rfl, by repeat (first | exact Below.refl _ _ | refine below_alloc ?_ _ | refine below_drew ?_ _ | refine Below.drew ?_ | refine Below.setCell ?_ (by simp) _)⟩
  · have hE : freePlace ⟨wk, rw0, fr⟩ = ⟨wk, 0, fr⟩ := by unfold freePlace; simp only; rw [if_neg hf]
    rw [hE]
    clear hE
    go_enter Try.func81, Try.ntmps81
    go_wp2_with fail
    exact bodyPost_ret (v := .tuple #[.agg #[.int .i64 wk, .int .i64 0, .int .i64 fr], .bool true]) (by simp [results, Try.results81, go_sem]) rfl ⟨rfl, by repeat (first | exact Below.refl _ _ | refine below_alloc ?_ _ | refine below_drew ?_ _ | refine Below.drew ?_ | refine Below.setCell ?_ (by simp) _)⟩
def goesP (r : ShiftRuleD) (p : PlaceD) : PlaceD := if restedP r.Pause p then workPlace p else p
set_option maxHeartbeats 8000000 in
set_option maxRecDepth 100000 in
theorem goes_work (b o : Nat) (r : ShiftRuleD) (p : PlaceD) (w : World) (c2 : w.cell? ⟨b, o + 2, none⟩ = some (.int .i64 r.Most)) (c3 : w.cell? ⟨b, o + 3, none⟩ = some (.int .i64 r.Row)) (c4 : w.cell? ⟨b, o + 4, none⟩ = some (.int .i64 r.Pause)) (hbl : b < w.heap.size) (h1 : 0 ≤ p.worked ∧ p.worked ≤ 1099511627776) (h2 : 0 ≤ p.row ∧ p.row ≤ 1099511627776) :
    Calls Try.prog 81 #[.pointer (some ⟨b, o, none⟩), p.agg, .bool true] w (GoesPost (goesP r p) (mayWork r p) w) := by
  unfold goesP mayWork fewW restedP workPlace
  obtain ⟨w1, w2⟩ := h1
  obtain ⟨r1, r2⟩ := h2
  obtain ⟨wk, rw0, fr⟩ := p
  simp only at w1 w2 r1 r2 ⊢
  generalize r.Most = mo at *
  generalize r.Row = ro at *
  generalize r.Pause = pa at *
  have hw1 : IntKind.i64.wrap (wk + 1) = wk + 1 := IntWalk.i64_in _ (by omega)
  have hw2 : IntKind.i64.wrap (rw0 + 1) = rw0 + 1 := IntWalk.i64_in _ (by omega)
  have hBA := below_alloc (below_alloc (Below.refl w.heap.size w) (.cells #[.int .i64 wk, .int .i64 rw0, .int .i64 fr] 95)) (.cells #[.int .i64 0, .int .i64 0, .int .i64 0] 95)
  have c4a := (hBA.cell (p := ⟨b, o + 4, none⟩) hbl).trans c4
  clear hBA c4
  by_cases hf : 0 < fr
  · have df : decide (0 < fr) = true := decide_eq_true hf
    by_cases hp : fr < pa
    · have dp : decide (fr < pa) = true := decide_eq_true hp
      rw [df, dp]
      simp only [Bool.and_self, Bool.not_true, Bool.false_eq_true, if_false, Bool.false_and]
      clear c2 c3 hw1 hw2
      go_enter Try.func81, Try.ntmps81
      go_wp2_with fail
      go_region
      go_wp2_with fail
      exact bodyPost_ret (v := .tuple #[.agg #[.int .i64 wk, .int .i64 rw0, .int .i64 fr], .bool false]) (by simp [results, Try.results81, go_sem]) rfl ⟨rfl, by repeat (first | exact Below.refl _ _ | refine below_alloc ?_ _ | refine below_drew ?_ _ | refine Below.drew ?_ | refine Below.setCell ?_ (by simp) _)⟩
    · have dp : decide (fr < pa) = false := decide_eq_false hp
      rw [df, dp]
      simp only [Bool.and_false, Bool.not_false, if_true, Bool.true_and]
      by_cases ha : wk + 1 ≤ mo
      · have da : decide (wk + 1 ≤ mo) = true := decide_eq_true ha
        by_cases hb : rw0 + 1 ≤ ro
        · have db : decide (rw0 + 1 ≤ ro) = true := decide_eq_true hb
          rw [da, db, Bool.and_self]
          have hBV := below_alloc (below_alloc (Below.refl w.heap.size w) (.cells #[.int .i64 (wk + 1), .int .i64 (rw0 + 1), .int .i64 0] 95)) (.cells #[.int .i64 (wk + 1), .int .i64 (rw0 + 1), .int .i64 0] 95)
          have c2v := (hBV.cell (p := ⟨b, o + 2, none⟩) hbl).trans c2
          have c3v := (hBV.cell (p := ⟨b, o + 3, none⟩) hbl).trans c3
          have hBW := below_alloc (below_alloc (Below.refl w.heap.size w) (.cells #[.int .i64 (wk + 1), .int .i64 (rw0 + 1), .int .i64 0] 95)) (.cells #[.int .i64 0, .int .i64 0, .int .i64 0] 95)
          have c2w := (hBW.cell (p := ⟨b, o + 2, none⟩) hbl).trans c2
          have c3w := (hBW.cell (p := ⟨b, o + 3, none⟩) hbl).trans c3
          clear hBV hBW c2 c3
          go_enter Try.func81, Try.ntmps81
          go_wp2_with fail
          go_region
          go_wp2_with fail
          go_region
          go_wp2_with fail
          exact bodyPost_ret (v := .tuple #[.agg #[.int .i64 (wk + 1), .int .i64 (rw0 + 1), .int .i64 0], .bool true]) (by simp [results, Try.results81, go_sem]) rfl ⟨rfl, by repeat (first | exact Below.refl _ _ | refine below_alloc ?_ _ | refine below_drew ?_ _ | refine Below.drew ?_ | refine Below.setCell ?_ (by simp) _)⟩
        · have db : decide (rw0 + 1 ≤ ro) = false := decide_eq_false hb
          rw [db, Bool.and_false]
          have hBV := below_alloc (below_alloc (Below.refl w.heap.size w) (.cells #[.int .i64 (wk + 1), .int .i64 (rw0 + 1), .int .i64 0] 95)) (.cells #[.int .i64 (wk + 1), .int .i64 (rw0 + 1), .int .i64 0] 95)
          have c2v := (hBV.cell (p := ⟨b, o + 2, none⟩) hbl).trans c2
          have c3v := (hBV.cell (p := ⟨b, o + 3, none⟩) hbl).trans c3
          have hBW := below_alloc (below_alloc (Below.refl w.heap.size w) (.cells #[.int .i64 (wk + 1), .int .i64 (rw0 + 1), .int .i64 0] 95)) (.cells #[.int .i64 0, .int .i64 0, .int .i64 0] 95)
          have c2w := (hBW.cell (p := ⟨b, o + 2, none⟩) hbl).trans c2
          have c3w := (hBW.cell (p := ⟨b, o + 3, none⟩) hbl).trans c3
          clear hBV hBW c2 c3
          go_enter Try.func81, Try.ntmps81
          go_wp2_with fail
          go_region
          go_wp2_with fail
          go_region
          go_wp2_with fail
          exact bodyPost_ret (v := .tuple #[.agg #[.int .i64 (wk + 1), .int .i64 (rw0 + 1), .int .i64 0], .bool false]) (by simp [results, Try.results81, go_sem]) rfl ⟨rfl, by repeat (first | exact Below.refl _ _ | refine below_alloc ?_ _ | refine below_drew ?_ _ | refine Below.drew ?_ | refine Below.setCell ?_ (by simp) _)⟩
      · have da : decide (wk + 1 ≤ mo) = false := decide_eq_false ha
        rw [da, Bool.false_and]
        have hBV := below_alloc (below_alloc (Below.refl w.heap.size w) (.cells #[.int .i64 (wk + 1), .int .i64 (rw0 + 1), .int .i64 0] 95)) (.cells #[.int .i64 (wk + 1), .int .i64 (rw0 + 1), .int .i64 0] 95)
        have c2v := (hBV.cell (p := ⟨b, o + 2, none⟩) hbl).trans c2
        have c3v := (hBV.cell (p := ⟨b, o + 3, none⟩) hbl).trans c3
        have hBW := below_alloc (below_alloc (Below.refl w.heap.size w) (.cells #[.int .i64 (wk + 1), .int .i64 (rw0 + 1), .int .i64 0] 95)) (.cells #[.int .i64 0, .int .i64 0, .int .i64 0] 95)
        have c2w := (hBW.cell (p := ⟨b, o + 2, none⟩) hbl).trans c2
        have c3w := (hBW.cell (p := ⟨b, o + 3, none⟩) hbl).trans c3
        clear hBV hBW c2 c3
        go_enter Try.func81, Try.ntmps81
        go_wp2_with fail
        go_region
        go_wp2_with fail
        go_region
        go_wp2_with fail
        exact bodyPost_ret (v := .tuple #[.agg #[.int .i64 (wk + 1), .int .i64 (rw0 + 1), .int .i64 0], .bool false]) (by simp [results, Try.results81, go_sem]) rfl ⟨rfl, by repeat (first | exact Below.refl _ _ | refine below_alloc ?_ _ | refine below_drew ?_ _ | refine Below.drew ?_ | refine Below.setCell ?_ (by simp) _)⟩
  · have df : decide (0 < fr) = false := decide_eq_false hf
    rw [df]
    simp only [Bool.false_and, Bool.not_false, if_true, Bool.true_and]
    by_cases ha : wk + 1 ≤ mo
    · have da : decide (wk + 1 ≤ mo) = true := decide_eq_true ha
      by_cases hb : rw0 + 1 ≤ ro
      · have db : decide (rw0 + 1 ≤ ro) = true := decide_eq_true hb
        rw [da, db, Bool.and_self]
        have hBV := below_alloc (below_alloc (Below.refl w.heap.size w) (.cells #[.int .i64 (wk + 1), .int .i64 (rw0 + 1), .int .i64 0] 95)) (.cells #[.int .i64 (wk + 1), .int .i64 (rw0 + 1), .int .i64 0] 95)
        have c2v := (hBV.cell (p := ⟨b, o + 2, none⟩) hbl).trans c2
        have c3v := (hBV.cell (p := ⟨b, o + 3, none⟩) hbl).trans c3
        have hBW := below_alloc (below_alloc (Below.refl w.heap.size w) (.cells #[.int .i64 (wk + 1), .int .i64 (rw0 + 1), .int .i64 0] 95)) (.cells #[.int .i64 0, .int .i64 0, .int .i64 0] 95)
        have c2w := (hBW.cell (p := ⟨b, o + 2, none⟩) hbl).trans c2
        have c3w := (hBW.cell (p := ⟨b, o + 3, none⟩) hbl).trans c3
        clear hBV hBW c2 c3
        go_enter Try.func81, Try.ntmps81
        go_wp2_with fail
        go_region
        go_wp2_with fail
        go_region
        go_wp2_with fail
        exact bodyPost_ret (v := .tuple #[.agg #[.int .i64 (wk + 1), .int .i64 (rw0 + 1), .int .i64 0], .bool true]) (by simp [results, Try.results81, go_sem]) rfl ⟨rfl, by repeat (first | exact Below.refl _ _ | refine below_alloc ?_ _ | refine below_drew ?_ _ | refine Below.drew ?_ | refine Below.setCell ?_ (by simp) _)⟩
      · have db : decide (rw0 + 1 ≤ ro) = false := decide_eq_false hb
        rw [db, Bool.and_false]
        have hBV := below_alloc (below_alloc (Below.refl w.heap.size w) (.cells #[.int .i64 (wk + 1), .int .i64 (rw0 + 1), .int .i64 0] 95)) (.cells #[.int .i64 (wk + 1), .int .i64 (rw0 + 1), .int .i64 0] 95)
        have c2v := (hBV.cell (p := ⟨b, o + 2, none⟩) hbl).trans c2
        have c3v := (hBV.cell (p := ⟨b, o + 3, none⟩) hbl).trans c3
        have hBW := below_alloc (below_alloc (Below.refl w.heap.size w) (.cells #[.int .i64 (wk + 1), .int .i64 (rw0 + 1), .int .i64 0] 95)) (.cells #[.int .i64 0, .int .i64 0, .int .i64 0] 95)
        have c2w := (hBW.cell (p := ⟨b, o + 2, none⟩) hbl).trans c2
        have c3w := (hBW.cell (p := ⟨b, o + 3, none⟩) hbl).trans c3
        clear hBV hBW c2 c3
        go_enter Try.func81, Try.ntmps81
        go_wp2_with fail
        go_region
        go_wp2_with fail
        go_region
        go_wp2_with fail
        exact bodyPost_ret (v := .tuple #[.agg #[.int .i64 (wk + 1), .int .i64 (rw0 + 1), .int .i64 0], .bool false]) (by simp [results, Try.results81, go_sem]) rfl ⟨rfl, by repeat (first | exact Below.refl _ _ | refine below_alloc ?_ _ | refine below_drew ?_ _ | refine Below.drew ?_ | refine Below.setCell ?_ (by simp) _)⟩
    · have da : decide (wk + 1 ≤ mo) = false := decide_eq_false ha
      rw [da, Bool.false_and]
      have hBV := below_alloc (below_alloc (Below.refl w.heap.size w) (.cells #[.int .i64 (wk + 1), .int .i64 (rw0 + 1), .int .i64 0] 95)) (.cells #[.int .i64 (wk + 1), .int .i64 (rw0 + 1), .int .i64 0] 95)
      have c2v := (hBV.cell (p := ⟨b, o + 2, none⟩) hbl).trans c2
      have c3v := (hBV.cell (p := ⟨b, o + 3, none⟩) hbl).trans c3
      have hBW := below_alloc (below_alloc (Below.refl w.heap.size w) (.cells #[.int .i64 (wk + 1), .int .i64 (rw0 + 1), .int .i64 0] 95)) (.cells #[.int .i64 0, .int .i64 0, .int .i64 0] 95)
      have c2w := (hBW.cell (p := ⟨b, o + 2, none⟩) hbl).trans c2
      have c3w := (hBW.cell (p := ⟨b, o + 3, none⟩) hbl).trans c3
      clear hBV hBW c2 c3
      go_enter Try.func81, Try.ntmps81
      go_wp2_with fail
      go_region
      go_wp2_with fail
      go_region
      go_wp2_with fail
      exact bodyPost_ret (v := .tuple #[.agg #[.int .i64 (wk + 1), .int .i64 (rw0 + 1), .int .i64 0], .bool false]) (by simp [results, Try.results81, go_sem]) rfl ⟨rfl, by repeat (first | exact Below.refl _ _ | refine below_alloc ?_ _ | refine below_drew ?_ _ | refine Below.drew ?_ | refine Below.setCell ?_ (by simp) _)⟩
end Go.Proofs.Ytcpfiledegnlpaa
