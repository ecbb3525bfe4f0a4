/- Contracts: the program's step behind a letter, and the stage behind all letters. -/
import Derived.Test.YtcpfiledegnlpaaShiftPure
import Derived.Test.YtcpfiledegnlpaaShiftRule
import Derived.Lib.OthersKept
import Derived.IntWalk
namespace Go.Proofs.Ytcpfiledegnlpaa
open Go.RowKit Go.Lst

set_option maxHeartbeats 1000000 in
theorem stepBy_any (r : ShiftRuleD) (w : World) : Calls Try.prog 88 #[r.agg] w fun e w' => e = .returned (.func (.func 89) #[] #[.pointer (some ⟨w.heap.size, 0, none⟩)]) ∧ w' = w.alloc (.cells r.cells 47) := by
  unfold ShiftRuleD.cells
  go_enter Try.func88, Try.ntmps88
  go_wp2_with fail
  go_ret
  exact ⟨rfl, rfl⟩
def StepPost (st : StageD) (ok : Bool) (w : World) (e : Ending) (w' : World) : Prop := e = .returned (.tuple #[st.agg, .bool ok]) ∧ Below w.heap.size w w'
set_option maxHeartbeats 4000000 in
set_option maxRecDepth 100000 in
theorem step_free (r : ShiftRuleD) (g : Nat) (st : StageD) (w : World) (hr : Whole w g 47 r.cells) (h1 : -9223372036854775806 ≤ st.left ∧ st.left ≤ 9223372036854775806) (h2 : 0 ≤ st.worked ∧ st.worked ≤ 9223372036854775806) (h4 : -1 ≤ st.pause ∧ st.pause ≤ 9223372036854775806) :
    Calls Try.prog 89 #[st.agg, .int .i32 46, .pointer (some ⟨g, 0, none⟩)] w (StepPost (freeStage st) true w) := by
  obtain ⟨l1, l2⟩ := h1
  obtain ⟨w1, w2⟩ := h2
  obtain ⟨p1, p2⟩ := h4
  by_cases hw : 0 < st.worked
  · have hE : freeStage st = ⟨st.left - 1, st.worked, 0, st.pause + 1⟩ := by unfold freeStage; rw [if_pos hw]
    rw [hE]
    clear hE
    obtain ⟨lf, wk, rw0, ps⟩ := st
    simp only at l1 l2 w1 w2 p1 p2 hw ⊢
    go_enter Try.func89, Try.ntmps89
    go_wp2_with fail
    exact bodyPost_ret (v := .tuple #[.agg #[.int .i64 (lf - 1), .int .i64 wk, .int .i64 0, .int .i64 (ps + 1)], .bool true]) (by simp [results, Try.results89, go_sem]) rfl ⟨rfl, by repeat (first | exact Below.refl _ _ | refine below_alloc ?_ _ | refine below_drew ?_ _ | refine Below.setCell ?_ (by simp) _)⟩
  · have hE : freeStage st = ⟨st.left - 1, st.worked, 0, st.pause⟩ := by unfold freeStage; rw [if_neg hw]
    rw [hE]
    clear hE
    obtain ⟨lf, wk, rw0, ps⟩ := st
    simp only at l1 l2 w1 w2 p1 p2 hw ⊢
    have hw2 : ¬ 0 < wk := by omega
    go_enter Try.func89, Try.ntmps89
    go_wp2_with fail
    exact bodyPost_ret (v := .tuple #[.agg #[.int .i64 (lf - 1), .int .i64 wk, .int .i64 0, .int .i64 ps], .bool true]) (by simp [results, Try.results89, go_sem]) rfl ⟨rfl, by repeat (first | exact Below.refl _ _ | refine below_alloc ?_ _ | refine below_drew ?_ _ | refine Below.setCell ?_ (by simp) _)⟩
set_option maxHeartbeats 4000000 in
set_option maxRecDepth 100000 in
theorem step_other (r : ShiftRuleD) (g : Nat) (st : StageD) (c : Int) (w : World) (hc1 : ¬ c = 46) (hc2 : ¬ c = 119) (h1 : -9223372036854775806 ≤ st.left ∧ st.left ≤ 9223372036854775806) :
    Calls Try.prog 89 #[st.agg, .int .i32 c, .pointer (some ⟨g, 0, none⟩)] w (StepPost ⟨st.left - 1, st.worked, st.row, st.pause⟩ false w) := by
  obtain ⟨l1, l2⟩ := h1
  have b1 : (c == 46) = false := by rw [beq_eq_false_iff_ne]; exact hc1
  have b2 : (c == 119) = false := by rw [beq_eq_false_iff_ne]; exact hc2
  obtain ⟨lf, wk, rw0, ps⟩ := st
  simp only at l1 l2 ⊢
  go_enter Try.func89, Try.ntmps89
  go_wp2_with fail
  exact bodyPost_ret (v := .tuple #[.agg #[.int .i64 (lf - 1), .int .i64 wk, .int .i64 rw0, .int .i64 ps], .bool false]) (by simp [results, Try.results89, go_sem]) rfl ⟨rfl, by repeat (first | exact Below.refl _ _ | refine below_alloc ?_ _ | refine below_drew ?_ _ | refine Below.setCell ?_ (by simp) _)⟩
set_option maxHeartbeats 8000000 in
set_option maxRecDepth 100000 in
theorem step_work (r : ShiftRuleD) (g : Nat) (st : StageD) (w : World) (hr : Whole w g 47 r.cells) (h1 : -9223372036854775806 ≤ st.left ∧ st.left ≤ 9223372036854775806) (h2 : 0 ≤ st.worked ∧ st.worked ≤ 9223372036854775806) (h3 : 0 ≤ st.row ∧ st.row ≤ 9223372036854775806) :
    Calls Try.prog 89 #[st.agg, .int .i32 119, .pointer (some ⟨g, 0, none⟩)] w (StepPost (workStage st) (mayStage r st) w) := by
  obtain ⟨l1, l2⟩ := h1
  obtain ⟨w1, w2⟩ := h2
  obtain ⟨r1, r2⟩ := h3
  have c2 : w.cell? ⟨g, 2, none⟩ = some (.int .i64 r.Most) := hr.at_ (i := 2) rfl
  have c3 : w.cell? ⟨g, 3, none⟩ = some (.int .i64 r.Row) := hr.at_ (i := 3) rfl
  have c4 : w.cell? ⟨g, 4, none⟩ = some (.int .i64 r.Pause) := hr.at_ (i := 4) rfl
  have hgl := hr.size
  clear hr
  unfold workStage mayStage
  obtain ⟨lf, wk, rw0, ps⟩ := st
  simp only at l1 l2 w1 w2 r1 r2 ⊢
  have hw1 : IntKind.i64.wrap (lf - 1) = lf - 1 := IntWalk.i64_in _ (by omega)
  have hw2 : IntKind.i64.wrap (wk + 1) = wk + 1 := IntWalk.i64_in _ (by omega)
  have hw3 : IntKind.i64.wrap (rw0 + 1) = rw0 + 1 := IntWalk.i64_in _ (by omega)
  generalize r.Most = mo at *
  generalize r.Row = ro at *
  generalize r.Pause = pa at *
  by_cases hp0 : ps = 0
  · have b0 : (ps == 0) = true := by rw [beq_iff_eq]; exact hp0
    subst hp0
    by_cases ha : wk + 1 ≤ mo
    · have da : decide (wk + 1 ≤ mo) = true := decide_eq_true ha
      by_cases hb : rw0 + 1 ≤ ro
      · have db : decide (rw0 + 1 ≤ ro) = true := decide_eq_true hb
        have hBW := below_alloc (below_alloc (below_alloc (Below.refl w.heap.size w) (.cells #[.int .i64 (lf - 1), .int .i64 (wk + 1), .int .i64 (rw0 + 1), .int .i64 0] 100)) (.cells #[.int .i64 0, .int .i64 0, .int .i64 0, .int .i64 0] 100)) (.cells #[.int .i64 lf, .int .i64 wk, .int .i64 rw0, .int .i64 0] 100)
        have c2b := (hBW.cell (p := ⟨g, 2, none⟩) hgl).trans c2
        have c3b := (hBW.cell (p := ⟨g, 3, none⟩) hgl).trans c3
        have c4b := (hBW.cell (p := ⟨g, 4, none⟩) hgl).trans c4
        have hBV := below_alloc (below_alloc (below_alloc (Below.refl w.heap.size w) (.cells #[.int .i64 (lf - 1), .int .i64 (wk + 1), .int .i64 (rw0 + 1), .int .i64 0] 100)) (.cells #[.int .i64 (lf - 1), .int .i64 (wk + 1), .int .i64 (rw0 + 1), .int .i64 0] 100)) (.cells #[.int .i64 lf, .int .i64 wk, .int .i64 rw0, .int .i64 0] 100)
        have c2v := (hBV.cell (p := ⟨g, 2, none⟩) hgl).trans c2
        have c3v := (hBV.cell (p := ⟨g, 3, none⟩) hgl).trans c3
        have c4v := (hBV.cell (p := ⟨g, 4, none⟩) hgl).trans c4
        clear hBV
        clear hBW
        go_enter Try.func89, Try.ntmps89
        go_wp2_with fail
        go_region
        go_wp2_with fail
        exact bodyPost_ret (v := .tuple #[.agg #[.int .i64 (lf - 1), .int .i64 (wk + 1), .int .i64 (rw0 + 1), .int .i64 0], .bool true]) (by simp [results, Try.results89, go_sem]) rfl ⟨by simp [da, db], by repeat (first | exact Below.refl _ _ | refine below_alloc ?_ _ | refine below_drew ?_ _ | refine Below.drew ?_ | refine Below.setCell ?_ (by simp) _)⟩
      · have db : decide (rw0 + 1 ≤ ro) = false := decide_eq_false hb
        have hBW := below_alloc (below_alloc (below_alloc (Below.refl w.heap.size w) (.cells #[.int .i64 (lf - 1), .int .i64 (wk + 1), .int .i64 (rw0 + 1), .int .i64 0] 100)) (.cells #[.int .i64 0, .int .i64 0, .int .i64 0, .int .i64 0] 100)) (.cells #[.int .i64 lf, .int .i64 wk, .int .i64 rw0, .int .i64 0] 100)
        have c2b := (hBW.cell (p := ⟨g, 2, none⟩) hgl).trans c2
        have c3b := (hBW.cell (p := ⟨g, 3, none⟩) hgl).trans c3
        have c4b := (hBW.cell (p := ⟨g, 4, none⟩) hgl).trans c4
        have hBV := below_alloc (below_alloc (below_alloc (Below.refl w.heap.size w) (.cells #[.int .i64 (lf - 1), .int .i64 (wk + 1), .int .i64 (rw0 + 1), .int .i64 0] 100)) (.cells #[.int .i64 (lf - 1), .int .i64 (wk + 1), .int .i64 (rw0 + 1), .int .i64 0] 100)) (.cells #[.int .i64 lf, .int .i64 wk, .int .i64 rw0, .int .i64 0] 100)
        have c2v := (hBV.cell (p := ⟨g, 2, none⟩) hgl).trans c2
        have c3v := (hBV.cell (p := ⟨g, 3, none⟩) hgl).trans c3
        have c4v := (hBV.cell (p := ⟨g, 4, none⟩) hgl).trans c4
        clear hBV
        clear hBW
        go_enter Try.func89, Try.ntmps89
        go_wp2_with fail
        go_region
        go_wp2_with fail
        exact bodyPost_ret (v := .tuple #[.agg #[.int .i64 (lf - 1), .int .i64 (wk + 1), .int .i64 (rw0 + 1), .int .i64 0], .bool false]) (by simp [results, Try.results89, go_sem]) rfl ⟨by simp [db], by repeat (first | exact Below.refl _ _ | refine below_alloc ?_ _ | refine below_drew ?_ _ | refine Below.drew ?_ | refine Below.setCell ?_ (by simp) _)⟩
    · have da : decide (wk + 1 ≤ mo) = false := decide_eq_false ha
      have hBW := below_alloc (below_alloc (below_alloc (Below.refl w.heap.size w) (.cells #[.int .i64 (lf - 1), .int .i64 (wk + 1), .int .i64 (rw0 + 1), .int .i64 0] 100)) (.cells #[.int .i64 0, .int .i64 0, .int .i64 0, .int .i64 0] 100)) (.cells #[.int .i64 lf, .int .i64 wk, .int .i64 rw0, .int .i64 0] 100)
      have c2b := (hBW.cell (p := ⟨g, 2, none⟩) hgl).trans c2
      have c3b := (hBW.cell (p := ⟨g, 3, none⟩) hgl).trans c3
      have c4b := (hBW.cell (p := ⟨g, 4, none⟩) hgl).trans c4
      have hBV := below_alloc (below_alloc (below_alloc (Below.refl w.heap.size w) (.cells #[.int .i64 (lf - 1), .int .i64 (wk + 1), .int .i64 (rw0 + 1), .int .i64 0] 100)) (.cells #[.int .i64 (lf - 1), .int .i64 (wk + 1), .int .i64 (rw0 + 1), .int .i64 0] 100)) (.cells #[.int .i64 lf, .int .i64 wk, .int .i64 rw0, .int .i64 0] 100)
      have c2v := (hBV.cell (p := ⟨g, 2, none⟩) hgl).trans c2
      have c3v := (hBV.cell (p := ⟨g, 3, none⟩) hgl).trans c3
      have c4v := (hBV.cell (p := ⟨g, 4, none⟩) hgl).trans c4
      clear hBV
      clear hBW
      go_enter Try.func89, Try.ntmps89
      go_wp2_with fail
      go_region
      go_wp2_with fail
      exact bodyPost_ret (v := .tuple #[.agg #[.int .i64 (lf - 1), .int .i64 (wk + 1), .int .i64 (rw0 + 1), .int .i64 0], .bool false]) (by simp [results, Try.results89, go_sem]) rfl ⟨by simp [da], by repeat (first | exact Below.refl _ _ | refine below_alloc ?_ _ | refine below_drew ?_ _ | refine Below.drew ?_ | refine Below.setCell ?_ (by simp) _)⟩
  · have b0 : (ps == 0) = false := by rw [beq_eq_false_iff_ne]; exact hp0
    have d0 : decide (ps = 0) = false := decide_eq_false hp0
    by_cases hp : pa ≤ ps
    · have dp : decide (pa ≤ ps) = true := decide_eq_true hp
      by_cases ha : wk + 1 ≤ mo
      · have da : decide (wk + 1 ≤ mo) = true := decide_eq_true ha
        by_cases hb : rw0 + 1 ≤ ro
        · have db : decide (rw0 + 1 ≤ ro) = true := decide_eq_true hb
          have hBW := below_alloc (below_alloc (below_alloc (Below.refl w.heap.size w) (.cells #[.int .i64 (lf - 1), .int .i64 (wk + 1), .int .i64 (rw0 + 1), .int .i64 0] 100)) (.cells #[.int .i64 0, .int .i64 0, .int .i64 0, .int .i64 0] 100)) (.cells #[.int .i64 lf, .int .i64 wk, .int .i64 rw0, .int .i64 ps] 100)
          have c2b := (hBW.cell (p := ⟨g, 2, none⟩) hgl).trans c2
          have c3b := (hBW.cell (p := ⟨g, 3, none⟩) hgl).trans c3
          have c4b := (hBW.cell (p := ⟨g, 4, none⟩) hgl).trans c4
          have hBV := below_alloc (below_alloc (below_alloc (Below.refl w.heap.size w) (.cells #[.int .i64 (lf - 1), .int .i64 (wk + 1), .int .i64 (rw0 + 1), .int .i64 0] 100)) (.cells #[.int .i64 (lf - 1), .int .i64 (wk + 1), .int .i64 (rw0 + 1), .int .i64 0] 100)) (.cells #[.int .i64 lf, .int .i64 wk, .int .i64 rw0, .int .i64 ps] 100)
          have c2v := (hBV.cell (p := ⟨g, 2, none⟩) hgl).trans c2
          have c3v := (hBV.cell (p := ⟨g, 3, none⟩) hgl).trans c3
          have c4v := (hBV.cell (p := ⟨g, 4, none⟩) hgl).trans c4
          clear hBV
          clear hBW
          go_enter Try.func89, Try.ntmps89
          go_wp2_with fail
          go_region
          go_wp2_with fail
          exact bodyPost_ret (v := .tuple #[.agg #[.int .i64 (lf - 1), .int .i64 (wk + 1), .int .i64 (rw0 + 1), .int .i64 0], .bool true]) (by simp [results, Try.results89, go_sem]) rfl ⟨by simp [dp, da, db], by repeat (first | exact Below.refl _ _ | refine below_alloc ?_ _ | refine below_drew ?_ _ | refine Below.drew ?_ | refine Below.setCell ?_ (by simp) _)⟩
        · have db : decide (rw0 + 1 ≤ ro) = false := decide_eq_false hb
          have hBW := below_alloc (below_alloc (below_alloc (Below.refl w.heap.size w) (.cells #[.int .i64 (lf - 1), .int .i64 (wk + 1), .int .i64 (rw0 + 1), .int .i64 0] 100)) (.cells #[.int .i64 0, .int .i64 0, .int .i64 0, .int .i64 0] 100)) (.cells #[.int .i64 lf, .int .i64 wk, .int .i64 rw0, .int .i64 ps] 100)
          have c2b := (hBW.cell (p := ⟨g, 2, none⟩) hgl).trans c2
          have c3b := (hBW.cell (p := ⟨g, 3, none⟩) hgl).trans c3
          have c4b := (hBW.cell (p := ⟨g, 4, none⟩) hgl).trans c4
          have hBV := below_alloc (below_alloc (below_alloc (Below.refl w.heap.size w) (.cells #[.int .i64 (lf - 1), .int .i64 (wk + 1), .int .i64 (rw0 + 1), .int .i64 0] 100)) (.cells #[.int .i64 (lf - 1), .int .i64 (wk + 1), .int .i64 (rw0 + 1), .int .i64 0] 100)) (.cells #[.int .i64 lf, .int .i64 wk, .int .i64 rw0, .int .i64 ps] 100)
          have c2v := (hBV.cell (p := ⟨g, 2, none⟩) hgl).trans c2
          have c3v := (hBV.cell (p := ⟨g, 3, none⟩) hgl).trans c3
          have c4v := (hBV.cell (p := ⟨g, 4, none⟩) hgl).trans c4
          clear hBV
          clear hBW
          go_enter Try.func89, Try.ntmps89
          go_wp2_with fail
          go_region
          go_wp2_with fail
          exact bodyPost_ret (v := .tuple #[.agg #[.int .i64 (lf - 1), .int .i64 (wk + 1), .int .i64 (rw0 + 1), .int .i64 0], .bool false]) (by simp [results, Try.results89, go_sem]) rfl ⟨by simp [db], by repeat (first | exact Below.refl _ _ | refine below_alloc ?_ _ | refine below_drew ?_ _ | refine Below.drew ?_ | refine Below.setCell ?_ (by simp) _)⟩
      · have da : decide (wk + 1 ≤ mo) = false := decide_eq_false ha
        have hBW := below_alloc (below_alloc (below_alloc (Below.refl w.heap.size w) (.cells #[.int .i64 (lf - 1), .int .i64 (wk + 1), .int .i64 (rw0 + 1), .int .i64 0] 100)) (.cells #[.int .i64 0, .int .i64 0, .int .i64 0, .int .i64 0] 100)) (.cells #[.int .i64 lf, .int .i64 wk, .int .i64 rw0, .int .i64 ps] 100)
        have c2b := (hBW.cell (p := ⟨g, 2, none⟩) hgl).trans c2
        have c3b := (hBW.cell (p := ⟨g, 3, none⟩) hgl).trans c3
        have c4b := (hBW.cell (p := ⟨g, 4, none⟩) hgl).trans c4
        have hBV := below_alloc (below_alloc (below_alloc (Below.refl w.heap.size w) (.cells #[.int .i64 (lf - 1), .int .i64 (wk + 1), .int .i64 (rw0 + 1), .int .i64 0] 100)) (.cells #[.int .i64 (lf - 1), .int .i64 (wk + 1), .int .i64 (rw0 + 1), .int .i64 0] 100)) (.cells #[.int .i64 lf, .int .i64 wk, .int .i64 rw0, .int .i64 ps] 100)
        have c2v := (hBV.cell (p := ⟨g, 2, none⟩) hgl).trans c2
        have c3v := (hBV.cell (p := ⟨g, 3, none⟩) hgl).trans c3
        have c4v := (hBV.cell (p := ⟨g, 4, none⟩) hgl).trans c4
        clear hBV
        clear hBW
        go_enter Try.func89, Try.ntmps89
        go_wp2_with fail
        go_region
        go_wp2_with fail
        exact bodyPost_ret (v := .tuple #[.agg #[.int .i64 (lf - 1), .int .i64 (wk + 1), .int .i64 (rw0 + 1), .int .i64 0], .bool false]) (by simp [results, Try.results89, go_sem]) rfl ⟨by simp [da], by repeat (first | exact Below.refl _ _ | refine below_alloc ?_ _ | refine below_drew ?_ _ | refine Below.drew ?_ | refine Below.setCell ?_ (by simp) _)⟩
    · have dp : decide (pa ≤ ps) = false := decide_eq_false hp
      have hBW := below_alloc (below_alloc (below_alloc (Below.refl w.heap.size w) (.cells #[.int .i64 (lf - 1), .int .i64 (wk + 1), .int .i64 (rw0 + 1), .int .i64 0] 100)) (.cells #[.int .i64 0, .int .i64 0, .int .i64 0, .int .i64 0] 100)) (.cells #[.int .i64 lf, .int .i64 wk, .int .i64 rw0, .int .i64 ps] 100)
      have c2b := (hBW.cell (p := ⟨g, 2, none⟩) hgl).trans c2
      have c3b := (hBW.cell (p := ⟨g, 3, none⟩) hgl).trans c3
      have c4b := (hBW.cell (p := ⟨g, 4, none⟩) hgl).trans c4
      have hBV := below_alloc (below_alloc (below_alloc (Below.refl w.heap.size w) (.cells #[.int .i64 (lf - 1), .int .i64 (wk + 1), .int .i64 (rw0 + 1), .int .i64 0] 100)) (.cells #[.int .i64 (lf - 1), .int .i64 (wk + 1), .int .i64 (rw0 + 1), .int .i64 0] 100)) (.cells #[.int .i64 lf, .int .i64 wk, .int .i64 rw0, .int .i64 ps] 100)
      have c2v := (hBV.cell (p := ⟨g, 2, none⟩) hgl).trans c2
      have c3v := (hBV.cell (p := ⟨g, 3, none⟩) hgl).trans c3
      have c4v := (hBV.cell (p := ⟨g, 4, none⟩) hgl).trans c4
      clear hBV
      clear hBW
      go_enter Try.func89, Try.ntmps89
      go_wp2_with fail
      go_region
      go_wp2_with fail
      exact bodyPost_ret (v := .tuple #[.agg #[.int .i64 (lf - 1), .int .i64 (wk + 1), .int .i64 (rw0 + 1), .int .i64 0], .bool false]) (by simp [results, Try.results89, go_sem]) rfl ⟨by simp [d0, dp], by repeat (first | exact Below.refl _ _ | refine below_alloc ?_ _ | refine below_drew ?_ _ | refine Below.drew ?_ | refine Below.setCell ?_ (by simp) _)⟩
end Go.Proofs.Ytcpfiledegnlpaa
