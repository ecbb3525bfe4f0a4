/- Contracts: which lists are tasks. -/
import Derived.Test.YtdggbjpfllnenaaTaskFns
import Derived.Test.YtdggbjpfllnenaaAreJobs
import Derived.IntWalk
namespace Go.Proofs.Ytdggbjpfllnenaa
open Go.RowKit Go.Lst

def bAt (x : TaskD) (k : Nat) : Int := x.Before.getD k 0
def lAt (x : TaskD) (k : Nat) : Int := x.Lags.getD k 0
/-- A task that is right at place i. -/
structure OkTask (x : TaskD) (i : Int) : Prop where
  time : 0 ≤ x.Time ∧ x.Time ≤ 100
  needs : 0 ≤ x.Needs ∧ x.Needs ≤ 20
  len : x.Before.length = x.Lags.length
  before : ∀ k, k < x.Before.length → 0 ≤ bAt x k ∧ bAt x k ≤ i - 1 ∧ (0 < k → bAt x (k - 1) < bAt x k)
  lags : ∀ k, k < x.Before.length → -100 ≤ lAt x k ∧ lAt x k ≤ 100
def okTask (x : TaskD) (i : Int) : Bool := decide (0 ≤ x.Time ∧ x.Time ≤ 100) && decide (0 ≤ x.Needs ∧ x.Needs ≤ 20) && decide (x.Before.length = x.Lags.length) &&
  ((List.range x.Before.length).all fun k => decide (0 ≤ bAt x k ∧ bAt x k ≤ i - 1 ∧ (0 < k → bAt x (k - 1) < bAt x k))) && (List.range x.Before.length).all fun k => decide (-100 ≤ lAt x k ∧ lAt x k ≤ 100)
theorem okTask_iff {x : TaskD} {i : Int} : okTask x i = true ↔ OkTask x i := by
  simp only [okTask, Bool.and_eq_true, decide_eq_true_eq, List.all_eq_true, List.mem_range]
  exact ⟨fun ⟨⟨⟨⟨a, b⟩, c⟩, d⟩, e⟩ => ⟨a, b, c, d, e⟩, fun ⟨a, b, c, d, e⟩ => ⟨⟨⟨⟨a, b⟩, c⟩, d⟩, e⟩⟩
theorem okTask_not {x : TaskD} {i : Int} (h : ¬ OkTask x i) : okTask x i = false := by
  cases hq : okTask x i
  · rfl
  · exact absurd (okTask_iff.1 hq) h
/-- The tasks of a list are right. -/
structure AreT (xs : List TaskD) : Prop where
  some_ : 1 ≤ xs.length
  most : xs.length ≤ 16
  each : ∀ (k : Nat) (x : TaskD), xs[k]? = some x → OkTask x k
def areTasks (xs : List TaskD) : Bool := decide (1 ≤ xs.length) && decide (xs.length ≤ 16) && (List.range xs.length).all fun k => okTask (xs.getD k default) k
theorem areTasks_iff {xs : List TaskD} : areTasks xs = true ↔ AreT xs := by
  simp only [areTasks, Bool.and_eq_true, decide_eq_true_eq, List.all_eq_true, List.mem_range]
  constructor
  · rintro ⟨⟨a, b⟩, c⟩
    refine ⟨a, b, fun k x hx => ?_⟩
    have hk := (List.getElem?_eq_some_iff.1 hx).1
    have := c k hk
    rw [List.getD_eq_getElem?_getD, hx] at this
    exact okTask_iff.1 this
  · rintro ⟨a, b, c⟩
    refine ⟨⟨a, b⟩, fun k hk => ?_⟩
    rw [List.getD_eq_getElem?_getD, List.getElem?_eq_getElem hk]
    exact okTask_iff.2 (c k _ (List.getElem?_eq_getElem hk))
theorem areTasks_not {xs : List TaskD} (h : ¬ AreT xs) : areTasks xs = false := by
  cases hq : areTasks xs
  · rfl
  · exact absurd (areTasks_iff.1 hq) h
theorem getD_some {α : Type} {xs : List α} {k : Nat} {x d : α} (h : xs[k]? = some x) : xs.getD k d = x := by rw [List.getD_eq_getElem?_getD, h]; rfl

set_option maxHeartbeats 2000000 in
theorem l03Task_any (B b o : Nat) (x : TaskD) (vb vl : Value) (idx : Int) (w : World) (h0 : w.cell? ⟨b, o, none⟩ = some (.int .i64 x.Time)) (h1 : w.cell? ⟨b, o + 1, none⟩ = some (.int .i64 x.Needs)) (h2 : w.cell? ⟨b, o + 2, none⟩ = some vb) (h3 : w.cell? ⟨b, o + 3, none⟩ = some vl)
    (hb : LstI B w vb x.Before) (hl : LstI B w vl x.Lags) (i0 : 0 ≤ idx) (i1 : idx ≤ 9223372036854775807) :
    Calls Try.prog 30 #[.pointer (some ⟨b, o, none⟩), .int .i64 idx] w (Ret (.bool (okTask x idx)) w) := by
  obtain ⟨a1, n1, rfl, hm1, _, _, hC1⟩ := hb.at_
  obtain ⟨a2, n2, rfl, hm2, _, _, hC2⟩ := hl.at_
  clear hb hl
  have D1 := Lib.hid hC1
  have D2 := Lib.hid hC2
  clear hC1 hC2
  have hNo : Hid (¬ OkTask x idx → okTask x idx = false) := Lib.hid okTask_not
  have hYes : Hid (OkTask x idx → okTask x idx = true) := Lib.hid okTask_iff.2
  unfold maxLen at hm1 hm2
  cases hT : inB x.Time 0 100
  · have hF := Lib.hid (hNo.out fun h => by have := inB_false hT; have := h.time; omega)
    go_enter Try.func30, Try.ntmps30
    go_wp2_with fail
    go_quiet ((go_at_call 23; exact Ret.quiet (Ret.same (l00In_any _ _ _ _))))
    go_wp2_with fail
    go_ret
    exact ⟨_, ret_bool (by rw [hF.out]), rfl⟩
  cases hNd : inB x.Needs 0 20
  · have hF := Lib.hid (hNo.out fun h => by have := inB_false hNd; have := h.needs; omega)
    go_enter Try.func30, Try.ntmps30
    go_wp2_with fail
    go_quiet ((go_at_call 23; exact Ret.quiet (Ret.same (l00In_any _ _ _ _))))
    go_wp2_with fail
    go_ret
    exact ⟨_, ret_bool (by rw [hF.out]), rfl⟩
  by_cases hlen : x.Before.length = x.Lags.length
  case neg =>
    have hF := Lib.hid (hNo.out fun h => hlen h.len)
    go_enter Try.func30, Try.ntmps30
    go_wp2_with fail
    go_quiet ((go_at_call 23; exact Ret.quiet (Ret.same (l00In_any _ _ _ _))))
    go_wp2_with fail
    go_ret
    exact ⟨_, ret_bool (by rw [hF.out]), rfl⟩
  have hTT := Lib.hid (inB_true hT)
  have hNN := Lib.hid (inB_true hNd)
  have hLen := Lib.hid hlen
  have hY2 : Hid ((∀ k, k < x.Before.length → (0 ≤ bAt x k ∧ bAt x k ≤ idx - 1 ∧ (0 < k → bAt x (k - 1) < bAt x k)) ∧ (-100 ≤ lAt x k ∧ lAt x k ≤ 100)) → okTask x idx = true) := Lib.hid fun h => hYes.out ⟨hTT.out, hNN.out, hLen.out, fun k hk => (h k hk).1, fun k hk => (h k hk).2⟩
  have hN2 : Hid (∀ k, k < x.Before.length → ¬ (0 ≤ bAt x k ∧ bAt x k ≤ idx - 1 ∧ (0 < k → bAt x (k - 1) < bAt x k)) → okTask x idx = false) := Lib.hid fun k hk hn => hNo.out fun h => hn (h.before k hk)
  have hN3 : Hid (∀ k, k < x.Before.length → ¬ (-100 ≤ lAt x k ∧ lAt x k ≤ 100) → okTask x idx = false) := Lib.hid fun k hk hn => hNo.out fun h => hn (h.lags k hk)
  have E1 : Hid (∀ k, k < x.Before.length → ∃ b o, a1 = some ⟨b, o, none⟩ ∧ w.cell? ⟨b, o + k, none⟩ = some (.int .i64 (bAt x k))) := Lib.hid fun k hk => by
    obtain ⟨b, o, y, e1, _, e2, e3⟩ := D1.out k hk
    exact ⟨b, o, e1, by rw [e3, bAt, getD_some e2]⟩
  have E2 : Hid (∀ k, k < x.Before.length → ∃ b o, a2 = some ⟨b, o, none⟩ ∧ w.cell? ⟨b, o + k, none⟩ = some (.int .i64 (lAt x k))) := Lib.hid fun k hk => by
    obtain ⟨b, o, y, e1, _, e2, e3⟩ := D2.out k (by rw [← hLen.out]; exact hk)
    exact ⟨b, o, e1, by rw [e3, lAt, getD_some e2]⟩
  clear D1 D2 hNo hYes hTT hNN hLen
  rw [← hlen] at h3 hm2
  clear hlen
  generalize x.Before.length = n at *
  go_enter Try.func30, Try.ntmps30
  go_wp2_with fail
  go_quiet ((go_at_call 23; exact Ret.quiet (Ret.same (l00In_any _ _ _ _))))
  go_wp2_with fail
  rw [hT, hNd]
  clear hT hNd
  go_loopw [38] (fun i wr => ∃ k m : Nat, k ≤ n ∧ i = .int .i64 k ∧ Hid (∀ j, j < k → (0 ≤ bAt x j ∧ bAt x j ≤ idx - 1 ∧ (0 < j → bAt x (j - 1) < bAt x j)) ∧ (-100 ≤ lAt x j ∧ lAt x j ≤ 100)) ∧ wr = w.drewN m) (fun i _ => n - (intOf i).toNat)
  case atStart => exact ⟨0, _, Nat.zero_le _, rfl, Lib.hid (fun j hj => absurd hj (Nat.not_lt_zero _)), rfl⟩
  case round =>
    obtain ⟨k, m, hk, rfl, hP, rfl⟩ := hrel
    by_cases hlt : k < n
    · obtain ⟨b1, o1, rfl, c1⟩ := E1.out k hlt
      obtain ⟨b2, o2, rfl, c2⟩ := E2.out k hlt
      have hStepP : Hid ((0 ≤ bAt x k ∧ bAt x k ≤ idx - 1 ∧ (0 < k → bAt x (k - 1) < bAt x k)) ∧ (-100 ≤ lAt x k ∧ lAt x k ≤ 100) → ∀ j, j < k + 1 → (0 ≤ bAt x j ∧ bAt x j ≤ idx - 1 ∧ (0 < j → bAt x (j - 1) < bAt x j)) ∧ (-100 ≤ lAt x j ∧ lAt x j ≤ 100)) := Lib.hid fun h j hj => by
        by_cases h1 : j < k
        · exact hP.out j h1
        · have : j = k := by omega
          rw [this]; exact h
      have hw1 : IntKind.i64.wrap (idx - 1) = idx - 1 := IntWalk.i64_in _ (by omega)
      cases hq1 : inB (bAt x k) 0 (idx - 1)
      · have hF := Lib.hid (hN2.out k hlt fun h => by have := inB_false hq1; omega)
        clear hStepP hP
        rw [← World.cell?_drewN (n := m)] at h2 h3 c1 c2
        generalize hwo : w.drewN m = wo at *
        have hWo := Lib.hid hwo
        clear hwo
        go_wp2_with fail
        go_quiet ((go_at_call 23; exact Ret.quiet (Ret.same (l00In_any _ _ _ _))))
        go_wp2_with fail
        go_ret
        exact ⟨_, ret_bool (by rw [hF.out]), by rw [← hWo.out]; exact World.drewN_drewN ..⟩
      cases hq2 : inB (lAt x k) (-100) 100
      · have hF := Lib.hid (hN3.out k hlt fun h => by have := inB_false hq2; omega)
        clear hStepP hP
        cases k with
        | zero =>
          rw [← World.cell?_drewN (n := m)] at h2 h3 c1 c2
          generalize hwo : w.drewN m = wo at *
          have hWo := Lib.hid hwo
          clear hwo
          rw [Nat.add_zero] at c1 c2
          rw [show ((0 : Nat) : Int) = 0 from rfl]
          have hi0 : (0 : Int) < n := by omega
          go_wp2_with fail
          go_quiet ((go_at_call 23; exact Ret.quiet (Ret.same (l00In_any _ _ _ _))))
          go_wp2_with fail
          go_ret
          exact ⟨_, ret_bool (by rw [hF.out]), by rw [← hWo.out]; exact World.drewN_drewN ..⟩
        | succ j =>
          obtain ⟨b3, o3, e3, c3⟩ := E1.out j (by omega)
          injection e3 with e3
          injection e3 with e4 e5 _
          subst e4 e5
          rw [← World.cell?_drewN (n := m)] at h2 h3 c1 c2 c3
          generalize hwo : w.drewN m = wo at *
          have hWo := Lib.hid hwo
          clear hwo
          rw [show ((j + 1 : Nat) : Int) = (j : Int) + 1 by omega] at *
          have hi1 : (j : Int) + 1 < n := by omega
          have hi2 : (j : Int) < n := by omega
          have hi3 : (0 : Int) ≤ (j : Int) + 1 := by omega
          have hw2 : IntKind.i64.wrap ((j : Int) + 1 - 1) = (j : Int) := by rw [Int.add_sub_cancel]; exact IntWalk.i64_in _ (by omega)
          have hi4 : (0 : Int) ≤ (j : Int) := by omega
          have hi5 : (j : Int) + 1 - 1 = (j : Int) := by omega
          by_cases hq3 : bAt x (j + 1) ≤ bAt x j
          · go_wp2_with fail
            go_quiet ((go_at_call 23; exact Ret.quiet (Ret.same (l00In_any _ _ _ _))))
            go_wp2_with fail
            go_ret
            exact ⟨_, ret_bool (by rw [hF.out]), by rw [← hWo.out]; exact World.drewN_drewN ..⟩
          · have hq4 : decide (bAt x (j + 1) ≤ bAt x j) = false := by simp; omega
            clear hq3
            go_wp2_with fail
            go_quiet ((go_at_call 23; exact Ret.quiet (Ret.same (l00In_any _ _ _ _))))
            go_wp2_with fail
            go_ret
            exact ⟨_, ret_bool (by rw [hF.out]), by rw [← hWo.out]; exact World.drewN_drewN ..⟩
      have hb1 := inB_true hq1
      have hb2 := inB_true hq2
      cases k with
      | zero =>
        have hP2 := Lib.hid (hStepP.out ⟨⟨hb1.1, hb1.2, fun h => absurd h (Nat.lt_irrefl _)⟩, hb2⟩)
        clear hStepP hP hb1 hb2
        rw [← World.cell?_drewN (n := m)] at h2 h3 c1 c2
        generalize hwo : w.drewN m = wo at *
        have hWo := Lib.hid hwo
        clear hwo
        rw [Nat.add_zero] at c1 c2
        rw [show ((0 : Nat) : Int) = 0 from rfl]
        have hi0 : (0 : Int) < n := by omega
        go_wp2_with fail
        go_quiet ((go_at_call 23; exact Ret.quiet (Ret.same (l00In_any _ _ _ _))))
        go_wp2_with fail
        go_roundw
        case rel => exact ⟨0 + 1, _, by omega, by go_num, hP2, by rw [← hWo.out]; exact World.drewN_drewN ..⟩
        case measure => simp [intOf]; omega
      | succ j =>
        obtain ⟨b3, o3, e3, c3⟩ := E1.out j (by omega)
        injection e3 with e3
        injection e3 with e4 e5 _
        subst e4 e5
        by_cases hq3 : bAt x (j + 1) ≤ bAt x j
        · have hF := Lib.hid (hN2.out (j + 1) hlt fun h => by have := h.2.2 (by omega); rw [Nat.add_sub_cancel] at this; omega)
          clear hStepP hP hb1 hb2
          rw [← World.cell?_drewN (n := m)] at h2 h3 c1 c2 c3
          generalize hwo : w.drewN m = wo at *
          have hWo := Lib.hid hwo
          clear hwo
          rw [show ((j + 1 : Nat) : Int) = (j : Int) + 1 by omega] at *
          have hi1 : (j : Int) + 1 < n := by omega
          have hi2 : (j : Int) < n := by omega
          have hi3 : (0 : Int) ≤ (j : Int) + 1 := by omega
          have hw2 : IntKind.i64.wrap ((j : Int) + 1 - 1) = (j : Int) := by rw [Int.add_sub_cancel]; exact IntWalk.i64_in _ (by omega)
          have hi4 : (0 : Int) ≤ (j : Int) := by omega
          have hi5 : (j : Int) + 1 - 1 = (j : Int) := by omega
          go_wp2_with fail
          go_quiet ((go_at_call 23; exact Ret.quiet (Ret.same (l00In_any _ _ _ _))))
          go_wp2_with fail
          go_ret
          exact ⟨_, ret_bool (by rw [hF.out]), by rw [← hWo.out]; exact World.drewN_drewN ..⟩
        · have hP2 := Lib.hid (hStepP.out ⟨⟨hb1.1, hb1.2, fun _ => by rw [Nat.add_sub_cancel]; omega⟩, hb2⟩)
          clear hStepP hP hb1 hb2
          rw [← World.cell?_drewN (n := m)] at h2 h3 c1 c2 c3
          generalize hwo : w.drewN m = wo at *
          have hWo := Lib.hid hwo
          clear hwo
          rw [show ((j + 1 : Nat) : Int) = (j : Int) + 1 by omega] at *
          have hi1 : (j : Int) + 1 < n := by omega
          have hi2 : (j : Int) < n := by omega
          have hi3 : (0 : Int) ≤ (j : Int) + 1 := by omega
          have hw2 : IntKind.i64.wrap ((j : Int) + 1 - 1) = (j : Int) := by rw [Int.add_sub_cancel]; exact IntWalk.i64_in _ (by omega)
          have hi4 : (0 : Int) ≤ (j : Int) := by omega
          have hi5 : (j : Int) + 1 - 1 = (j : Int) := by omega
          have hq4 : decide (bAt x (j + 1) ≤ bAt x j) = false := by simp; omega
          clear hq3
          go_wp2_with fail
          go_quiet ((go_at_call 23; exact Ret.quiet (Ret.same (l00In_any _ _ _ _))))
          go_wp2_with fail
          go_roundw
          case rel =>
            exact ⟨j + 1 + 1, _, by omega, by go_num, hP2, by rw [← hWo.out]; exact World.drewN_drewN ..⟩
          case measure => simp [intOf]; omega
    · have hF := Lib.hid (hY2.out fun j hj => hP.out j (by omega))
      go_wp2_with fail
      go_ret
      exact ⟨_, ret_bool (by rw [hF.out]), rfl⟩
end Go.Proofs.Ytdggbjpfllnenaa
