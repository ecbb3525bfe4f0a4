/- Contracts: lists of tasks for a crew. -/
import Derived.Test.YtbjbllkolekmpaaEarly3
namespace Go.Proofs.Ytbjbllkolekmpaa
open Go.RowKit Go.Lst

/-- Tasks, none of which needs more than the crew. -/
def crewOk (xs : List TaskD) (c : Int) : Bool := areTasks xs && inB c 0 20 && !(xs.any fun x => decide (c < x.Needs))
theorem crewOk_1 {xs : List TaskD} {c : Int} (h : areTasks xs = false) : crewOk xs c = false := by simp [crewOk, h]
theorem crewOk_2 {xs : List TaskD} {c : Int} (h : inB c 0 20 = false) : crewOk xs c = false := by simp [crewOk, h]
theorem crewOk_at {xs : List TaskD} {c : Int} {k : Nat} {x : TaskD} (hx : xs[k]? = some x) (h : c < x.Needs) : crewOk xs c = false := by
  have : (xs.any fun x => decide (c < x.Needs)) = true := List.any_eq_true.2 ⟨x, List.mem_of_getElem? hx, decide_eq_true h⟩
  simp [crewOk, this]
theorem crewOk_all {xs : List TaskD} {c : Int} (h1 : areTasks xs = true) (h2 : inB c 0 20 = true) (h : ∀ (i : Nat) (x : TaskD), i < xs.length → xs[i]? = some x → ¬ c < x.Needs) : crewOk xs c = true := by
  have : (xs.any fun x => decide (c < x.Needs)) = false := by
    rw [List.any_eq_false]
    intro x hx
    obtain ⟨i, hi, rfl⟩ := List.mem_iff_getElem.1 hx
    simpa using h i _ hi (List.getElem?_eq_getElem hi)
  simp [crewOk, this, h1, h2]

set_option maxHeartbeats 2000000 in
theorem l03Crew_any (B : Nat) (v : Value) (xs : List TaskD) (c : Int) (w : World) (h : LstTask B w v xs) :
    Calls Try.prog 51 #[v, .int .i64 c] w (Ret (.bool (crewOk xs c)) w) := by
  have hA := Lib.hid (l03Are_any B v xs w h)
  obtain ⟨a, cap, rfl, hl, _, _, hc⟩ := h.at_
  cases hq : areTasks xs
  · rw [hq] at hA
    have hF := Lib.hid (crewOk_1 (c := c) hq)
    clear hq hc h
    go_enter Try.func51, Try.ntmps51
    go_wp2_with fail
    refine (hA.out).mono ?_
    rintro e w1 ⟨m, rfl, rfl⟩
    go_wp2_with fail
    go_ret
    exact ⟨m, ret_bool (by rw [hF.out]), rfl⟩
  rw [hq] at hA
  cases hr : inB c 0 20
  · have hF := Lib.hid (crewOk_2 (xs := xs) hr)
    clear hq hc h
    go_enter Try.func51, Try.ntmps51
    go_wp2_with fail
    refine (hA.out).mono ?_
    rintro e w1 ⟨m, rfl, rfl⟩
    go_wp2_with (go_at_call 44; refine (l00In_any _ _ _ _).mono ?_; rintro e w' ⟨rfl, rfl⟩)
    go_ret
    exact ⟨m, ret_bool (by rw [hF.out]), rfl⟩
  have hYes : Hid (∀ k, k = xs.length → (∀ (i : Nat) (x : TaskD), i < k → xs[i]? = some x → ¬ c < x.Needs) → crewOk xs c = true) := Lib.hid fun k hk hp => crewOk_all hq hr fun i x hi hx => hp i x (by omega) hx
  have hNo : Hid (∀ (i : Nat) (x : TaskD), xs[i]? = some x → c < x.Needs → crewOk xs c = false) := Lib.hid fun i x hx h => crewOk_at hx h
  have hC := Lib.hid hc
  clear hc h hq
  generalize xs.length = n at *
  unfold maxLen at hl
  go_enter Try.func51, Try.ntmps51
  go_wp2_with fail
  refine (hA.out).mono ?_
  rintro e w1 ⟨m0, rfl, rfl⟩
  go_wp2_with (go_at_call 44; refine (l00In_any _ _ _ _).mono ?_; rintro e w' ⟨rfl, rfl⟩)
  clear hr
  go_loopw [16] (fun i wr => ∃ k m : Nat, k ≤ n ∧ i = .int .i64 k ∧ Hid (∀ (i : Nat) (x : TaskD), i < k → xs[i]? = some x → ¬ c < x.Needs) ∧ wr = w.drewN m) (fun i _ => n - (intOf i).toNat)
  case atStart => exact ⟨0, m0, Nat.zero_le _, rfl, Lib.hid (fun i x hi _ => by omega), rfl⟩
  case round =>
    obtain ⟨k, m, hk, rfl, hP, rfl⟩ := hrel
    by_cases hlt : k < n
    · obtain ⟨b, o, x, vb, vl, rfl, _, hx, h0, h1, h2, h3, l0, l1⟩ := hC.out k hlt
      have hXx := Lib.hid hx
      clear hx l0 l1
      rw [← World.cell?_drewN (n := m)] at h0 h1 h2 h3
      generalize hwo : w.drewN m = wo at *
      have hWo := Lib.hid hwo
      clear hwo
      by_cases hq : c < x.Needs
      · have hF := Lib.hid (hNo.out k x hXx.out hq)
        go_wp2_with fail
        go_ret
        exact ⟨m, ret_bool (by rw [hF.out]), hWo.out.symm⟩
      · have hP2 : Hid (∀ (i : Nat) (y : TaskD), i < k + 1 → xs[i]? = some y → ¬ c < y.Needs) := Lib.hid fun i y hi hy => by
          by_cases h1 : i < k
          · exact hP.out i y h1 hy
          · have : i = k := by omega
            subst this
            rw [hXx.out] at hy
            cases hy
            exact hq
        have hd : decide (c < x.Needs) = false := by simpa using hq
        clear hq
        go_wp2_with fail
        go_roundw
        case rel => exact ⟨k + 1, m, by omega, by go_num, hP2, hWo.out.symm⟩
        case measure => simp [intOf]; omega
    · have hF := Lib.hid (hYes.out k (by omega) (fun i x hi hx => by have := hP.out i x hi hx; omega))
      go_wp2
      go_ret
      exact ⟨m, ret_bool (by rw [hF.out]), rfl⟩

set_option maxHeartbeats 1000000 in
theorem needsMore_any (t n : Int) (a1 a2 : Option Addr) (n1 n2 c1 c2 : Nat) (p : Addr) (c : Int) (w : World) (hp : w.cell? p = some (.int .i64 c)) (hlt : p.block < w.heap.size) :
    Calls Try.prog 73 #[.agg #[.int .i64 t, .int .i64 n, .slice a1 n1 c1, .slice a2 n2 c2], .pointer (some p)] w fun e w' => e = .returned (.bool (decide (c < n))) ∧ Below w.heap.size w w' := by
  go_enter Try.func73, Try.ntmps73
  go_wp2_with fail
  go_ret
  exact ⟨rfl, below_alloc (Below.refl _ _) _⟩

set_option maxHeartbeats 4000000 in
theorem needsIndex_any (B : Nat) (v : Value) (xs : List TaskD) (w : World) (h : LstTask B w v xs) (hB : B ≤ w.heap.size) (p : Addr) (c : Int) (hp : w.cell? p = some (.int .i64 c)) (hpl : p.block < w.heap.size) :
    Calls Try.prog 74 #[v, .func (.func 73) #[] #[.pointer (some p)]] w fun e w' => (∃ r : Int, e = .returned (.int .i64 r) ∧ -1 ≤ r ∧ decide (0 ≤ r) = xs.any (fun x => decide (c < x.Needs))) ∧ Below w.heap.size w w' := by
  obtain ⟨a, cap, rfl, hl, _, _, hc⟩ := h.at_
  have hYes : Hid (∀ (k : Nat) (x : TaskD), xs[k]? = some x → (decide (c < x.Needs)) = true → decide (0 ≤ (k : Int)) = xs.any (fun x => decide (c < x.Needs))) := Lib.hid fun k x hx hp => by
    rw [decide_eq_true (by omega), List.any_eq_true.2 ⟨x, List.mem_of_getElem? hx, hp⟩]
  have hNo : Hid (∀ k, k = xs.length → (∀ (i : Nat) (x : TaskD), i < k → xs[i]? = some x → (decide (c < x.Needs)) = false) → decide (0 ≤ (-1 : Int)) = xs.any (fun x => decide (c < x.Needs))) := Lib.hid fun k hk hp => by
    rw [decide_eq_false (by omega)]
    symm
    rw [List.any_eq_false]
    intro x hx
    obtain ⟨i, hi, rfl⟩ := List.mem_iff_getElem.1 hx
    have := hp i _ (by omega) (List.getElem?_eq_getElem hi)
    simp [this]
  have hC := Lib.hid hc
  have hP0 := Lib.hid hp
  clear hp
  clear hc h
  generalize xs.any (fun x => decide (c < x.Needs)) = res at *
  generalize xs.length = n at *
  unfold maxLen at hl
  go_enter Try.func74, Try.ntmps74
  go_wp2_with fail
  go_loopw [8] (fun i wr => ∃ k : Nat, k ≤ n ∧ i = .int .i64 k ∧ Hid (∀ (i : Nat) (x : TaskD), i < k → xs[i]? = some x → (decide (c < x.Needs)) = false) ∧ Hid (Below w.heap.size w wr)) (fun i _ => n - (intOf i).toNat)
  case atStart => exact ⟨0, Nat.zero_le _, rfl, Lib.hid (fun i x hi _ => by omega), Lib.hid (Below.refl _ _)⟩
  case round =>
    obtain ⟨k, hk, rfl, hP, hB1⟩ := hrel
    by_cases hlt : k < n
    · obtain ⟨b, o, x, vb, vl, rfl, hb, hx, h0, h1, h2, h3, l0, l1⟩ := hC.out k hlt
      have hXx := Lib.hid hx
      rw [← hB1.out.cell (p := ⟨b, o + k * 4, none⟩) (show b < w.heap.size by omega)] at h0
      rw [← hB1.out.cell (p := ⟨b, o + k * 4 + 1, none⟩) (show b < w.heap.size by omega)] at h1
      rw [← hB1.out.cell (p := ⟨b, o + k * 4 + 2, none⟩) (show b < w.heap.size by omega)] at h2
      rw [← hB1.out.cell (p := ⟨b, o + k * 4 + 3, none⟩) (show b < w.heap.size by omega)] at h3
      obtain ⟨ab, nb, rfl, _⟩ := id l0
      obtain ⟨al, nl, rfl, _⟩ := id l1
      have L0 := Lib.hid (l0.below hB1.out hB)
      have L1 := Lib.hid (l1.below hB1.out hB)
      clear hx hb l0 l1
      go_wp2_with fail
      refine (needsMore_any _ _ _ _ _ _ _ _ p c wr ((hB1.out.cell hpl).trans hP0.out) (Nat.lt_of_lt_of_le hpl hB1.out.size)).mono ?_
      rintro e w3 ⟨rfl, hb3⟩
      have hB3 := Lib.hid (below_on hB1.out (Nat.le_refl _) hb3)
      cases hq : (decide (c < x.Needs))
      · have hP2 : Hid (∀ (i : Nat) (x : TaskD), i < k + 1 → xs[i]? = some x → (decide (c < x.Needs)) = false) := Lib.hid fun i y hi hy => by
          by_cases h1 : i < k
          · exact hP.out i y h1 hy
          · have : i = k := by omega
            subst this
            rw [hXx.out] at hy
            cases hy
            exact hq
        clear hb3 hB1
        go_wp2_with fail
        go_roundw
        case rel => exact ⟨k + 1, by omega, by go_num, hP2, hB3⟩
        case measure => simp [intOf]; omega
      · have hF := Lib.hid (hYes.out k x hXx.out hq)
        clear hb3 hB1
        go_wp2_with fail
        go_ret
        exact ⟨⟨k, rfl, by omega, hF.out⟩, hB3.out⟩
    · have hF := Lib.hid (hNo.out k (by omega) hP.out)
      go_wp2_with fail
      go_ret
      exact ⟨⟨-1, rfl, by omega, hF.out⟩, hB1.out⟩
set_option maxHeartbeats 1000000 in
theorem needsContains_any (B : Nat) (v : Value) (xs : List TaskD) (w : World) (h : LstTask B w v xs) (hB : B ≤ w.heap.size) (p : Addr) (c : Int) (hp : w.cell? p = some (.int .i64 c)) (hpl : p.block < w.heap.size) :
    Calls Try.prog 56 #[v, .func (.func 73) #[] #[.pointer (some p)]] w fun e w' => e = .returned (.bool (xs.any (fun x => decide (c < x.Needs)))) ∧ Below w.heap.size w w' := by
  have hQ := Lib.hid (needsIndex_any B v xs w h hB p c hp hpl)
  obtain ⟨a, cap, rfl, _⟩ := h
  generalize xs.any (fun x => decide (c < x.Needs)) = res at *
  go_enter Try.func56, Try.ntmps56
  go_wp2_with fail
  refine (hQ.out).mono ?_
  rintro e w1 ⟨⟨r, rfl, hr1, hr2⟩, hb1⟩
  have hB1 := Lib.hid hb1
  have hR := Lib.hid hr2
  clear hb1 hr2
  go_wp2_with fail
  go_ret
  exact ⟨ret_bool (by rw [← hR.out]), hB1.out⟩

set_option maxHeartbeats 2000000 in
theorem areForCrew_any (B : Nat) (v : Value) (xs : List TaskD) (c : Int) (w : World) (h : LstTask B w v xs) (hB : B ≤ w.heap.size) :
    Calls Try.prog 55 #[v, .int .i64 c] w fun e w' => e = .returned (.bool (crewOk xs c)) ∧ Below w.heap.size w w' := by
  have hL := Lib.hid h
  obtain ⟨a, cap, rfl, _⟩ := h
  have hB0 : Below w.heap.size w (w.alloc (.cells #[.int .i64 c] 2)) := below_alloc (Below.refl _ _) _
  have hW : Whole (w.alloc (.cells #[.int .i64 c] 2)) w.heap.size 2 _ := Whole.made w _ _ rfl
  have hsz : (w.alloc (.cells #[.int .i64 c] 2)).heap.size = w.heap.size + 1 := by simp
  have hc0 : (w.alloc (.cells #[.int .i64 c] 2)).cell? ⟨w.heap.size, 0, none⟩ = some (.int .i64 c) := hW.at_ rfl
  have hA := Lib.hid (areTasks_any B _ xs _ (hL.out.below hB0 hB) (by omega))
  clear hW
  have hK := Lib.hid (show crewOk xs c = (areTasks xs && inB c 0 20 && !(xs.any fun x => decide (c < x.Needs))) from rfl)
  generalize xs.length = n at *
  go_enter Try.func55, Try.ntmps55
  go_wp2_with fail
  generalize (w.alloc (.cells #[.int .i64 c] 2)) = w0 at *
  have hB1 := Lib.hid hB0
  have hCell := Lib.hid hc0
  clear hB0 hc0
  refine (hA.out).mono ?_
  rintro e w1 ⟨rfl, hb1⟩
  have hb1' := Lib.hid hb1
  have hB2 := Lib.hid (below_on hB1.out (by omega) hb1)
  clear hb1
  cases hq : areTasks xs
  · rw [hq] at hK
    go_wp2_with fail
    go_ret
    exact ⟨ret_bool (by rw [hK.out]; rfl), hB2.out⟩
  · have hcw : w1.cell? ⟨w.heap.size, 0, none⟩ = some (.int .i64 c) := (hb1'.out.cell (p := ⟨w.heap.size, 0, none⟩) (show w.heap.size < _ by omega)).trans hCell.out
    cases hr : inB c 0 20
    · rw [hq, hr] at hK
      go_wp2_with (go_at_call 46; refine (isWithin_any _ _ _ _).mono ?_; rintro e w' ⟨rfl, rfl⟩)
      go_ret
      exact ⟨ret_bool (by rw [hK.out]; rfl), hB2.out⟩
    · rw [hq, hr] at hK
      simp only [Bool.true_and] at hK
      have hN := Lib.hid (needsContains_any B _ xs w1 (hL.out.below hB2.out hB) (Nat.le_trans hB hB2.out.size) ⟨w.heap.size, 0, none⟩ c hcw (Nat.lt_of_lt_of_le (show w.heap.size < _ by omega) hb1'.out.size))
      generalize (xs.any fun x => decide (c < x.Needs)) = res at *
      go_wp2_with (go_at_call 46; refine (isWithin_any _ _ _ _).mono ?_; rintro e w' ⟨rfl, rfl⟩)
      refine (hN.out).mono ?_
      rintro e w2 ⟨rfl, hb2⟩
      have hB3 := Lib.hid (below_on hB2.out (Nat.le_refl _) hb2)
      go_wp2_with fail
      go_ret
      exact ⟨ret_bool (by rw [hK.out]), hB3.out⟩
end Go.Proofs.Ytbjbllkolekmpaa
