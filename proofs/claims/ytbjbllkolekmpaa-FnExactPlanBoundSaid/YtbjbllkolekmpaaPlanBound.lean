/- Contracts: the bound of plans by crews. -/
import Derived.Test.YtbjbllkolekmpaaCrew
import Derived.Test.YtbjbllkolekmpaaDoneBy
import Derived.Deep.RegionHeld3
namespace Go.Proofs.Ytbjbllkolekmpaa
open Go.RowKit Go.Lst

set_option maxHeartbeats 1000000 in
theorem goesBack_any (B : Nat) (t n : Int) (a1 a2 : Option Addr) (n1 c1 c2 : Nat) (ls : List Int) (w : World) (hl : LstI B w (.slice a2 ls.length c2) ls) :
    Calls Try.prog 54 #[.agg #[.int .i64 t, .int .i64 n, .slice a1 n1 c1, .slice a2 ls.length c2]] w fun e w' => e = .returned (.bool (!allIn ls 0 100)) ∧ Below w.heap.size w w' := by
  have hb1 := Lib.hid (below_alloc (Below.refl w.heap.size w) (.cells #[.int .i64 t, .int .i64 n, .slice a1 n1 c1, .slice a2 ls.length c2] 48))
  have hx1 := Lib.hid (Whole.made w 48 #[.int .i64 t, .int .i64 n, .slice a1 n1 c1, .slice a2 ls.length c2] rfl)
  have hA : Hid (B ≤ w.heap.size → _) := Lib.hid fun hB => areWithin_any B (.slice a2 ls.length c2) ls 0 100 (w.alloc (.cells #[.int .i64 t, .int .i64 n, .slice a1 n1 c1, .slice a2 ls.length c2] 48)) (LstI.below hl (hb1.out.mono hB) (Nat.le_refl _)).lst
  have hA2 : Hid (Calls Try.prog 47 #[.slice a2 ls.length c2, .int .i64 0, .int .i64 100] (w.alloc (.cells #[.int .i64 t, .int .i64 n, .slice a1 n1 c1, .slice a2 ls.length c2] 48)) fun e w' => e = .returned (.bool (allIn ls 0 100)) ∧ (w.alloc (.cells #[.int .i64 t, .int .i64 n, .slice a1 n1 c1, .slice a2 ls.length c2] 48)) = w') := Lib.hid (by
    by_cases hB : B ≤ w.heap.size
    · exact hA.out hB
    · have h2 : LstI w.heap.size w (.slice a2 ls.length c2) ls := by
        obtain ⟨a, cap, hv, q1, q2, q3, q4, hc⟩ := hl
        refine ⟨a, cap, hv, q1, q2, q3, q4, fun hn => ?_⟩
        obtain ⟨b, o, ha, hb, hcell⟩ := hc hn
        obtain ⟨u, hu⟩ : ∃ u, (ls.map (Value.int .i64))[0]? = some u := ⟨_, List.getElem?_eq_getElem (by simp; omega)⟩
        exact ⟨b, o, ha, World.block_lt_of_cell? w ⟨b, o + 0, none⟩ (hcell 0 u hu), hcell⟩
      exact areWithin_any w.heap.size _ ls 0 100 _ (LstI.below h2 hb1.out (Nat.le_refl _)).lst)
  clear hl hA
  generalize allIn ls 0 100 = q at *
  generalize ls.length = n2 at *
  go_enter Try.func54, Try.ntmps54
  go_wp2_with fail
  have c3 := hx1.out.at_ (i := 3) rfl
  generalize w.alloc _ = w2 at *
  cases q
  · go_wp2_with (go_at_call 47; (with_reducible refine (hA2.out).mono ?_); rintro e w' ⟨rfl, rfl⟩)
    go_ret
    exact ⟨rfl, hb1.out⟩
  · go_wp2_with (go_at_call 47; (with_reducible refine (hA2.out).mono ?_); rintro e w' ⟨rfl, rfl⟩)
    go_ret
    exact ⟨rfl, hb1.out⟩

set_option maxHeartbeats 4000000 in
theorem goesIndex_any (B : Nat) (v : Value) (xs : List TaskD) (w : World) (h : LstTask B w v xs) (hB : B ≤ w.heap.size) :
    Calls Try.prog 74 #[v, .func (.func 54) #[] #[]] w fun e w' => (∃ r : Int, e = .returned (.int .i64 r) ∧ -1 ≤ r ∧ decide (0 ≤ r) = xs.any (fun x => !allIn x.Lags 0 100)) ∧ Below w.heap.size w w' := by
  obtain ⟨a, cap, rfl, hl, _, _, hc⟩ := h.at_
  have hYes : Hid (∀ (k : Nat) (x : TaskD), xs[k]? = some x → (!allIn x.Lags 0 100) = true → decide (0 ≤ (k : Int)) = xs.any (fun x => !allIn x.Lags 0 100)) := Lib.hid fun k x hx hp => by
    rw [decide_eq_true (by omega), List.any_eq_true.2 ⟨x, List.mem_of_getElem? hx, hp⟩]
  have hNo : Hid (∀ k, k = xs.length → (∀ (i : Nat) (x : TaskD), i < k → xs[i]? = some x → (!allIn x.Lags 0 100) = false) → decide (0 ≤ (-1 : Int)) = xs.any (fun x => !allIn x.Lags 0 100)) := Lib.hid fun k hk hp => by
    rw [decide_eq_false (by omega)]
    symm
    rw [List.any_eq_false]
    intro x hx
    obtain ⟨i, hi, rfl⟩ := List.mem_iff_getElem.1 hx
    have := hp i _ (by omega) (List.getElem?_eq_getElem hi)
    simp [this]
  have hC := Lib.hid hc
  clear hc h
  generalize xs.any (fun x => !allIn x.Lags 0 100) = res at *
  generalize xs.length = n at *
  unfold maxLen at hl
  go_enter Try.func74, Try.ntmps74
  go_wp2_with fail
  go_loopw [8] (fun i wr => ∃ k : Nat, k ≤ n ∧ i = .int .i64 k ∧ Hid (∀ (i : Nat) (x : TaskD), i < k → xs[i]? = some x → (!allIn x.Lags 0 100) = false) ∧ Hid (Below w.heap.size w wr)) (fun i _ => n - (intOf i).toNat)
  case atStart => exact ⟨0, Nat.zero_le _, rfl, Lib.hid (fun i x hi _ => by omega), Lib.hid (Below.refl _ _)⟩
  case round =>
    obtain ⟨k, hk, rfl, hP, hB1⟩ := hrel
    by_cases hlt : k < n
    · obtain ⟨b, o, x, vb, vl, rfl, hb, hx, h0, h1, h2, h3, l0, l1⟩ := hC.out k hlt
      have hXx := Lib.hid hx
      rw [← hB1.out.cell (p := ⟨b, o + k * 4, none⟩) (show b < w.heap.size by omega)] at h0
      rw [← hB1.out.cell (p := ⟨b, o + k * 4 + 1, none⟩) (show b < w.heap.size by omega)] at h1
      rw [← hB1.out.cell (p := ⟨b, o + k * 4 + 2, none⟩) (show b < w.heap.size by omega)] at h2
      rw [← hB1.out.cell (p := ⟨b, o + k * 4 + 3, none⟩) (show b < w.heap.size by omega)] at h3
      obtain ⟨ab, nb, rfl, _⟩ := id l0
      obtain ⟨al, nl, rfl, _⟩ := id l1
      have L0 := Lib.hid (l0.below hB1.out hB)
      have L1 := Lib.hid (l1.below hB1.out hB)
      clear hx hb l0 l1
      go_wp2_with fail
      refine (goesBack_any B x.Time x.Needs ab al x.Before.length nb nl x.Lags wr L1.out).mono ?_
      rintro e w3 ⟨rfl, hb3⟩
      have hB3 := Lib.hid (below_on hB1.out (Nat.le_refl _) hb3)
      cases hq : (!allIn x.Lags 0 100)
      · have hP2 : Hid (∀ (i : Nat) (x : TaskD), i < k + 1 → xs[i]? = some x → (!allIn x.Lags 0 100) = false) := Lib.hid fun i y hi hy => by
          by_cases h1 : i < k
          · exact hP.out i y h1 hy
          · have : i = k := by omega
            subst this
            rw [hXx.out] at hy
            cases hy
            exact hq
        clear hb3 hB1
        go_wp2_with fail
        go_roundw
        case rel => exact ⟨k + 1, by omega, by go_num, hP2, hB3⟩
        case measure => simp [intOf]; omega
      · have hF := Lib.hid (hYes.out k x hXx.out hq)
        clear hb3 hB1
        go_wp2_with fail
        go_ret
        exact ⟨⟨k, rfl, by omega, hF.out⟩, hB3.out⟩
    · have hF := Lib.hid (hNo.out k (by omega) hP.out)
      go_wp2_with fail
      go_ret
      exact ⟨⟨-1, rfl, by omega, hF.out⟩, hB1.out⟩
set_option maxHeartbeats 1000000 in
theorem goesContains_any (B : Nat) (v : Value) (xs : List TaskD) (w : World) (h : LstTask B w v xs) (hB : B ≤ w.heap.size) :
    Calls Try.prog 56 #[v, .func (.func 54) #[] #[]] w fun e w' => e = .returned (.bool (xs.any (fun x => !allIn x.Lags 0 100))) ∧ Below w.heap.size w w' := by
  have hQ := Lib.hid (goesIndex_any B v xs w h hB )
  obtain ⟨a, cap, rfl, _⟩ := h
  generalize xs.any (fun x => !allIn x.Lags 0 100) = res at *
  go_enter Try.func56, Try.ntmps56
  go_wp2_with fail
  refine (hQ.out).mono ?_
  rintro e w1 ⟨⟨r, rfl, hr1, hr2⟩, hb1⟩
  have hB1 := Lib.hid hb1
  have hR := Lib.hid hr2
  clear hb1 hr2
  go_wp2_with fail
  go_ret
  exact ⟨ret_bool (by rw [← hR.out]), hB1.out⟩

def goesBack (xs : List TaskD) : Bool := xs.any fun x => !allIn x.Lags 0 100
def boundOk (xs : List TaskD) (c : Int) : Bool := crewOk xs c && decide (1 ≤ c) && !goesBack xs
def boundRes (xs : List TaskD) (c : Int) : Int := if boundOk xs c then max (endOf xs (early xs)) ((workTo xs xs.length + c - 1) / c) else 0
theorem boundRes_yes {xs : List TaskD} {c : Int} (h : boundOk xs c = true) : boundRes xs c = max (endOf xs (early xs)) ((workTo xs xs.length + c - 1) / c) := by unfold boundRes; rw [h, if_pos rfl]
theorem crew_of {xs : List TaskD} {c : Int} (h : crewOk xs c = true) : AreT xs ∧ 0 ≤ c ∧ c ≤ 20 := by
  simp only [crewOk, Bool.and_eq_true] at h
  exact ⟨areTasks_iff.1 h.1.1, (inB_true h.1.2).1, (inB_true h.1.2).2⟩
def NumsPost (x : Int) (ok : Bool) (w : World) (e : Ending) (w' : World) : Prop := e = .returned (.tuple #[.int .i64 x, .bool ok]) ∧ Below w.heap.size w w'
theorem nums_no {x : Int} {ok : Bool} {w w' : World} (h1 : x = 0) (h2 : ok = false) (hb : Below w.heap.size w w') : NumsPost x ok w (.returned (.tuple #[.int .i64 0, .bool false])) w' := by
  subst h1 h2
  exact ⟨rfl, hb⟩
theorem nums_yes {x y : Int} {ok : Bool} {w w' : World} (h1 : x = y) (h2 : ok = true) (hb : Below w.heap.size w w') : NumsPost x ok w (.returned (.tuple #[.int .i64 y, .bool true])) w' := by
  subst h1 h2
  exact ⟨rfl, hb⟩
theorem quo_bound {a c : Int} (ha : 0 ≤ a) (hA : a ≤ 32000) (h1 : 1 ≤ c) (h2 : c ≤ 20) : 0 ≤ (a + c - 1) / c ∧ (a + c - 1) / c ≤ 40000 := by
  have q1 : 0 ≤ (a + c - 1) / c := Int.ediv_nonneg (by omega) (by omega)
  have q2 : (a + c - 1) / c ≤ a + c - 1 := Int.ediv_le_self _ (by omega)
  omega
set_option maxHeartbeats 4000000 in
theorem implPlanBound_any (B : Nat) (v : Value) (xs : List TaskD) (c : Int) (w : World) (h : LstTask B w v xs) (hB : B ≤ w.heap.size) :
    Calls Try.prog 24 #[v, .int .i64 c] w (NumsPost (boundRes xs c) (boundOk xs c) w) := by
  have hC := Lib.hid (areForCrew_any B v xs c w h hB)
  have hNo : Hid (boundOk xs c = false → ∀ w', Below w.heap.size w w' → NumsPost (boundRes xs c) (boundOk xs c) w (.returned (.tuple #[.int .i64 0, .bool false])) w') := Lib.hid fun hq w' hb => nums_no (by unfold boundRes; rw [hq]; rfl) hq hb
  have hG : Hid (∀ w', Below w.heap.size w w' → _) := Lib.hid fun w' (hb : Below w.heap.size w w') => goesContains_any B v xs w' (h.below hb hB) (Nat.le_trans hB hb.size)
  obtain ⟨a, cap, hv, -⟩ := id h
  subst hv
  cases hq : crewOk xs c
  · have hP := Lib.hid (hNo.out (by unfold boundOk; rw [hq]; rfl))
    rw [hq] at hC
    generalize NumsPost (boundRes xs c) (boundOk xs c) w = Q at *
    clear h hq hNo hG
    go_enter Try.func24, Try.ntmps24
    go_wp2_with fail
    with_reducible refine (hC.out).mono ?_
    rintro e w1 ⟨rfl, hb1⟩
    have hR := Lib.hid (hP.out w1 hb1)
    clear hb1
    go_wp2_with fail
    exact hR.out
  · obtain ⟨hT, c0, c20⟩ := crew_of hq
    rw [hq] at hC
    by_cases h1 : c < 1
    · have hP := Lib.hid (hNo.out (by unfold boundOk; rw [decide_eq_false (by omega)]; simp))
      generalize NumsPost (boundRes xs c) (boundOk xs c) w = Q at *
      clear h hq hNo hG
      go_enter Try.func24, Try.ntmps24
      go_wp2_with fail
      with_reducible refine (hC.out).mono ?_
      rintro e w1 ⟨rfl, hb1⟩
      have hR := Lib.hid (hP.out w1 hb1)
      clear hb1
      go_wp2_with fail
      exact hR.out
    · cases hg : goesBack xs
      · have ho : boundOk xs c = true := by unfold boundOk; rw [hq, hg, decide_eq_true (by omega)]; rfl
        have hP : Hid (∀ w', Below w.heap.size w w' → NumsPost (boundRes xs c) (boundOk xs c) w (.returned (.tuple #[.int .i64 (max (endOf xs (early xs)) ((workTo xs xs.length + c - 1) / c)), .bool true])) w') := Lib.hid fun w' hb => nums_yes (boundRes_yes ho) ho hb
        have hEa : Hid (∀ w', Below w.heap.size w w' → _) := Lib.hid fun w' (hb : Below w.heap.size w w') => earliest_any B _ xs w' (h.below hb hB) (Nat.le_trans hB hb.size) hT.fit
        have hAw : Hid (∀ w', Below w.heap.size w w' → _) := Lib.hid fun w' (hb : Below w.heap.size w w') => allWork_any B _ xs w' (h.below hb hB) (Nat.le_trans hB hb.size) hT
        have hwb := workTo_bound hT xs.length (Nat.le_refl _)
        have hmost : xs.length ≤ 16 := hT.most
        have hqb := quo_bound (a := workTo xs xs.length) (c := c) (by omega) (by omega) (by omega) c20
        unfold goesBack at hg
        rw [hg] at hG
        generalize NumsPost (boundRes xs c) (boundOk xs c) w = Q at *
        generalize workTo xs xs.length = wk at *
        generalize hqv : (wk + c - 1) / c = qv at *
        generalize endOf xs (early xs) = en at *
        have hw1 : IntKind.i64.wrap (wk + c) = wk + c := IntWalk.i64_in _ (by omega)
        have hw2 : IntKind.i64.wrap (wk + c - 1) = wk + c - 1 := IntWalk.i64_in _ (by omega)
        have hc0 : (c == 0) = false := by rw [beq_eq_false_iff_ne]; omega
        have hcz : ¬ c = 0 := by omega
        have hqd : decide (c < 1) = false := by simp; omega
        clear h hq hg hNo
        go_enter Try.func24, Try.ntmps24
        go_wp2_with fail
        with_reducible refine (hC.out).mono ?_
        rintro e w1 ⟨rfl, hb1⟩
        have hB1 := Lib.hid hb1
        clear hb1
        go_wp2_with fail
        with_reducible refine (hG.out w1 hB1.out).mono ?_
        rintro e w2 ⟨rfl, hb2⟩
        have hB2 := Lib.hid (below_on hB1.out (Nat.le_refl _) hb2)
        clear hb2
        go_wp2_with fail
        with_reducible refine (hEa.out w2 hB2.out).mono ?_
        rintro e w3 ⟨v', rfl, -, hb3⟩
        have hB3 := Lib.hid (below_on hB2.out (Nat.le_refl _) hb3)
        clear hb3
        go_wp2_with fail
        with_reducible refine (hAw.out w3 hB3.out).mono ?_
        rintro e w4 ⟨rfl, hb4⟩
        have hR := Lib.hid (hP.out w4 (below_on hB3.out (Nat.le_refl _) hb4))
        clear hb4
        go_wp2_with fail
        all_goals
          try simp only [mx_eq]
          first | exact hR.out | (have hm := hR.out; rw [show max en qv = en by omega] at hm; exact hm) | (have hm := hR.out; rw [show max en qv = qv by omega] at hm; exact hm)
      · have hP := Lib.hid (hNo.out (by unfold boundOk; rw [hg]; simp))
        unfold goesBack at hg
        rw [hg] at hG
        have hqd : decide (c < 1) = false := by simp; omega
        generalize NumsPost (boundRes xs c) (boundOk xs c) w = Q at *
        clear h hq hg hNo
        go_enter Try.func24, Try.ntmps24
        go_wp2_with fail
        with_reducible refine (hC.out).mono ?_
        rintro e w1 ⟨rfl, hb1⟩
        have hB1 := Lib.hid hb1
        clear hb1
        go_wp2_with fail
        with_reducible refine (hG.out w1 hB1.out).mono ?_
        rintro e w2 ⟨rfl, hb2⟩
        have hR := Lib.hid (hP.out w2 (below_on hB1.out (Nat.le_refl _) hb2))
        clear hb2
        go_wp2_with fail
        exact hR.out
theorem lags_back {xs : List TaskD} {k j : Nat} {x : TaskD} {l : Int} (hx : xs[k]? = some x) (hl : x.Lags[j]? = some l) (h : l < 0) : goesBack xs = true :=
  List.any_eq_true.2 ⟨x, List.mem_of_getElem? hx, by
    have : allIn x.Lags 0 100 = false := all_not hl (by simp [inB]; omega)
    rw [this]; rfl⟩
theorem lags_ahead {xs : List TaskD} (hT : AreT xs) (h : ∀ (k j : Nat) (x : TaskD) (l : Int), xs[k]? = some x → x.Lags[j]? = some l → 0 ≤ l) : goesBack xs = false := by
  unfold goesBack
  rw [List.any_eq_false]
  intro x hx
  obtain ⟨i, hi, rfl⟩ := List.mem_iff_getElem.1 hx
  have e := List.getElem?_eq_getElem hi
  have hk := hT.each i _ e
  have : allIn xs[i].Lags 0 100 = true := all_upto fun j l hj hl => by
    have h1 := h i j _ l e hl
    have h2 := hk.lags j (by rw [hk.len]; exact hj)
    unfold lAt at h2
    rw [List.getD_eq_getElem?_getD, hl] at h2
    have h3 : l ≤ 100 := h2.2
    simp [inB]; omega
  rw [this]; simp
set_option maxHeartbeats 8000000 in
theorem specPlanBound_any (B : Nat) (v : Value) (xs : List TaskD) (c : Int) (w : World) (h : LstTask B w v xs) (hB : B ≤ w.heap.size) :
    Calls Try.prog 23 #[v, .int .i64 c] w (NumsPost (boundRes xs c) (boundOk xs c) w) := by
  have hC := Lib.hid (l03Crew_any B v xs c w h)
  have hNo : Hid (boundOk xs c = false → ∀ w', Below w.heap.size w w' → NumsPost (boundRes xs c) (boundOk xs c) w (.returned (.tuple #[.int .i64 0, .bool false])) w') := Lib.hid fun hq w' hb => nums_no (by unfold boundRes; rw [hq]; rfl) hq hb
  cases hq : crewOk xs c
  · have hP := Lib.hid (fun nd => hNo.out (by unfold boundOk; rw [hq]; rfl) (w.drewN nd) (below_drawn w nd))
    rw [hq] at hC
    obtain ⟨a, cap, hv, -⟩ := id h
    subst hv
    generalize NumsPost (boundRes xs c) (boundOk xs c) w = Q at *
    clear h hq hNo
    go_enter Try.func23, Try.ntmps23
    go_wp2_with fail
    with_reducible refine (hC.out).mono ?_
    rintro e w1 ⟨nd, rfl, rfl⟩
    go_wp2_with fail
    first | exact hP.out _ | (go_ret2; exact hP.out _)
  · obtain ⟨hT, c0, c20⟩ := crew_of hq
    rw [hq] at hC
    by_cases h1 : c < 1
    · have hP := Lib.hid (fun nd => hNo.out (by unfold boundOk; rw [decide_eq_false (by omega)]; simp) (w.drewN nd) (below_drawn w nd))
      obtain ⟨a, cap, hv, -⟩ := id h
      subst hv
      generalize NumsPost (boundRes xs c) (boundOk xs c) w = Q at *
      clear h hq hNo
      go_enter Try.func23, Try.ntmps23
      go_wp2_with fail
      with_reducible refine (hC.out).mono ?_
      rintro e w1 ⟨nd, rfl, rfl⟩
      go_wp2_with fail
      first | exact hP.out _ | (go_ret2; exact hP.out _)
    · have hY : Hid (goesBack xs = false → ∀ w', Below w.heap.size w w' → NumsPost (boundRes xs c) (boundOk xs c) w (.returned (.tuple #[.int .i64 (max (endOf xs (early xs)) ((workTo xs xs.length + c - 1) / c)), .bool true])) w') := Lib.hid fun hg w' hb => by
        have ho : boundOk xs c = true := by unfold boundOk; rw [hq, hg, decide_eq_true (by omega)]; rfl
        exact nums_yes (boundRes_yes ho) ho hb
      have hN : Hid (∀ (k j : Nat) (x : TaskD) (l : Int), xs[k]? = some x → x.Lags[j]? = some l → l < 0 → ∀ w', Below w.heap.size w w' → NumsPost (boundRes xs c) (boundOk xs c) w (.returned (.tuple #[.int .i64 0, .bool false])) w') := Lib.hid fun k j x l hx hl h0 => hNo.out (by unfold boundOk; rw [lags_back hx hl h0]; simp)
      have hAh : Hid ((∀ (k j : Nat) (x : TaskD) (l : Int), xs[k]? = some x → x.Lags[j]? = some l → 0 ≤ l) → goesBack xs = false) := Lib.hid fun hh => lags_ahead hT hh
      have hEa : Hid (∀ w', Below w.heap.size w w' → Calls Try.prog 53 #[v] w' fun e w'' => ∃ v', e = .returned v' ∧ LstI w''.heap.size w'' v' (early xs) ∧ Below w.heap.size w w'') := Lib.hid fun w' hb =>
        (l03Early_any B v xs w' (h.below hb hB) (Nat.le_trans hB hb.size) hT.fit).mono fun e w'' ⟨v', he, ho, hb'⟩ => ⟨v', he, (early_own ho (early_length xs)).lstI (Nat.le_refl _), below_on hb (Nat.le_refl _) hb'⟩
      have hEn : Hid (∀ w' v', Below w.heap.size w w' → LstI w'.heap.size w' v' (early xs) → Calls Try.prog 38 #[v, v'] w' fun e w'' => e = .returned (.int .i64 (endOf xs (early xs))) ∧ Below w.heap.size w w'') := Lib.hid fun w' v' hb hl =>
        (l03End_any w'.heap.size v v' xs (early xs) w' ((h.below hb hB).mono (Nat.le_trans hB hb.size)) hl hT.fit (by rw [early_length]; exact Nat.le_refl _) ((early_bound hT.fit).mono (by omega) (by omega))).mono fun e w'' hr => ⟨hr.below.1, below_on hb (Nat.le_refl _) hr.below.2⟩
      have hS : Hid (∀ (k : Nat) (x : TaskD), xs[k]? = some x → workTo xs (k + 1) = workTo xs k + x.Time * x.Needs ∧ 0 ≤ x.Time * x.Needs ∧ x.Time * x.Needs ≤ 2000) := Lib.hid fun k x hx => by
        have := workAt_bound (hT.each k x hx)
        unfold workAt at this
        exact ⟨by simp only [workTo]; rw [getD_some hx]; rfl, this.1, this.2⟩
      have hBd : Hid (∀ k : Nat, k ≤ xs.length → 0 ≤ workTo xs k ∧ workTo xs k ≤ 2000 * (k : Int)) := Lib.hid (workTo_bound hT)
      have hmost : xs.length ≤ 16 := hT.most
      have hLn : Hid (∀ (k : Nat) (x : TaskD), xs[k]? = some x → x.Lags.length ≤ 16) := Lib.hid fun k x hx => by rw [← (hT.each k x hx).len]; exact before_few hT.fit hx
      have hW0 : Hid (workTo xs 0 = 0) := Lib.hid rfl
      have hqd : decide (c < 1) = false := by simp; omega
      have hc0 : (c == 0) = false := by rw [beq_eq_false_iff_ne]; omega
      have hcz : ¬ c = 0 := by omega
      obtain ⟨a, cap, rfl, hl, hcap, hcm, hc⟩ := h.at_
      have hCl := Lib.hid hc
      generalize NumsPost (boundRes xs c) (boundOk xs c) w = Q at *
      generalize endOf xs (early xs) = en at *
      clear h hq hNo hc hT
      generalize hnn : xs.length = n at *
      have hNN := Lib.hid hnn
      clear hnn
      unfold maxLen at hl
      go_enter Try.func23, Try.ntmps23
      go_wp2_with fail
      with_reducible refine (hC.out).mono ?_
      rintro e w1 ⟨nd, rfl, rfl⟩
      go_wp2_with fail
      go_loopw [6, 19] (fun wv iv wr => ∃ k nd : Nat, k ≤ n ∧ iv = .int .i64 k ∧ wv = .int .i64 (workTo xs k) ∧ Hid (∀ (i j : Nat) (x : TaskD) (l : Int), i < k → xs[i]? = some x → x.Lags[j]? = some l → 0 ≤ l) ∧ wr = w.drewN nd) (fun _ iv _ => n - (intOf iv).toNat)
      case atStart => exact ⟨0, nd, Nat.zero_le _, rfl, by rw [hW0.out], Lib.hid (fun i j x l hi => by omega), rfl⟩
      case round =>
        obtain ⟨k, nd, hk, rfl, rfl, hP, rfl⟩ := hrel
        by_cases hlt : k < n
        · obtain ⟨b, o, x, vb, vl, rfl, hb, hx, p0, p1, p2, p3, -, l1⟩ := hCl.out k hlt
          obtain ⟨al, cl, rfl, -, -, -, hlc⟩ := l1.at_
          have hLc := Lib.hid hlc
          obtain ⟨s1, s2, s3⟩ := hS.out k x hx
          have hw0 := hBd.out k hk
          have hXx := Lib.hid hx
          have hN2 := Lib.hid (fun j l => hN.out k j x l hx)
          have hl16 := hLn.out k x hx
          have hS1 := Lib.hid s1
          clear hx hlc l1 s1
          have q3 := Lib.hid p3
          rw [← World.cell?_drewN (n := nd)] at p0 p1 p2 p3
          generalize hwo : w.drewN nd = wo at *
          have hWo := Lib.hid hwo
          clear hwo
          generalize hls : x.Lags = ls at *
          have hLS := Lib.hid hls
          clear hls
          generalize hlen : ls.length = nl at *
          have hLEN := Lib.hid hlen
          clear hlen
          generalize x.Time = ti at *
          generalize x.Needs = ne at *
          generalize workTo xs k = wk at *
          have hw1 : IntKind.i64.wrap (ti * ne) = ti * ne := IntWalk.i64_in _ (by omega)
          have hw2 : IntKind.i64.wrap (wk + ti * ne) = wk + ti * ne := IntWalk.i64_in _ (by omega)
          go_wp2_with fail
          go_quiet (fail)
          have hE6 : wo.drewN nq = w.drewN (nd + nq) := by rw [← hWo.out, World.drewN_drewN]
          rw [hE6]
          clear hE6 p0 p1 p2 p3
          generalize nd + nq = m1
          have p3 : (w.drewN m1).cell? ⟨b, o + k * 4 + 3, none⟩ = some (.slice al nl cl) := q3.out
          generalize hw6 : w.drewN m1 = w6 at *
          have hW6 := Lib.hid hw6
          clear hw6
          go_wp2_with fail
          go_loopw [41] (fun jv wr => ∃ j : Nat, j ≤ nl ∧ jv = .int .i64 j ∧ Hid (∀ (i : Nat) (l : Int), i < j → ls[i]? = some l → 0 ≤ l) ∧ wr = w6) (fun jv _ => nl - (intOf jv).toNat)
          case atStart => exact ⟨0, Nat.zero_le _, rfl, Lib.hid (fun i l hi => by omega), rfl⟩
          case round =>
            obtain ⟨j, hj, rfl, hI, rfl⟩ := hrel
            by_cases hlj : j < nl
            · obtain ⟨bl, ol, l, rfl, -, hll, hcell⟩ := hLc.out j hlj
              have hc6 : wr.cell? ⟨bl, ol + j, none⟩ = some (.int .i64 l) := by rw [← hW6.out]; exact hcell
              have hLl := Lib.hid hll
              clear hll hcell
              by_cases hneg : l < 0
              · have hR := Lib.hid (hN2.out j l hLl.out hneg wr (by rw [← hW6.out]; exact below_drawn w _))
                go_wp2_with fail
                first | exact hR.out | (go_ret2; exact hR.out)
              · have hI2 : Hid (∀ (i : Nat) (l : Int), i < j + 1 → ls[i]? = some l → 0 ≤ l) := Lib.hid fun i l' hi hl' => by
                  by_cases e : i = j
                  · subst e
                    rw [hLl.out] at hl'
                    obtain rfl := Option.some.inj hl'
                    omega
                  · exact hI.out i l' (by omega) hl'
                have hnd : decide (l < 0) = false := by simp; omega
                go_wp2_with fail
                go_roundw
                case rel => exact ⟨j + 1, by omega, by go_num, hI2, by trivial⟩
                case measure => simp [intOf]; omega
            · have hP2 : Hid (∀ (i j : Nat) (x : TaskD) (l : Int), i < k + 1 → xs[i]? = some x → x.Lags[j]? = some l → 0 ≤ l) := Lib.hid fun i j' x' l hi hx' hl' => by
                by_cases e : i = k
                · subst e
                  rw [hXx.out] at hx'
                  obtain rfl := Option.some.inj hx'
                  rw [hLS.out] at hl'
                  have := (List.getElem?_eq_some_iff.1 hl').1
                  exact hI.out j' l (by have := hLEN.out; omega) hl'
                · exact hP.out i j' x' l (by omega) hx' hl'
              go_wp2_with fail
              go_roundw
              case rel => exact ⟨k + 1, m1, by omega, by go_num, by rw [hS1.out], hP2, hW6.out.symm⟩
              case measure => simp [intOf]; omega
        · obtain rfl : n = k := by omega
          have hg := hAh.out fun k j x l hx hl => hP.out k j x l (by have := (List.getElem?_eq_some_iff.1 hx).1; have := hNN.out; omega) hx hl
          have hR := Lib.hid (hY.out hg)
          have hwb := hBd.out n (Nat.le_refl _)
          have hqb := quo_bound (a := workTo xs n) (c := c) (by omega) (by omega) (by omega) c20
          have hb0 := below_drawn w nd
          clear hg
          generalize workTo xs n = wk at *
          have hw1 : IntKind.i64.wrap (wk + c) = wk + c := IntWalk.i64_in _ (by omega)
          have hw2 : IntKind.i64.wrap (wk + c - 1) = wk + c - 1 := IntWalk.i64_in _ (by omega)
          generalize hqv : (wk + c - 1) / c = qv at *
          have hw3 : IntKind.i64.wrap ((wk + c - 1).tdiv c) = qv := by rw [IntWalk.i64_quo _ _ (by omega)]; exact hqv
          generalize w.drewN nd = w5 at *
          go_wp2_with fail
          go_region_held3 (fun w' => Below w.heap.size w w') ((first | assumption | exact Below.drew (by assumption) | exact Lst.Below.drewN (by assumption) _)) ((first | (go_at_call 53; with_reducible refine (hEa.out _ (by assumption)).mono ?_; rintro e w' ⟨v', rfl, hl5, hb5⟩) | (go_at_call 38; with_reducible refine (hEn.out _ _ (by assumption) (by assumption)).mono ?_; rintro e w' ⟨rfl, hb6⟩) | (go_at_call 52; with_reducible refine (l00Max_any _ _ _).mono ?_; rintro e w' ⟨rfl, rfl⟩)))
          all_goals
            go_wp2_with fail
            first | exact hR.out _ (by assumption) | (go_ret2; exact hR.out _ (by assumption))
theorem planBound_both (xs : List TaskD) (c : Int) (_ : ∀ y ∈ xs, y.wf) (_ : (Lit.int .i64 c).wf = true) : ∃ (r0 : Int) (r1 : Bool),
    (∀ (B : Nat) (v : Value) (w : World), LstTask B w v xs → B ≤ w.heap.size → Calls Try.prog 23 #[v, .int .i64 c] w fun e w' => e = .returned (.tuple #[.int .i64 r0, .bool r1]) ∧ Below w.heap.size w w') ∧
    (∀ (B : Nat) (v : Value) (w : World), LstTask B w v xs → B ≤ w.heap.size → Calls Try.prog 24 #[v, .int .i64 c] w fun e w' => e = .returned (.tuple #[.int .i64 r0, .bool r1]) ∧ Below w.heap.size w w') :=
  ⟨boundRes xs c, boundOk xs c, fun B v w h hB => specPlanBound_any B v xs c w h hB, fun B v w h hB => implPlanBound_any B v xs c w h hB⟩
end Go.Proofs.Ytbjbllkolekmpaa
