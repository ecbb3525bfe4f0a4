/- Contracts: IsCrewPlan, in the model and in the program. -/
import Derived.Test.YtbjbllkolekmpaaCrewUse2
namespace Go.Proofs.Ytbjbllkolekmpaa
open Go.RowKit Go.Lst

def fitsAt (xs : List TaskD) (st : List Int) (k : Nat) : Bool := decide (ready xs st (xs.getD k default) ≤ st.getD k 0)
def crewPlanOk (xs : List TaskD) (st : List Int) (c : Int) : Bool := useOk xs st && (inB c 0 20 && (allIn (useRes xs st) 0 c && (List.range xs.length).all (fitsAt xs st)))
theorem plan_no1 {xs : List TaskD} {st : List Int} {c : Int} (h : useOk xs st = false) : crewPlanOk xs st c = false := by unfold crewPlanOk; rw [h]; rfl
theorem plan_no2 {xs : List TaskD} {st : List Int} {c : Int} (h : inB c 0 20 = false) : crewPlanOk xs st c = false := by unfold crewPlanOk; rw [h]; simp
theorem plan_no3 {xs : List TaskD} {st : List Int} {c : Int} (h : allIn (useRes xs st) 0 c = false) : crewPlanOk xs st c = false := by unfold crewPlanOk; rw [h]; simp
theorem plan_no4 {xs : List TaskD} {st : List Int} {c : Int} {k : Nat} (hk : k < xs.length) (h : fitsAt xs st k = false) : crewPlanOk xs st c = false := by
  have : (List.range xs.length).all (fitsAt xs st) = false := List.all_eq_false.2 ⟨k, List.mem_range.2 hk, by rw [h]; simp⟩
  unfold crewPlanOk; rw [this]; simp
theorem plan_no5 {xs : List TaskD} {st : List Int} {c : Int} {i : Nat} {u : Int} (hi : (useRes xs st)[i]? = some u) (h : c < u) : crewPlanOk xs st c = false :=
  plan_no3 (all_not hi (by unfold inB; exact decide_eq_false (by omega)))
theorem plan_yes {xs : List TaskD} {st : List Int} {c : Int} (h1 : useOk xs st = true) (h2 : inB c 0 20 = true) (h3 : allIn (useRes xs st) 0 c = true) (h4 : ∀ k, k < xs.length → fitsAt xs st k = true) : crewPlanOk xs st c = true := by
  have : (List.range xs.length).all (fitsAt xs st) = true := List.all_eq_true.2 fun k hk => h4 k (List.mem_range.1 hk)
  unfold crewPlanOk; rw [h1, h2, h3, this]; rfl
theorem plan_yes2 {xs : List TaskD} {st : List Int} {c : Int} (h1 : useOk xs st = true) (h2 : inB c 0 20 = true) (h3 : ∀ (i : Nat) (u : Int), (useRes xs st)[i]? = some u → u ≤ c) (h4 : ∀ k, k < xs.length → fitsAt xs st k = true) : crewPlanOk xs st c = true := by
  refine plan_yes h1 h2 (all_upto fun i u _ hu => ?_) h4
  have hc := h3 i u hu
  rw [useRes_yes h1] at hu
  have h0 := (use_small h1 xs.length (Nat.le_refl _) i).1
  rw [getD_some hu] at h0
  unfold inB
  exact decide_eq_true ⟨h0, hc⟩
theorem fits_no {xs : List TaskD} {st : List Int} {k : Nat} {x : TaskD} {s : Int} (hx : xs[k]? = some x) (hs : st[k]? = some s) (h : s < ready xs st x) : fitsAt xs st k = false := by
  unfold fitsAt; rw [getD_some hx, getD_some hs]; exact decide_eq_false (by omega)
theorem fits_yes {xs : List TaskD} {st : List Int} {k : Nat} {x : TaskD} {s : Int} (hx : xs[k]? = some x) (hs : st[k]? = some s) (h : ¬ s < ready xs st x) : fitsAt xs st k = true := by
  unfold fitsAt; rw [getD_some hx, getD_some hs]; exact decide_eq_true (by omega)

set_option maxHeartbeats 1000000 in
theorem tooEarly_any (B : Nat) (v1 v2 : Value) (p1 p2 q1 q2 : Addr) (xs : List TaskD) (st : List Int) (k : Nat) (x : TaskD) (s : Int) (w : World) (h1 : LstTask B w v1 xs) (h2 : LstI B w v2 st) (hB : B ≤ w.heap.size) (hf : Fit xs) (hx : xs[k]? = some x) (hs : st[k]? = some s) (hl : xs.length ≤ st.length) (hb : Bnd (-1000000) 1000000 st)
    (hp1 : w.cell? p1 = some v1) (hp2 : w.cell? p2 = some v2) (hq1 : w.cell? q1 = some v2) (hq2 : w.cell? q2 = some (.func (.func 72) #[] #[.pointer (some p1), .pointer (some p2)])) :
    Calls Try.prog 49 #[.int .i64 k, .pointer (some q1), .pointer (some q2)] w (Ret (.bool (decide (s < ready xs st x))) w) := by
  have hQ : Hid (∀ m, Calls Try.prog 72 #[.int .i64 k, .pointer (some p1), .pointer (some p2)] (w.drewN m) (Ret (.int .i64 (ready xs st x)) (w.drewN m))) := Lib.hid fun m =>
    readyFn_any B v1 v2 p1 p2 xs st k x (w.drewN m) (h1.below (below_drawn w m) hB) (h2.below (below_drawn w m) hB) hf hx hl hb hp1 hp2
  obtain ⟨a2, c2, rfl, _, _, _, hc2⟩ := h2.at_
  have hk := (List.getElem?_eq_some_iff.1 hs).1
  obtain ⟨b2, o2, s', rfl, _, hs', e4⟩ := hc2 k hk
  rw [hs] at hs'
  obtain rfl := Option.some.inj hs'
  have hkI : (k : Int) < (st.length : Int) := by omega
  generalize ready xs st x = r at *
  generalize st.length = n at *
  clear h1 h2 hf hx hs hl hb hp1 hp2 hs' hc2
  go_enter Try.func49, Try.ntmps49
  go_wp2_with fail
  go_quiet ((go_at_call 72; exact Ret.quiet (hQ.out _)))
  go_wp2_with fail
  go_ret
  exact ⟨_, rfl, rfl⟩

set_option maxHeartbeats 1000000 in
theorem firstEarly_any (n : Nat) (q1 q2 : Addr) (p : Nat → Bool) (w : World) (hn : n ≤ 1000) (hF : ∀ k, k < n → ∀ m, Calls Try.prog 49 #[.int .i64 k, .pointer (some q1), .pointer (some q2)] (w.drewN m) (Ret (.bool (p k)) (w.drewN m))) :
    Calls Try.prog 50 #[.int .i64 n, .func (.func 49) #[] #[.pointer (some q1), .pointer (some q2)]] w fun e w' => ∃ f m : Nat, e = .returned (.int .i64 f) ∧ w' = w.drewN m ∧ f ≤ n ∧ (∀ k, k < f → p k = false) ∧ (f < n → p f = true) := by
  have hQ := Lib.hid hF
  clear hF
  go_enter Try.func50, Try.ntmps50
  go_wp2_with fail
  go_loopw [5] (fun i wr => ∃ k m : Nat, k ≤ n ∧ i = .int .i64 k ∧ Hid (∀ j, j < k → p j = false) ∧ wr = w.drewN m) (fun i _ => n - (intOf i).toNat)
  case atStart => exact ⟨0, 0, Nat.zero_le _, rfl, Lib.hid (fun j hj => by omega), rfl⟩
  case round =>
    obtain ⟨k, m, hk, rfl, hP, rfl⟩ := hrel
    by_cases hlt : k < n
    · have hQ2 := Lib.hid (hQ.out k hlt m)
      have hw1 : IntKind.i64.wrap ((k : Int) + 1) = (k : Int) + 1 := IntWalk.i64_in _ (by omega)
      have hlt2 : (k : Int) < (n : Int) := by omega
      cases hp : p k
      · rw [hp] at hQ2
        have hP2 : Hid (∀ j, j < k + 1 → p j = false) := Lib.hid fun j hj => by
          by_cases e : j = k
          · rw [e]; exact hp
          · exact hP.out j (by omega)
        clear hp
        go_wp2_with fail
        refine (hQ2.out).mono ?_
        rintro e w2 ⟨m2, rfl, rfl⟩
        rw [World.drewN_drewN]
        go_wp2_with fail
        go_roundw
        case rel => exact ⟨k + 1, _, by omega, by go_num, hP2, rfl⟩
        case measure => simp [intOf]; omega
      · rw [hp] at hQ2
        have hT := Lib.hid hp
        clear hp
        go_wp2_with fail
        refine (hQ2.out).mono ?_
        rintro e w2 ⟨m2, rfl, rfl⟩
        rw [World.drewN_drewN]
        go_wp2_with fail
        go_ret
        exact ⟨k, _, rfl, rfl, hk, hP.out, fun _ => hT.out⟩
    · obtain rfl : n = k := by omega
      go_wp2_with fail
      go_ret
      exact ⟨n, _, rfl, rfl, Nat.le_refl _, hP.out, fun h => absurd h (Nat.lt_irrefl _)⟩

set_option maxHeartbeats 4000000 in
theorem specIsCrewPlan_any (B : Nat) (v1 v2 : Value) (xs : List TaskD) (st : List Int) (c : Int) (w : World) (h1 : LstTask B w v1 xs) (h2 : LstI B w v2 st) (hB : B ≤ w.heap.size) :
    Calls Try.prog 21 #[v1, v2, .int .i64 c] w fun e w' => e = .returned (.bool (crewPlanOk xs st c)) ∧ Below w.heap.size w w' := by
  have hA : Hid (Calls Try.prog 14 #[v1, v2] w fun e w' => ∃ v', e = .returned (.tuple #[v', .bool (useOk xs st)]) ∧ Own w.heap.size w'.heap.size w' v' 2 1 (useRes xs st).length ((useRes xs st).map (Value.int .i64)) ∧ Below w.heap.size w w') := Lib.hid (specCrewUse_any B v1 v2 xs st w h1 h2 hB)
  have hL1 := Lib.hid h1
  have hL2 := Lib.hid h2
  obtain ⟨a, cap, rfl, hml, _⟩ := h1
  obtain ⟨a2, cap2, rfl, _⟩ := h2
  cases hq : useOk xs st
  · rw [plan_no1 hq]
    rw [hq] at hA
    go_enter Try.func21, Try.ntmps21
    go_wp2_with fail
    refine (hA.out).mono ?_
    rintro e w1 ⟨v', rfl, -, hb1⟩
    have hB1 := Lib.hid hb1
    clear hb1
    go_wp2_with fail
    go_ret
    exact ⟨rfl, hB1.out⟩
  rw [hq] at hA
  cases hr : inB c 0 20
  · rw [plan_no2 hr]
    go_enter Try.func21, Try.ntmps21
    go_wp2_with fail
    refine (hA.out).mono ?_
    rintro e w1 ⟨v', rfl, -, hb1⟩
    have hB1 := Lib.hid hb1
    clear hb1
    go_wp2_with (go_at_call 44; refine (l00In_any _ _ _ _).mono ?_; rintro e w' ⟨rfl, rfl⟩)
    go_ret
    exact ⟨rfl, hB1.out⟩
  obtain ⟨hT, hl, hs, hso, e0, e1⟩ := useOk_of hq
  have hm : xs.length ≤ 16 := hT.most
  have hLs : Hid (∀ w1, Below w.heap.size w w1 → ∀ k, k < xs.length → ∃ (b2 o2 : Nat) (s r : Int), a2 = some ⟨b2, o2, none⟩ ∧ w1.cell? ⟨b2, o2 + k, none⟩ = some (.int .i64 s) ∧ (s < r → crewPlanOk xs st c = false) ∧ (¬ s < r → fitsAt xs st k = true) ∧
      ∀ m, Calls Try.prog 45 #[.slice a xs.length cap, .slice a2 st.length cap2, .int .i64 k] (w1.drewN m) (Ret (.int .i64 r) (w1.drewN m))) := Lib.hid fun w1 hb k hk => by
    have hh2 := hL2.out.below hb hB
    obtain ⟨a3, c3, ev, _, _, _, hc2⟩ := hh2.at_
    injection ev with ev _ _
    subst ev
    obtain ⟨b2, o2, s, rfl, hb2, hs', e4⟩ := hc2 k (by omega)
    have hx : xs[k]? = some xs[k] := List.getElem?_eq_getElem hk
    refine ⟨b2, o2, s, ready xs st xs[k], rfl, e4, fun h => plan_no4 hk (fits_no hx hs' h), fun h => fits_yes hx hs' h, fun m => ?_⟩
    exact l03Least_any B _ _ xs st k xs[k] (w1.drewN m) ((hL1.out.below hb hB).below (below_drawn w1 m) (Nat.le_trans hB hb.size)) (hh2.below (below_drawn w1 m) (Nat.le_trans hB hb.size)) hT.fit hx (by omega) ((starts_bnd hs).mono (by omega) (by omega))
  have hN5 : Hid (∀ (i : Nat) (u : Int), (useRes xs st)[i]? = some u → c < u → crewPlanOk xs st c = false) := Lib.hid fun i u hi h => plan_no5 hi h
  have hY : Hid ((∀ (i : Nat) (u : Int), (useRes xs st)[i]? = some u → u ≤ c) → (∀ k, k < xs.length → fitsAt xs st k = true) → crewPlanOk xs st c = true) := Lib.hid fun a b => plan_yes2 hq hr a b
  have hnl : st.length = xs.length := hl
  have hrl := useRes_length xs st
  clear hT hl hs hso e0 e1 hq hL1 hL2
  generalize crewPlanOk xs st c = ok at *
  generalize useRes xs st = R at *
  generalize fitsAt xs st = F at *
  generalize xs.length = n at *
  generalize st.length = n2 at *
  subst hnl
  unfold maxLen at hml
  go_enter Try.func21, Try.ntmps21
  go_wp2_with fail
  refine (hA.out).mono ?_
  rintro e w1 ⟨v', rfl, hO, hb1⟩
  have hB1 := Lib.hid hb1
  obtain ⟨a5, c5, rfl, _, _, _, hc5⟩ := (hO.lstI (Nat.le_refl _)).at_
  have hC5 := Lib.hid hc5
  clear hb1 hc5 hO hA
  generalize hRL : R.length = L at *
  have hRL' := Lib.hid hRL
  clear hRL
  go_wp2_with (go_at_call 44; refine (l00In_any _ _ _ _).mono ?_; rintro e w' ⟨rfl, rfl⟩)
  clear hr
  go_loopw [26] (fun i wr => ∃ k m : Nat, k ≤ n2 ∧ i = .int .i64 k ∧ Hid (∀ j, j < k → F j = true) ∧ wr = w1.drewN m) (fun i _ => n2 - (intOf i).toNat)
  case atStart => exact ⟨0, 0, Nat.zero_le _, rfl, Lib.hid (fun j hj => by omega), rfl⟩
  case round =>
    obtain ⟨k, m, hk, rfl, hP, rfl⟩ := hrel
    have hB2 := Lib.hid (Lst.Below.drewN hB1.out m)
    by_cases hlt : k < n2
    · obtain ⟨b2, o2, s, r, rfl, e4, hno, hyes, hQ⟩ := hLs.out _ hB2.out k hlt
      have hQ2 := Lib.hid hQ
      have hNO := Lib.hid hno
      have hYES := Lib.hid hyes
      clear hQ hno hyes
      have hkI : (k : Int) < (n2 : Int) := by omega
      generalize hwo : w1.drewN m = wo at *
      have hWo := Lib.hid hwo
      clear hwo
      by_cases hsr : s < r
      · have hF := Lib.hid (hNO.out hsr)
        go_wp2_with fail
        go_quiet ((go_at_call 45; exact Ret.quiet (hQ2.out _)))
        have hB3 := Lib.hid (Lst.Below.drewN hB2.out nq)
        go_wp2_with fail
        go_ret
        exact ⟨ret_bool (by rw [hF.out]), hB3.out⟩
      · have hF := Lib.hid (hYES.out (by omega))
        have hnd : decide (s < r) = false := decide_eq_false hsr
        have hP2 : Hid (∀ j, j < k + 1 → F j = true) := Lib.hid fun j hj => by
          by_cases e : j = k
          · rw [e]; exact hF.out
          · exact hP.out j (by omega)
        go_wp2_with fail
        go_quiet ((go_at_call 45; exact Ret.quiet (hQ2.out _)))
        go_wp2_with fail
        go_roundw
        case rel => exact ⟨k + 1, _, by omega, by go_num, hP2, by rw [← hWo.out]; exact World.drewN_drewN ..⟩
        case measure => simp [intOf]; omega
    · obtain rfl : n2 = k := by omega
      have hC6 : Hid (∀ k, k < L → ∃ (b o : Nat) (x : Int), a5 = some ⟨b, o, none⟩ ∧ R[k]? = some x ∧ (w1.drewN m).cell? ⟨b, o + k, none⟩ = some (.int .i64 x)) := Lib.hid fun k hk => by
        obtain ⟨b, o, x, h1, _, h2, h3⟩ := hC5.out k hk
        exact ⟨b, o, x, h1, h2, h3⟩
      generalize w1.drewN m = w5 at *
      go_wp2_with fail
      go_loopw [41] (fun i wr => ∃ k : Nat, k ≤ L ∧ i = .int .i64 k ∧ Hid (∀ (j : Nat) (u : Int), j < k → R[j]? = some u → u ≤ c) ∧ wr = w5) (fun i _ => L - (intOf i).toNat)
      case atStart => exact ⟨0, Nat.zero_le _, rfl, Lib.hid (fun j u hj => by omega), rfl⟩
      case round =>
        obtain ⟨k, hk2, rfl, hU, rfl⟩ := hrel
        by_cases hlt2 : k < L
        · obtain ⟨b, o, u, rfl, hu, e5⟩ := hC6.out k hlt2
          have hHu := Lib.hid hu
          clear hu
          have hkL : (k : Int) < (L : Int) := by omega
          by_cases hcu : c < u
          · have hF := Lib.hid (hN5.out k u hHu.out hcu)
            go_wp2_with fail
            go_ret
            exact ⟨ret_bool (by rw [hF.out]), hB2.out⟩
          · have hnd : decide (c < u) = false := decide_eq_false hcu
            have hU2 : Hid (∀ (j : Nat) (u : Int), j < k + 1 → R[j]? = some u → u ≤ c) := Lib.hid fun j u' hj hu' => by
              by_cases e : j = k
              · subst e
                rw [hHu.out] at hu'
                obtain rfl := Option.some.inj hu'
                omega
              · exact hU.out j u' (by omega) hu'
            go_wp2_with fail
            go_roundw
            case rel => exact ⟨k + 1, by omega, by go_num, hU2, by trivial⟩
            case measure => simp [intOf]; omega
        · obtain rfl : L = k := by omega
          have hF := Lib.hid (hY.out (fun i u hi => hU.out i u (by have := (List.getElem?_eq_some_iff.1 hi).1; have := hRL'.out; omega) hi) hP.out)
          go_wp2_with fail
          go_ret
          exact ⟨ret_bool (by rw [hF.out]), hB2.out⟩
end Go.Proofs.Ytbjbllkolekmpaa
