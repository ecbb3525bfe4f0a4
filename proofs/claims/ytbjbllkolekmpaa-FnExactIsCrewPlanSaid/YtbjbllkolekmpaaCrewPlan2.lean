/- Contracts: IsCrewPlan, in the program. -/
import Derived.Test.YtbjbllkolekmpaaCrewPlan
namespace Go.Proofs.Ytbjbllkolekmpaa
open Go.RowKit Go.Lst

set_option maxHeartbeats 1000000 in
theorem implIsCrewPlan_any (B : Nat) (v1 v2 : Value) (xs : List TaskD) (st : List Int) (c : Int) (w : World) (h1 : LstTask B w v1 xs) (h2 : LstI B w v2 st) (hB : B ≤ w.heap.size) :
    Calls Try.prog 22 #[v1, v2, .int .i64 c] w fun e w' => e = .returned (.bool (crewPlanOk xs st c)) ∧ Below w.heap.size w w' := by
  have hL1 := Lib.hid h1
  have hL2 := Lib.hid h2
  obtain ⟨a, cap, rfl, hml, _⟩ := h1
  obtain ⟨a2, cap2, rfl, _⟩ := h2
  have hB0 : Below w.heap.size w (w.alloc (.cells #[.slice a2 st.length cap2] 28)) := below_alloc (Below.refl _ _) _
  have hW : Whole (w.alloc (.cells #[.slice a2 st.length cap2] 28)) w.heap.size 28 _ := Whole.made w _ _ rfl
  have hsz : (w.alloc (.cells #[.slice a2 st.length cap2] 28)).heap.size = w.heap.size + 1 := by simp
  have hc0 : (w.alloc (.cells #[.slice a2 st.length cap2] 28)).cell? ⟨w.heap.size, 0, none⟩ = some (.slice a2 st.length cap2) := hW.at_ rfl
  clear hW
  have hA : Hid (Calls Try.prog 16 #[.slice a xs.length cap, .slice a2 st.length cap2] (w.alloc (.cells #[.slice a2 st.length cap2] 28)) fun e w' => ∃ v', e = .returned (.tuple #[v', .bool (useOk xs st)]) ∧
      Own (w.alloc (.cells #[.slice a2 st.length cap2] 28)).heap.size w'.heap.size w' v' 2 1 (useRes xs st).length ((useRes xs st).map (Value.int .i64)) ∧ Below (w.alloc (.cells #[.slice a2 st.length cap2] 28)).heap.size (w.alloc (.cells #[.slice a2 st.length cap2] 28)) w') :=
    Lib.hid (implCrewUse_any B _ _ xs st _ (hL1.out.below hB0 hB) (hL2.out.below hB0 hB) (by omega))
  have hB1 := Lib.hid hB0
  have hCell := Lib.hid hc0
  cases hq : useOk xs st
  · rw [plan_no1 hq]
    rw [hq] at hA
    clear hq hB0 hc0
    generalize xs.length = n at *
    generalize st.length = n2 at *
    go_enter Try.func22, Try.ntmps22
    go_wp2_with fail
    generalize (w.alloc (.cells #[.slice a2 n2 cap2] 28)) = w0 at *
    refine (hA.out).mono ?_
    rintro e w1 ⟨v', rfl, -, hb1⟩
    have hB2 := Lib.hid (below_on hB1.out (by omega) hb1)
    clear hb1
    go_wp2_with fail
    go_ret
    exact ⟨rfl, hB2.out⟩
  rw [hq] at hA
  cases hr : inB c 0 20
  · rw [plan_no2 hr]
    clear hq hB0 hc0
    generalize xs.length = n at *
    generalize st.length = n2 at *
    go_enter Try.func22, Try.ntmps22
    go_wp2_with fail
    generalize (w.alloc (.cells #[.slice a2 n2 cap2] 28)) = w0 at *
    refine (hA.out).mono ?_
    rintro e w1 ⟨v', rfl, -, hb1⟩
    have hB2 := Lib.hid (below_on hB1.out (by omega) hb1)
    clear hb1
    go_wp2_with (go_at_call 46; refine (isWithin_any _ _ _ _).mono ?_; rintro e w' ⟨rfl, rfl⟩)
    go_ret
    exact ⟨rfl, hB2.out⟩
  cases hs3 : allIn (useRes xs st) 0 c
  · rw [plan_no3 hs3]
    have hW3 : Hid (∀ w1 v', LstI w1.heap.size w1 v' (useRes xs st) → Calls Try.prog 47 #[v', .int .i64 0, .int .i64 c] w1 fun e w' => e = .returned (.bool false) ∧ w1 = w') := Lib.hid fun w1 v' hv => by rw [← hs3]; exact areWithin_any _ v' _ 0 c w1 hv.lst
    clear hq hB0 hc0 hs3
    generalize xs.length = n at *
    generalize st.length = n2 at *
    go_enter Try.func22, Try.ntmps22
    go_wp2_with fail
    generalize (w.alloc (.cells #[.slice a2 n2 cap2] 28)) = w0 at *
    refine (hA.out).mono ?_
    rintro e w1 ⟨v', rfl, hO, hb1⟩
    have hB2 := Lib.hid (below_on hB1.out (by omega) hb1)
    have hW4 := Lib.hid (hW3.out w1 v' (hO.lstI (Nat.le_refl _)))
    clear hb1 hO
    go_wp2_with (first | (go_at_call 46; refine (isWithin_any _ _ _ _).mono ?_; rintro e w' ⟨rfl, rfl⟩) | (go_at_call 47; refine (hW4.out).mono ?_; rintro e w' ⟨rfl, rfl⟩))
    go_ret
    exact ⟨rfl, hB2.out⟩
  have hW3 : Hid (∀ w1 v', LstI w1.heap.size w1 v' (useRes xs st) → Calls Try.prog 47 #[v', .int .i64 0, .int .i64 c] w1 fun e w' => e = .returned (.bool true) ∧ w1 = w') := Lib.hid fun w1 v' hv => by rw [← hs3]; exact areWithin_any _ v' _ 0 c w1 hv.lst
  obtain ⟨hT, hl, hs, hso, e0, e1⟩ := useOk_of hq
  have hm : xs.length ≤ 16 := hT.most
  have hN4 : Hid (∀ k, k < xs.length → fitsAt xs st k = false → crewPlanOk xs st c = false) := Lib.hid fun k hk h => plan_no4 hk h
  have hY : Hid ((∀ k, k < xs.length → fitsAt xs st k = true) → crewPlanOk xs st c = true) := Lib.hid fun h => plan_yes hq hr hs3 h
  have hFP : Hid (∀ (w1 : World) (p1 p2 q1 q2 : Addr), Below w.heap.size w w1 → w1.cell? p1 = some (.slice a xs.length cap) → w1.cell? p2 = some (.slice a2 st.length cap2) → w1.cell? q1 = some (.slice a2 st.length cap2) → w1.cell? q2 = some (.func (.func 72) #[] #[.pointer (some p1), .pointer (some p2)]) →
      Calls Try.prog 50 #[.int .i64 xs.length, .func (.func 49) #[] #[.pointer (some q1), .pointer (some q2)]] w1 fun e w' => ∃ f m : Nat, e = .returned (.int .i64 f) ∧ w' = w1.drewN m ∧ f ≤ xs.length ∧ (∀ k, k < f → (!fitsAt xs st k) = false) ∧ (f < xs.length → (!fitsAt xs st f) = true)) := Lib.hid fun w1 p1 p2 q1 q2 hb k1 k2 k3 k4 =>
    firstEarly_any xs.length q1 q2 (fun k => !fitsAt xs st k) w1 (by omega) fun k hk m => by
      have hx : xs[k]? = some xs[k] := List.getElem?_eq_getElem hk
      have hst : st[k]? = some st[k] := List.getElem?_eq_getElem (by omega)
      have e : (!fitsAt xs st k) = decide (st[k] < ready xs st xs[k]) := by
        by_cases h : st[k] < ready xs st xs[k]
        · rw [fits_no hx hst h, decide_eq_true h]; rfl
        · rw [fits_yes hx hst h, decide_eq_false h]; rfl
      show Calls _ _ _ _ (Ret (.bool (!fitsAt xs st k)) _)
      rw [e]
      exact tooEarly_any B _ _ p1 p2 q1 q2 xs st k xs[k] st[k] (w1.drewN m) ((hL1.out.below hb hB).below (below_drawn w1 m) (Nat.le_trans hB hb.size)) ((hL2.out.below hb hB).below (below_drawn w1 m) (Nat.le_trans hB hb.size)) (Nat.le_trans hB hb.size) hT.fit hx hst (by omega) ((starts_bnd hs).mono (by omega) (by omega)) k1 k2 k3 k4
  clear hT hl hs hso e0 e1 hq hs3 hL1 hL2 hB0 hc0
  generalize crewPlanOk xs st c = ok at *
  generalize useRes xs st = R at *
  generalize fitsAt xs st = F at *
  generalize xs.length = n at *
  generalize st.length = n2 at *
  unfold maxLen at hml
  go_enter Try.func22, Try.ntmps22
  go_wp2_with fail
  generalize (w.alloc (.cells #[.slice a2 n2 cap2] 28)) = w0 at *
  refine (hA.out).mono ?_
  rintro e w1 ⟨v', rfl, hO, hb1⟩
  have hB2 := Lib.hid (below_on hB1.out (by omega) hb1)
  have hW4 := Lib.hid (hW3.out w1 v' (hO.lstI (Nat.le_refl _)))
  have hcw : w1.cell? ⟨w.heap.size, 0, none⟩ = some (.slice a2 n2 cap2) := (hb1.cell (p := ⟨w.heap.size, 0, none⟩) (show w.heap.size < _ by omega)).trans hCell.out
  have hs1 : w.heap.size < w1.heap.size := Nat.lt_of_lt_of_le (show w.heap.size < w0.heap.size by omega) hb1.size
  have hCw := Lib.hid hcw
  clear hb1 hO hA hW3
  go_wp2_with (first | (go_at_call 46; refine (isWithin_any _ _ _ _).mono ?_; rintro e w' ⟨rfl, rfl⟩) | (go_at_call 47; refine (hW4.out).mono ?_; rintro e w' ⟨rfl, rfl⟩))
  refine (readyBy_any _ _ _ _ _ _ _).mono ?_
  rintro e w2 ⟨rfl, hb2, hsz2, k1, k2⟩
  have hB3 := Lib.hid (below_on hB2.out (Nat.le_refl _) hb2)
  have hK3 := Lib.hid ((hb2.cell (p := ⟨w.heap.size, 0, none⟩) hs1).trans hCw.out)
  have hK1 := Lib.hid k1
  have hK2 := Lib.hid k2
  clear k1 k2 hb2 hcw
  go_wp2_with fail
  generalize hwp : World.alloc w2 _ = w3
  have hA3 : Hid (Below w2.heap.size w2 w3) := Lib.hid (by rw [← hwp]; exact below_alloc (Below.refl _ _) _)
  have hB4 := Lib.hid (below_on hB3.out (Nat.le_refl _) hA3.out)
  have q1 := (hA3.out.cell (p := ⟨w1.heap.size, 0, none⟩) (show w1.heap.size < w2.heap.size by omega)).trans hK1.out
  have q2 := (hA3.out.cell (p := ⟨w1.heap.size + 1, 0, none⟩) (show w1.heap.size + 1 < w2.heap.size by omega)).trans hK2.out
  have q3 := (hA3.out.cell (p := ⟨w.heap.size, 0, none⟩) (show w.heap.size < w2.heap.size by omega)).trans hK3.out
  have q4 : w3.cell? ⟨w2.heap.size, 0, none⟩ = some (.func (.func 72) #[] #[.pointer (some ⟨w1.heap.size, 0, none⟩), .pointer (some ⟨w1.heap.size + 1, 0, none⟩)]) := by rw [← hwp]; exact (Whole.made w2 _ _ rfl).at_ rfl
  rw [hsz2] at q4
  have hP := Lib.hid (hFP.out w3 _ _ _ _ hB4.out q1 q2 q3 q4)
  clear hwp q1 q2 q3 q4
  refine (hP.out).mono ?_
  rintro e w4 ⟨f, m, rfl, rfl, hf, hno, hyes⟩
  have hB5 := Lib.hid (Lst.Below.drewN hB4.out m)
  by_cases hfn : f = n
  · subst hfn
    have hF := Lib.hid (hY.out fun k hk => by have := hno k hk; simpa using this)
    clear hno hyes
    go_wp2_with fail
    go_ret
    exact ⟨ret_bool (by rw [hF.out]), hB5.out⟩
  · have hF := Lib.hid (hN4.out f (by omega) (by have := hyes (by omega); simpa using this))
    have hne : ¬ (f : Int) = (n : Int) := by omega
    clear hno hyes
    go_wp2_with fail
    go_ret
    exact ⟨ret_bool (by rw [hF.out]; first | done | (simp; omega) | simp [hne]), hB5.out⟩
theorem isCrewPlan_both (xs : List TaskD) (st : List Int) (c : Int) (_ : ∀ y ∈ xs, y.wf) (_ : ∀ x ∈ st, (Lit.int .i64 x).wf = true) (_ : (Lit.int .i64 c).wf = true) : ∃ (r0 : Bool),
    (∀ (B : Nat) (v1 v2 : Value) (w : World), LstTask B w v1 xs → LstI B w v2 st → B ≤ w.heap.size → Calls Try.prog 21 #[v1, v2, .int .i64 c] w fun e w' => e = .returned (.bool r0) ∧ Below w.heap.size w w') ∧
    (∀ (B : Nat) (v1 v2 : Value) (w : World), LstTask B w v1 xs → LstI B w v2 st → B ≤ w.heap.size → Calls Try.prog 22 #[v1, v2, .int .i64 c] w fun e w' => e = .returned (.bool r0) ∧ Below w.heap.size w w') :=
  ⟨crewPlanOk xs st c, fun B v1 v2 w h1 h2 hB => specIsCrewPlan_any B v1 v2 xs st c w h1 h2 hB, fun B v1 v2 w h1 h2 hB => implIsCrewPlan_any B v1 v2 xs st c w h1 h2 hB⟩
end Go.Proofs.Ytbjbllkolekmpaa
