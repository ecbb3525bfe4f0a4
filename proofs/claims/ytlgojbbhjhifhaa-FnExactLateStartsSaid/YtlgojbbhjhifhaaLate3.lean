/- Contracts: LateStarts, in the model and in the program. -/
import Derived.Test.YtlgojbbhjhifhaaSlack
namespace Go.Proofs.Ytlgojbbhjhifhaa
open Go.RowKit Go.Lst

def lateOk (xs : List TaskD) (e : Int) : Bool := areTasks xs && inB e 0 100000 && decide (endOf xs (early xs) ≤ e)
def lateRes (xs : List TaskD) (e : Int) : List Int := if lateOk xs e then late xs e else []
theorem lateRes_length (xs : List TaskD) (e : Int) : (lateRes xs e).length ≤ 1048576 := by
  unfold lateRes
  split
  · rename_i h
    simp only [lateOk, Bool.and_eq_true] at h
    rw [late_length]; have := (areTasks_fit h.1.1).most; omega
  · simp
def LatePost (xs : List TaskD) (q : Int) (w : World) (e : Ending) (w' : World) : Prop :=
  ∃ v', e = .returned (.tuple #[v', .bool (lateOk xs q)]) ∧ Own w.heap.size w'.heap.size w' v' 2 1 (lateRes xs q).length ((lateRes xs q).map (Value.int .i64)) ∧ Below w.heap.size w w'
theorem latePost_no {xs : List TaskD} {q : Int} {w w' : World} (h : lateOk xs q = false) (hb : Below w.heap.size w w') : LatePost xs q w (.returned (.tuple #[.slice none 0 0, .bool false])) w' := by
  refine ⟨.slice none 0 0, by rw [h], ?_, hb⟩
  unfold lateRes
  rw [if_neg (by rw [h]; simp)]
  exact own_nil
theorem latePost_yes {xs : List TaskD} {q : Int} {w w' : World} {v : Value} (h : lateOk xs q = true) (ho : Own w.heap.size w'.heap.size w' v 2 1 xs.length ((late xs q).map (Value.int .i64))) (hb : Below w.heap.size w w') : LatePost xs q w (.returned (.tuple #[v, .bool true])) w' := by
  refine ⟨v, by rw [h], ?_, hb⟩
  unfold lateRes
  rw [if_pos h]
  exact early_own ho (late_length xs q)
theorem lateOk_first {xs : List TaskD} {q : Int} (h : areTasks xs = false) : lateOk xs q = false := by simp [lateOk, h]
theorem lateOk_second {xs : List TaskD} {q : Int} (h : inB q 0 100000 = false) : lateOk xs q = false := by simp [lateOk, h]

set_option maxHeartbeats 2000000 in
theorem specLateStarts_any (B : Nat) (v : Value) (xs : List TaskD) (q : Int) (w : World) (h : LstTask B w v xs) (hB : B ≤ w.heap.size) : Calls Try.prog 28 #[v, .int .i64 q] w (LatePost xs q w) := by
  have hA := Lib.hid (l03Are_any B v xs w h)
  have hNo : Hid (lateOk xs q = false → ∀ w', Below w.heap.size w w' → LatePost xs q w (.returned (.tuple #[.slice none 0 0, .bool false])) w') := Lib.hid fun h w' hb => latePost_no h hb
  have hYes : Hid (lateOk xs q = true → ∀ w' v, Own w.heap.size w'.heap.size w' v 2 1 xs.length ((late xs q).map (Value.int .i64)) → Below w.heap.size w w' → LatePost xs q w (.returned (.tuple #[v, .bool true])) w') := Lib.hid fun h w' v ho hb => latePost_yes h ho hb
  have hL := Lib.hid h
  obtain ⟨a, cap, rfl, hl, _⟩ := h
  generalize hPost : LatePost xs q w = POST at *
  clear hPost
  cases hq : areTasks xs
  · rw [hq] at hA
    have hF := Lib.hid (lateOk_first (q := q) hq)
    clear hq
    go_enter Try.func28, Try.ntmps28
    go_wp2_with fail
    refine (hA.out).mono ?_
    rintro e w1 ⟨m, rfl, rfl⟩
    go_wp2_with fail
    exact hNo.out hF.out _ (below_drawn _ _)
  · rw [hq] at hA
    cases hr : inB q 0 100000
    · have hF := Lib.hid (lateOk_second (xs := xs) hr)
      clear hq
      go_enter Try.func28, Try.ntmps28
      go_wp2_with fail
      refine (hA.out).mono ?_
      rintro e w1 ⟨m, rfl, rfl⟩
      go_wp2_with (go_at_call 60; refine (l00In_any _ _ _ _).mono ?_; rintro e w' ⟨rfl, rfl⟩)
      exact hNo.out hF.out _ (below_drawn _ _)
    · have hOk : Hid (lateOk xs q = decide (endOf xs (early xs) ≤ q)) := Lib.hid (by simp [lateOk, hq, hr])
      have hFt := Lib.hid (areTasks_fit hq)
      have hqb := inB_true hr
      have hm : xs.length ≤ 16 := hFt.out.most
      clear hq
      go_enter Try.func28, Try.ntmps28
      go_wp2_with fail
      refine (hA.out).mono ?_
      rintro e w1 ⟨m, rfl, rfl⟩
      have hB1 := Lib.hid (below_drawn w m)
      generalize w.drewN m = w1 at *
      go_wp2_with (go_at_call 60; refine (l00In_any _ _ _ _).mono ?_; rintro e w' ⟨rfl, rfl⟩)
      refine (l03Early_any B _ xs w1 (hL.out.below hB1.out hB) (Nat.le_trans hB hB1.out.size) hFt.out).mono ?_
      rintro r w2 ⟨v2, rfl, ho2, hb2⟩
      have hB2 := Lib.hid (below_on hB1.out (Nat.le_refl _) hb2)
      have hO2 := Lib.hid (early_own ho2 (early_length xs))
      obtain ⟨a2, c2, rfl⟩ := own_slice_n ho2
      clear ho2 hb2
      go_wp2_with fail
      refine (l03Late_any B _ xs q w2 (hL.out.below hB2.out hB) (Nat.le_trans hB hB2.out.size) hFt.out hqb.1 (by omega)).mono ?_
      rintro r w3 ⟨v3, rfl, ho3, hb3⟩
      have hB3 := Lib.hid (below_on hB2.out (Nat.le_refl _) hb3)
      have hO3 := Lib.hid ho3
      have hR2 : Hid (∀ k, k < xs.length → ∃ g o, a2 = some ⟨g, o, none⟩ ∧ w3.cell? ⟨g, o + k, none⟩ = some (.int .i64 ((early xs).getD k 0))) := Lib.hid fun k hk => by
        obtain ⟨g, o, e1, _, e2⟩ := own_reads hO2.out hb3 (Nat.le_refl _) k (by rw [early_length]; exact hk)
        exact ⟨g, o, e1, e2⟩
      obtain ⟨a3, c3, rfl⟩ := own_slice_n ho3
      have hR3 : Hid (∀ k, k < xs.length → ∃ g o, a3 = some ⟨g, o, none⟩ ∧ w3.cell? ⟨g, o + k, none⟩ = some (.int .i64 ((late xs q).getD k 0))) := Lib.hid fun k hk => by
        obtain ⟨g, o, e1, _, e2⟩ := own_reads (early_own ho3 (late_length xs q)) (Below.refl _ _) (Nat.le_refl _) k (by rw [late_length]; exact hk)
        exact ⟨g, o, e1, e2⟩
      have hIff := Lib.hid (late_ge_iff hFt.out hqb.1)
      have hs2 := Lib.hid hB2.out.size
      clear ho3 hb3 hO2 hB1
      have hN := Lib.hid (show xs.length = xs.length from rfl)
      generalize hnn : xs.length = n at *
      clear hnn
      unfold maxLen at hl
      go_wp2_with fail
      go_loopw [24] (fun i wr => ∃ k m : Nat, k ≤ n ∧ i = .int .i64 k ∧ Hid (∀ j, j < k → (early xs).getD j 0 ≤ (late xs q).getD j 0) ∧ wr = w3.drewN m) (fun i _ => n - (intOf i).toNat)
      case atStart => exact ⟨0, 0, Nat.zero_le _, rfl, Lib.hid (fun j hj => absurd hj (Nat.not_lt_zero _)), rfl⟩
      case round =>
        obtain ⟨k, m, hk, rfl, hP, rfl⟩ := hrel
        by_cases hlt : k < n
        · obtain ⟨g2, o2, rfl, d2⟩ := hR2.out k hlt
          obtain ⟨g3, o3, rfl, d3⟩ := hR3.out k hlt
          have hkI : (k : Int) < n := by omega
          rw [← World.cell?_drewN (n := m)] at d2 d3
          generalize hwo : w3.drewN m = wo at *
          have hWo := Lib.hid hwo
          clear hwo
          by_cases hlt2 : (late xs q).getD k 0 < (early xs).getD k 0
          · have hF := Lib.hid (show lateOk xs q = false by
              rw [hOk.out]
              refine decide_eq_false fun hle => ?_
              have := hIff.out.2 hle k hlt
              omega)
            have hB4 := Lib.hid (show Below w.heap.size w wo by rw [← hWo.out]; exact Lst.Below.drewN hB3.out m)
            generalize (late xs q).getD k 0 = y3 at *
            generalize (early xs).getD k 0 = y2 at *
            go_wp2_with fail
            go_quiet (fail)
            go_wp2_with fail
            exact hNo.out hF.out _ (Lst.Below.drewN hB4.out _)
          · have hP2 : Hid (∀ j, j < k + 1 → (early xs).getD j 0 ≤ (late xs q).getD j 0) := Lib.hid fun j hj => by
              by_cases h1 : j < k
              · exact hP.out j h1
              · have : j = k := by omega
                rw [this]; omega
            generalize (late xs q).getD k 0 = y3 at *
            generalize (early xs).getD k 0 = y2 at *
            have hd : decide (y3 < y2) = false := by simpa using hlt2
            clear hlt2
            go_wp2_with fail
            go_quiet (fail)
            go_wp2_with fail
            go_roundw
            case rel => exact ⟨k + 1, _, by omega, by go_num, hP2, by rw [← hWo.out]; exact World.drewN_drewN ..⟩
            case measure => simp [intOf]; omega
        · have hF := Lib.hid (show lateOk xs q = true by
            rw [hOk.out]
            exact decide_eq_true (hIff.out.1 fun j hj => hP.out j (by omega)))
          have hO4 := Lib.hid ((hO3.out.below (below_drawn w3 m) (Nat.le_refl _)).mono hs2.out (below_drawn w3 m).size)
          have hB4 := Lib.hid (Lst.Below.drewN hB3.out m)
          generalize w3.drewN m = wo at *
          go_wp2_with fail
          exact hYes.out hF.out _ _ hO4.out hB4.out
set_option maxHeartbeats 2000000 in
theorem implLateStarts_any (B : Nat) (v : Value) (xs : List TaskD) (q : Int) (w : World) (h : LstTask B w v xs) (hB : B ≤ w.heap.size) : Calls Try.prog 29 #[v, .int .i64 q] w (LatePost xs q w) := by
  have hA := Lib.hid (areTasks_any B v xs w h hB)
  have hNo : Hid (lateOk xs q = false → ∀ w', Below w.heap.size w w' → LatePost xs q w (.returned (.tuple #[.slice none 0 0, .bool false])) w') := Lib.hid fun h w' hb => latePost_no h hb
  have hYes : Hid (lateOk xs q = true → ∀ w' v, Own w.heap.size w'.heap.size w' v 2 1 xs.length ((late xs q).map (Value.int .i64)) → Below w.heap.size w w' → LatePost xs q w (.returned (.tuple #[v, .bool true])) w') := Lib.hid fun h w' v ho hb => latePost_yes h ho hb
  have hL := Lib.hid h
  obtain ⟨a, cap, rfl, hl, _⟩ := h
  generalize hPost : LatePost xs q w = POST at *
  clear hPost
  cases hq : areTasks xs
  · rw [hq] at hA
    have hF := Lib.hid (lateOk_first (q := q) hq)
    clear hq
    go_enter Try.func29, Try.ntmps29
    go_wp2_with fail
    refine (hA.out).mono ?_
    rintro e w1 ⟨rfl, hb1⟩
    have hB1 := Lib.hid hb1
    clear hb1
    go_wp2_with fail
    exact hNo.out hF.out _ hB1.out
  · rw [hq] at hA
    cases hr : inB q 0 100000
    · have hF := Lib.hid (lateOk_second (xs := xs) hr)
      clear hq
      go_enter Try.func29, Try.ntmps29
      go_wp2_with fail
      refine (hA.out).mono ?_
      rintro e w1 ⟨rfl, hb1⟩
      have hB1 := Lib.hid hb1
      clear hb1
      go_wp2_with (go_at_call 62; refine (isWithin_any _ _ _ _).mono ?_; rintro e w' ⟨rfl, rfl⟩)
      exact hNo.out hF.out _ hB1.out
    · have hOk : Hid (lateOk xs q = decide (endOf xs (early xs) ≤ q)) := Lib.hid (by simp [lateOk, hq, hr])
      have hFt := Lib.hid (areTasks_fit hq)
      have hqb := inB_true hr
      obtain ⟨q0, q1⟩ := hqb
      clear hq
      go_enter Try.func29, Try.ntmps29
      go_wp2_with fail
      refine (hA.out).mono ?_
      rintro e w1 ⟨rfl, hb1⟩
      have hB1 := Lib.hid hb1
      clear hb1
      go_wp2_with (go_at_call 62; refine (isWithin_any _ _ _ _).mono ?_; rintro e w' ⟨rfl, rfl⟩)
      refine (earliest_any B _ xs w1 (hL.out.below hB1.out hB) (Nat.le_trans hB hB1.out.size) hFt.out).mono ?_
      rintro r w2 ⟨v2, rfl, ho2, hb2⟩
      have hB2 := Lib.hid (below_on hB1.out (Nat.le_refl _) hb2)
      clear ho2 hb2 hB1
      by_cases hgt : q < endOf xs (early xs)
      · have hF := Lib.hid (show lateOk xs q = false by rw [hOk.out]; exact decide_eq_false (by omega))
        go_wp2_with fail
        exact hNo.out hF.out _ hB2.out
      · have hF := Lib.hid (show lateOk xs q = true by rw [hOk.out]; exact decide_eq_true (by omega))
        go_wp2_with fail
        refine (latest_any B _ xs q w2 (hL.out.below hB2.out hB) (Nat.le_trans hB hB2.out.size) hFt.out q0 (by omega)).mono ?_
        rintro r w3 ⟨v3, rfl, ho3, hb3⟩
        have hO3 := Lib.hid (ho3.mono hB2.out.size (Nat.le_refl _))
        have hB3 := Lib.hid (below_on hB2.out (Nat.le_refl _) hb3)
        clear ho3 hb3 hB2
        go_wp2_with fail
        exact hYes.out hF.out _ _ hO3.out hB3.out
theorem lateStarts_both (xs : List TaskD) (q : Int) (_ : ∀ y ∈ xs, y.wf) (_ : (Lit.int .i64 q).wf = true) : ∃ (r0 : List Int) (r1 : Bool), r0.length ≤ 1048576 ∧
    (∀ (B : Nat) (v : Value) (w : World), LstTask B w v xs → B ≤ w.heap.size → Calls Try.prog 28 #[v, .int .i64 q] w fun e w' => ∃ v', e = .returned (.tuple #[v', .bool r1]) ∧ Own w.heap.size w'.heap.size w' v' 2 1 r0.length (r0.map (Value.int .i64)) ∧ Below w.heap.size w w') ∧
    (∀ (B : Nat) (v : Value) (w : World), LstTask B w v xs → B ≤ w.heap.size → Calls Try.prog 29 #[v, .int .i64 q] w fun e w' => ∃ v', e = .returned (.tuple #[v', .bool r1]) ∧ Own w.heap.size w'.heap.size w' v' 2 1 r0.length (r0.map (Value.int .i64)) ∧ Below w.heap.size w w') :=
  ⟨lateRes xs q, lateOk xs q, lateRes_length xs q, fun B v w h hB => specLateStarts_any B v xs q w h hB, fun B v w h hB => implLateStarts_any B v xs q w h hB⟩
end Go.Proofs.Ytlgojbbhjhifhaa
