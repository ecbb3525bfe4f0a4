/- Contracts: EarlyStarts as a whole. -/
import Derived.Test.YtlgojbbhjhifhaaEarly2
namespace Go.Proofs.Ytlgojbbhjhifhaa
open Go.RowKit Go.Lst

def earlyRes (xs : List TaskD) : List Int := if areTasks xs then early xs else []
def earlyEnd (xs : List TaskD) : Int := if areTasks xs then endOf xs (early xs) else 0
theorem areTasks_fit {xs : List TaskD} (h : areTasks xs = true) : Fit xs := (areTasks_iff.1 h).fit
theorem earlyRes_length (xs : List TaskD) : (earlyRes xs).length ≤ 1048576 := by
  unfold earlyRes
  split
  · rename_i h; rw [early_length]; have := (areTasks_fit h).most; omega
  · simp
theorem early_own {A B n : Nat} {w : World} {v : Value} {st : List Int} (h : Own A B w v 2 1 n (st.map (Value.int .i64))) (hl : st.length = n) : Own A B w v 2 1 st.length (st.map (Value.int .i64)) := by
  subst hl; exact h
def EarlyPost (xs : List TaskD) (w : World) (e : Ending) (w' : World) : Prop :=
  ∃ v', e = .returned (.tuple #[v', .int .i64 (earlyEnd xs), .bool (areTasks xs)]) ∧ Own w.heap.size w'.heap.size w' v' 2 1 (earlyRes xs).length ((earlyRes xs).map (Value.int .i64)) ∧ Below w.heap.size w w'
set_option maxHeartbeats 1000000 in
theorem specEarlyStarts_any (B : Nat) (v : Value) (xs : List TaskD) (w : World) (h : LstTask B w v xs) (hB : B ≤ w.heap.size) : Calls Try.prog 22 #[v] w (EarlyPost xs w) := by
  have hA := Lib.hid (l03Are_any B v xs w h)
  unfold EarlyPost earlyRes earlyEnd
  cases hq : areTasks xs
  · rw [hq] at hA
    rw [if_neg (by simp), if_neg (by simp)]
    clear hq h
    go_enter Try.func22, Try.ntmps22
    go_wp2_with fail
    refine (hA.out).mono ?_
    rintro e w1 ⟨m, rfl, rfl⟩
    go_wp2_with fail
    go_ret3
    exact ⟨_, rfl, own_nil, below_drawn _ _⟩
  · rw [hq] at hA
    rw [if_pos rfl, if_pos rfl]
    have hF := Lib.hid (areTasks_fit hq)
    have hL := Lib.hid h
    obtain ⟨a, cap, rfl, _⟩ := h
    clear hq
    go_enter Try.func22, Try.ntmps22
    go_wp2_with fail
    refine (hA.out).mono ?_
    rintro e w1 ⟨m, rfl, rfl⟩
    have hB1 := Lib.hid (below_drawn w m)
    generalize w.drewN m = w1 at *
    go_wp2_with fail
    refine (l03Early_any B _ xs w1 (hL.out.below hB1.out hB) (Nat.le_trans hB hB1.out.size) hF.out).mono ?_
    rintro e w2 ⟨v2, rfl, ho2, hb2⟩
    have hO2 := Lib.hid (early_own ho2 (early_length xs))
    have hB2 := Lib.hid (below_on hB1.out (Nat.le_refl _) hb2)
    have hE := Lib.hid (l03End_any w2.heap.size _ v2 xs (early xs) w2 ((hL.out.below hB2.out hB).mono (Nat.le_trans hB hB2.out.size)) (hO2.out.lstI (Nat.le_refl _)) hF.out (by rw [early_length]; exact Nat.le_refl _) ((early_bound hF.out).mono (by omega) (by omega)))
    have hs1 := Lib.hid hB1.out.size
    clear ho2 hb2 hB1
    go_wp2_with fail
    refine (hE.out).mono ?_
    rintro e w3 ⟨m3, rfl, rfl⟩
    have hO3 := Lib.hid ((hO2.out.below (below_drawn w2 m3) (Nat.le_refl _)).mono hs1.out (below_drawn w2 m3).size)
    have hB3 := Lib.hid (Lst.Below.drewN hB2.out m3)
    generalize w2.drewN m3 = w3 at *
    clear hO2 hB2 hE
    go_wp2_with fail
    go_ret3
    exact ⟨_, rfl, hO3.out, hB3.out⟩
set_option maxHeartbeats 1000000 in
theorem implEarlyStarts_any (B : Nat) (v : Value) (xs : List TaskD) (w : World) (h : LstTask B w v xs) (hB : B ≤ w.heap.size) : Calls Try.prog 23 #[v] w (EarlyPost xs w) := by
  have hA := Lib.hid (areTasks_any B v xs w h hB)
  unfold EarlyPost earlyRes earlyEnd
  cases hq : areTasks xs
  · rw [hq] at hA
    rw [if_neg (by simp), if_neg (by simp)]
    clear hq h
    go_enter Try.func23, Try.ntmps23
    go_wp2_with fail
    refine (hA.out).mono ?_
    rintro e w1 ⟨rfl, hb1⟩
    have hB1 := Lib.hid hb1
    clear hb1
    go_wp2_with fail
    go_ret3
    exact ⟨_, rfl, own_nil, hB1.out⟩
  · rw [hq] at hA
    rw [if_pos rfl, if_pos rfl]
    have hF := Lib.hid (areTasks_fit hq)
    have hL := Lib.hid h
    obtain ⟨a, cap, rfl, _⟩ := h
    clear hq
    go_enter Try.func23, Try.ntmps23
    go_wp2_with fail
    refine (hA.out).mono ?_
    rintro e w1 ⟨rfl, hb1⟩
    have hB1 := Lib.hid hb1
    clear hb1
    go_wp2_with fail
    refine (earliest_any B _ xs w1 (hL.out.below hB1.out hB) (Nat.le_trans hB hB1.out.size) hF.out).mono ?_
    rintro e w2 ⟨v2, rfl, ho2, hb2⟩
    have hO2 := Lib.hid ((early_own ho2 (early_length xs)).mono hB1.out.size (Nat.le_refl _))
    have hB2 := Lib.hid (below_on hB1.out (Nat.le_refl _) hb2)
    clear ho2 hb2 hB1
    go_wp2_with fail
    go_ret3
    exact ⟨_, rfl, hO2.out, hB2.out⟩
theorem earlyStarts_both (xs : List TaskD) (_ : ∀ y ∈ xs, y.wf) : ∃ (r0 : List Int) (r1 : Int) (r2 : Bool), r0.length ≤ 1048576 ∧
    (∀ (B : Nat) (v : Value) (w : World), LstTask B w v xs → B ≤ w.heap.size → Calls Try.prog 22 #[v] w fun e w' => ∃ v', e = .returned (.tuple #[v', .int .i64 r1, .bool r2]) ∧ Own w.heap.size w'.heap.size w' v' 2 1 r0.length (r0.map (Value.int .i64)) ∧ Below w.heap.size w w') ∧
    (∀ (B : Nat) (v : Value) (w : World), LstTask B w v xs → B ≤ w.heap.size → Calls Try.prog 23 #[v] w fun e w' => ∃ v', e = .returned (.tuple #[v', .int .i64 r1, .bool r2]) ∧ Own w.heap.size w'.heap.size w' v' 2 1 r0.length (r0.map (Value.int .i64)) ∧ Below w.heap.size w w') :=
  ⟨earlyRes xs, earlyEnd xs, areTasks xs, earlyRes_length xs, fun B v w h hB => specEarlyStarts_any B v xs w h hB, fun B v w h hB => implEarlyStarts_any B v xs w h hB⟩
end Go.Proofs.Ytlgojbbhjhifhaa
