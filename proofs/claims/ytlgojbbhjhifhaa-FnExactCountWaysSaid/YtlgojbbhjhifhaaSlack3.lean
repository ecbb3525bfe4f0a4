/- Contracts: SlackOf as a whole. -/
import Derived.Test.YtlgojbbhjhifhaaSlack2
namespace Go.Proofs.Ytlgojbbhjhifhaa
open Go.RowKit Go.Lst

def slackRes (xs : List TaskD) : List Int := if areTasks xs then slackOf xs else []
theorem slackOf_length (xs : List TaskD) : (slackOf xs).length = xs.length := fill_length _ _
theorem slackRes_length (xs : List TaskD) : (slackRes xs).length ≤ 1048576 := by
  unfold slackRes
  split
  · rename_i h; rw [slackOf_length]; have := (areTasks_fit h).most; omega
  · simp
/-- A list and whether it is told. -/
def ListPost (r0 : List Int) (r1 : Bool) (w : World) (e : Ending) (w' : World) : Prop :=
  ∃ v', e = .returned (.tuple #[v', .bool r1]) ∧ Own w.heap.size w'.heap.size w' v' 2 1 r0.length (r0.map (Value.int .i64)) ∧ Below w.heap.size w w'
set_option maxHeartbeats 1000000 in
theorem specSlackOf_any (B : Nat) (v : Value) (xs : List TaskD) (w : World) (h : LstTask B w v xs) (hB : B ≤ w.heap.size) : Calls Try.prog 30 #[v] w (ListPost (slackRes xs) (areTasks xs) w) := by
  have hA := Lib.hid (l03Are_any B v xs w h)
  unfold ListPost slackRes
  cases hq : areTasks xs
  · rw [hq] at hA
    rw [if_neg (by simp)]
    clear hq h
    go_enter Try.func30, Try.ntmps30
    go_wp2_with fail
    refine (hA.out).mono ?_
    rintro e w1 ⟨m, rfl, rfl⟩
    go_wp2_with fail
    go_ret2
    exact ⟨_, rfl, own_nil, below_drawn _ _⟩
  · rw [hq] at hA
    rw [if_pos rfl]
    have hF := Lib.hid (areTasks_fit hq)
    have hL := Lib.hid h
    obtain ⟨a, cap, rfl, _⟩ := h
    clear hq
    go_enter Try.func30, Try.ntmps30
    go_wp2_with fail
    refine (hA.out).mono ?_
    rintro e w1 ⟨m, rfl, rfl⟩
    have hB1 := Lib.hid (below_drawn w m)
    generalize w.drewN m = w1 at *
    go_wp2_with fail
    refine (l03Slack_any B _ xs w1 (hL.out.below hB1.out hB) (Nat.le_trans hB hB1.out.size) hF.out).mono ?_
    rintro e w2 ⟨v2, rfl, ho2, hb2⟩
    have hO2 := Lib.hid ((early_own ho2 (slackOf_length xs)).mono hB1.out.size (Nat.le_refl _))
    have hB2 := Lib.hid (below_on hB1.out (Nat.le_refl _) hb2)
    clear ho2 hb2 hB1
    go_wp2_with fail
    go_ret2
    exact ⟨_, rfl, hO2.out, hB2.out⟩
set_option maxHeartbeats 1000000 in
theorem implSlackOf_any (B : Nat) (v : Value) (xs : List TaskD) (w : World) (h : LstTask B w v xs) (hB : B ≤ w.heap.size) : Calls Try.prog 31 #[v] w (ListPost (slackRes xs) (areTasks xs) w) := by
  have hA := Lib.hid (areTasks_any B v xs w h hB)
  unfold ListPost slackRes
  cases hq : areTasks xs
  · rw [hq] at hA
    rw [if_neg (by simp)]
    clear hq h
    go_enter Try.func31, Try.ntmps31
    go_wp2_with fail
    refine (hA.out).mono ?_
    rintro e w1 ⟨rfl, hb1⟩
    have hB1 := Lib.hid hb1
    clear hb1
    go_wp2_with fail
    go_ret2
    exact ⟨_, rfl, own_nil, hB1.out⟩
  · rw [hq] at hA
    rw [if_pos rfl]
    have hF := Lib.hid (areTasks_fit hq)
    have hL := Lib.hid h
    obtain ⟨a, cap, rfl, _⟩ := h
    clear hq
    go_enter Try.func31, Try.ntmps31
    go_wp2_with fail
    refine (hA.out).mono ?_
    rintro e w1 ⟨rfl, hb1⟩
    have hB1 := Lib.hid hb1
    clear hb1
    go_wp2_with fail
    refine (slacks_any B _ xs w1 (hL.out.below hB1.out hB) (Nat.le_trans hB hB1.out.size) hF.out).mono ?_
    rintro e w2 ⟨v2, rfl, ho2, hb2⟩
    have hO2 := Lib.hid ((early_own ho2 (slackOf_length xs)).mono hB1.out.size (Nat.le_refl _))
    have hB2 := Lib.hid (below_on hB1.out (Nat.le_refl _) hb2)
    clear ho2 hb2 hB1
    go_wp2_with fail
    go_ret2
    exact ⟨_, rfl, hO2.out, hB2.out⟩
theorem slackOf_both (xs : List TaskD) (_ : ∀ y ∈ xs, y.wf) : ∃ (r0 : List Int) (r1 : Bool), r0.length ≤ 1048576 ∧
    (∀ (B : Nat) (v : Value) (w : World), LstTask B w v xs → B ≤ w.heap.size → Calls Try.prog 30 #[v] w fun e w' => ∃ v', e = .returned (.tuple #[v', .bool r1]) ∧ Own w.heap.size w'.heap.size w' v' 2 1 r0.length (r0.map (Value.int .i64)) ∧ Below w.heap.size w w') ∧
    (∀ (B : Nat) (v : Value) (w : World), LstTask B w v xs → B ≤ w.heap.size → Calls Try.prog 31 #[v] w fun e w' => ∃ v', e = .returned (.tuple #[v', .bool r1]) ∧ Own w.heap.size w'.heap.size w' v' 2 1 r0.length (r0.map (Value.int .i64)) ∧ Below w.heap.size w w') :=
  ⟨slackRes xs, areTasks xs, slackRes_length xs, fun B v w h hB => specSlackOf_any B v xs w h hB, fun B v w h hB => implSlackOf_any B v xs w h hB⟩
end Go.Proofs.Ytlgojbbhjhifhaa
