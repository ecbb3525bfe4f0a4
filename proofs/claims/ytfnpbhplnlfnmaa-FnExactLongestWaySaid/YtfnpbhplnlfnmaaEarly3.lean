/- Contracts: EarlyStarts as a whole. -/
import Derived.Test.YtfnpbhplnlfnmaaEarly2
namespace Go.Proofs.Ytfnpbhplnlfnmaa
open Go.RowKit Go.Lst

def earlyRes (xs : List TaskD) : List Int := if areTasks xs then early xs else []
def earlyEnd (xs : List TaskD) : Int := if areTasks xs then endOf xs (early xs) else 0
theorem areTasks_fit {xs : List TaskD} (h : areTasks xs = true) : Fit xs := (areTasks_iff.1 h).fit
theorem earlyRes_length (xs : List TaskD) : (earlyRes xs).length ≤ 1048576 := by
  unfold earlyRes
  split
  · rename_i h; rw [early_length]; have := (areTasks_fit h).most; omega
  · simp
theorem early_own {A B n : Nat} {w : World} {v : Value} {st : List Int} (h : Own A B w v 2 1 n (st.map (Value.int .i64))) (hl : st.length = n) : Own A B w v 2 1 st.length (st.map (Value.int .i64)) := by
  subst hl; exact h
def EarlyPost (xs : List TaskD) (w : World) (e : Ending) (w' : World) : Prop :=
  ∃ v', e = .returned (.tuple #[v', .int .i64 (earlyEnd xs), .bool (areTasks xs)]) ∧ Own w.heap.size w'.heap.size w' v' 2 1 (earlyRes xs).length ((earlyRes xs).map (Value.int .i64)) ∧ Below w.heap.size w w'
set_option maxHeartbeats 1000000 in
theorem implEarlyStarts_any (B : Nat) (v : Value) (xs : List TaskD) (w : World) (h : LstTask B w v xs) (hB : B ≤ w.heap.size) : Calls Try.prog 22 #[v] w (EarlyPost xs w) := by
  have hA := Lib.hid (areTasks_any B v xs w h hB)
  unfold EarlyPost earlyRes earlyEnd
  cases hq : areTasks xs
  · rw [hq] at hA
    rw [if_neg (by simp), if_neg (by simp)]
    clear hq h
    go_enter Try.func22, Try.ntmps22
    go_wp2_with fail
    refine (hA.out).mono ?_
    rintro e w1 ⟨rfl, hb1⟩
    have hB1 := Lib.hid hb1
    clear hb1
    go_wp2_with fail
    go_ret3
    exact ⟨_, rfl, own_nil, hB1.out⟩
  · rw [hq] at hA
    rw [if_pos rfl, if_pos rfl]
    have hF := Lib.hid (areTasks_fit hq)
    have hL := Lib.hid h
    obtain ⟨a, cap, rfl, _⟩ := h
    clear hq
    go_enter Try.func22, Try.ntmps22
    go_wp2_with fail
    refine (hA.out).mono ?_
    rintro e w1 ⟨rfl, hb1⟩
    have hB1 := Lib.hid hb1
    clear hb1
    go_wp2_with fail
    refine (earliest_any B _ xs w1 (hL.out.below hB1.out hB) (Nat.le_trans hB hB1.out.size) hF.out).mono ?_
    rintro e w2 ⟨v2, rfl, ho2, hb2⟩
    have hO2 := Lib.hid ((early_own ho2 (early_length xs)).mono hB1.out.size (Nat.le_refl _))
    have hB2 := Lib.hid (below_on hB1.out (Nat.le_refl _) hb2)
    clear ho2 hb2 hB1
    go_wp2_with fail
    go_ret3
    exact ⟨_, rfl, hO2.out, hB2.out⟩
end Go.Proofs.Ytfnpbhplnlfnmaa
