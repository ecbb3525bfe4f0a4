/- Contracts: the places of a list of integers, sorted stably by a comparison of what stands there. Conditions: fewer than 40 places. -/
import Derived.Test.YtmnogipmpojoaaaSortStable
import Derived.Test.YtmnogipmpojoaaaTrips0
namespace Go.Proofs.Ytmnogipmpojoaaa
open Go.RowKit Go.Lst Srt Go.Shelf

/-- The order of the places by a key, and by the place where the keys are alike. -/
def ltK (K : Int → Int) (x y : Int) : Bool := decide (K x < K y) || (decide (K x = K y) && decide (x < y))
theorem totK (n : Nat) (K : Int → Int) : Tot n (ltK K) := by
  refine ⟨fun x => ?_, fun x y z h1 h2 => ?_, fun x y h1 h2 => ?_⟩
  · unfold ltK; simp
  · unfold ltK at *
    simp only [Bool.or_eq_true, Bool.and_eq_true, decide_eq_true_eq] at *
    omega
  · unfold ltK at *
    simp only [Bool.or_eq_false_iff, Bool.and_eq_false_iff, decide_eq_false_iff_not] at *
    omega
theorem ltK_later (K : Int → Int) {x y : Int} (h : x < y) : ltK K y x = decide (K y < K x) := by
  unfold ltK
  rw [decide_eq_false (show ¬ y < x by omega), Bool.and_false, Bool.or_false]
def cmpV (a b : Int) : Int := if a < b then -1 else if b < a then 1 else 0
theorem cmpV_neg (a b : Int) : decide (cmpV a b < 0) = decide (a < b) := by
  unfold cmpV
  by_cases h : a < b
  · rw [if_pos h, decide_eq_true h]; rfl
  · rw [if_neg h, decide_eq_false h]
    split <;> rfl
theorem cellsF_count (n : Nat) : cellsF n (fun k => (k : Int)) = (countL n).map (Value.int .i64) := by
  unfold cellsF countL
  rw [List.map_map]; rfl
set_option maxHeartbeats 1000000 in
theorem compareI_any (a b : Int) (w : World) : Calls Try.prog 21 #[.int .i64 a, .int .i64 b] w fun e w' => e = .returned (.int .i64 (cmpV a b)) ∧ w = w' := by
  have hN : Hid (∀ (x : Int) w, Calls Try.prog 31 #[.int .i64 x] w fun e w' => e = .returned (.bool false) ∧ w = w') := Lib.hid fun x w => by
    have hx : (x != x) = false := by rw [bne_eq_false_iff_eq]
    go_enter Try.func31, Try.ntmps31
    go_wp2_with fail
    go_ret
    exact ⟨rfl, rfl⟩
  unfold cmpV
  by_cases h1 : a < b
  · rw [if_pos h1]
    go_enter Try.func21, Try.ntmps21
    go_wp2_with (go_at_call 31; refine (hN.out _ _).mono ?_; rintro e w' ⟨rfl, rfl⟩)
    go_ret
    exact ⟨rfl, rfl⟩
  · rw [if_neg h1]
    have d1 : decide (a < b) = false := decide_eq_false h1
    by_cases h2 : b < a
    · rw [if_pos h2]
      go_enter Try.func21, Try.ntmps21
      go_wp2_with (go_at_call 31; refine (hN.out _ _).mono ?_; rintro e w' ⟨rfl, rfl⟩)
      go_ret
      exact ⟨rfl, rfl⟩
    · rw [if_neg h2]
      have d2 : decide (b < a) = false := decide_eq_false h2
      go_enter Try.func21, Try.ntmps21
      go_wp2_with (go_at_call 31; refine (hN.out _ _).mono ?_; rintro e w' ⟨rfl, rfl⟩)
      go_ret
      exact ⟨rfl, rfl⟩
end Go.Proofs.Ytmnogipmpojoaaa
