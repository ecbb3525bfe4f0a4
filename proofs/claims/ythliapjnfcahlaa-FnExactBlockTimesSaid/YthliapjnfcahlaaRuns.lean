/- Contracts: runs of blocks. -/
import Derived.Test.YthliapjnfcahlaaAreJobs
import Derived.Test.YthliapjnfcahlaaPost
namespace Go.Proofs.Ythliapjnfcahlaa
open Go.RowKit Go.Lst

def okRuns (xs : List Int) : Bool := decide (1 ≤ xs.length) && decide (xs.length ≤ 12) && allIn xs 0 1000
theorem okRuns_of {xs : List Int} (h : okRuns xs = true) : 1 ≤ xs.length ∧ xs.length ≤ 12 ∧ ∀ (i : Nat) (x : Int), xs[i]? = some x → 0 ≤ x ∧ x ≤ 1000 := by
  simp only [okRuns, Bool.and_eq_true, decide_eq_true_eq] at h
  exact ⟨h.1.1, h.1.2, fun i x hx => allIn_of h.2 hx⟩
set_option maxHeartbeats 2000000 in
theorem areRuns_any (B : Nat) (v : Value) (xs : List Int) (w : World) (h : LstI B w v xs) :
    Calls Try.prog 82 #[v] w fun e w' => e = .returned (.bool (okRuns xs)) ∧ w = w' := by
  have hA := Lib.hid (areWithin_any B v xs 0 1000 w h.lst)
  obtain ⟨a, cap, rfl, hl, _⟩ := h.at_
  clear h
  have hK := Lib.hid (show okRuns xs = (decide (1 ≤ xs.length) && decide (xs.length ≤ 12) && allIn xs 0 1000) from rfl)
  generalize okRuns xs = ok at *
  generalize xs.length = n at *
  unfold maxLen at hl
  by_cases h1 : 1 ≤ n
  · have d1 : decide ((1 : Int) ≤ (n : Int)) = true := decide_eq_true (by omega)
    by_cases h2 : n ≤ 12
    · have d2 : decide ((n : Int) ≤ 12) = true := decide_eq_true (by omega)
      have hk := hK.out
      rw [decide_eq_true h1, decide_eq_true h2, Bool.true_and, Bool.true_and] at hk
      rw [← hk] at hA
      clear hk hK
      go_enter Try.func82, Try.ntmps82
      go_wp2_with (go_at_call 57; (with_reducible refine (hA.out).mono ?_); rintro e w' ⟨rfl, rfl⟩)
      go_ret
      exact ⟨rfl, rfl⟩
    · have d2 : decide ((n : Int) ≤ 12) = false := decide_eq_false (by omega)
      have hk := hK.out
      rw [decide_eq_false h2, Bool.and_false, Bool.false_and] at hk
      subst hk
      go_enter Try.func82, Try.ntmps82
      go_wp2_with fail
      go_ret
      exact ⟨rfl, rfl⟩
  · have d1 : decide ((1 : Int) ≤ (n : Int)) = false := decide_eq_false (by omega)
    have hk := hK.out
    rw [decide_eq_false h1, Bool.false_and, Bool.false_and] at hk
    subst hk
    go_enter Try.func82, Try.ntmps82
    go_wp2_with fail
    go_ret
    exact ⟨rfl, rfl⟩
set_option maxHeartbeats 2000000 in
theorem l05Runs_any (B : Nat) (v : Value) (xs : List Int) (w : World) (h : LstI B w v xs) :
    Calls Try.prog 80 #[v] w fun e w' => e = .returned (.bool (okRuns xs)) ∧ w = w' := by
  obtain ⟨a, cap, rfl, hl, _, _, hc⟩ := h.at_
  clear h
  have hN : Hid (∀ k, k = xs.length → (∀ i x, i < k → xs[i]? = some x → inB x 0 1000 = true) → okRuns xs = (decide (1 ≤ xs.length) && decide (xs.length ≤ 12))) := Lib.hid fun k hk hp => by
    unfold okRuns
    rw [show allIn xs 0 1000 = true from all_upto fun i x hi hx => hp i x (by omega) hx, Bool.and_true]
  have hM : Hid (∀ (k : Nat) (x : Int), xs[k]? = some x → inB x 0 1000 = false → okRuns xs = false) := Lib.hid fun k x hx hq => by
    unfold okRuns
    rw [show allIn xs 0 1000 = false from all_not hx hq, Bool.and_false]
  have hC := Lib.hid hc
  clear hc
  generalize okRuns xs = q at *
  generalize xs.length = n at *
  unfold maxLen at hl
  go_enter Try.func80, Try.ntmps80
  go_wp2_with fail
  go_loopw [6] (fun i wr => ∃ k : Nat, k ≤ n ∧ i = .int .i64 k ∧ Hid (∀ i x, i < k → xs[i]? = some x → inB x 0 1000 = true) ∧ wr = w) (fun i _ => n - (intOf i).toNat)
  case atStart => exact ⟨0, Nat.zero_le _, rfl, Lib.hid (fun i x hi _ => by omega), rfl⟩
  case round =>
    obtain ⟨k, hk, rfl, hP, rfl⟩ := hrel
    by_cases hlt : k < n
    · obtain ⟨b, o, x, rfl, _, hx, hcell⟩ := hC.out k hlt
      have hXx := Lib.hid hx
      clear hx
      cases hq : inB x 0 1000
      · have hF := Lib.hid (hM.out k x hXx.out hq)
        go_wp2_with (go_at_call 72; refine (l00In_any _ _ _ _).mono ?_; rintro e w' ⟨rfl, rfl⟩)
        go_ret
        exact ⟨ret_bool (by rw [hF.out]), rfl⟩
      · have hP2 : Hid (∀ i y, i < k + 1 → xs[i]? = some y → inB y 0 1000 = true) := Lib.hid fun i y hi hy => by
          by_cases h1 : i < k
          · exact hP.out i y h1 hy
          · have : i = k := by omega
            subst this
            rw [hXx.out] at hy
            cases hy
            exact hq
        go_wp2_with (go_at_call 72; refine (l00In_any _ _ _ _).mono ?_; rintro e w' ⟨rfl, rfl⟩)
        go_roundw
        case rel => exact ⟨k + 1, by omega, by go_num, hP2, by trivial⟩
        case measure => simp [intOf]; omega
    · have hF := Lib.hid (hN.out k (by omega) hP.out)
      by_cases h1 : 1 ≤ n
      · have d1 : decide ((1 : Int) ≤ (n : Int)) = true := decide_eq_true (by omega)
        by_cases h2 : n ≤ 12
        · have d2 : decide ((n : Int) ≤ 12) = true := decide_eq_true (by omega)
          go_wp2
          go_ret
          exact ⟨ret_bool (by rw [hF.out, decide_eq_true h1, decide_eq_true h2]; rfl), rfl⟩
        · have d2 : decide ((n : Int) ≤ 12) = false := decide_eq_false (by omega)
          go_wp2
          go_ret
          exact ⟨ret_bool (by rw [hF.out, decide_eq_false h2, Bool.and_false]), rfl⟩
      · have d1 : decide ((1 : Int) ≤ (n : Int)) = false := decide_eq_false (by omega)
        go_wp2
        go_ret
        exact ⟨ret_bool (by rw [hF.out, decide_eq_false h1, Bool.false_and]), rfl⟩
end Go.Proofs.Ythliapjnfcahlaa
