/- Contracts: times of events. -/
import Derived.Test.YthliapjnfcahlaaAreJobs
import Derived.Test.YthliapjnfcahlaaPost
import Derived.Test.YthliapjnfcahlaaFillI
namespace Go.Proofs.Ythliapjnfcahlaa
open Go.RowKit Go.Lst

theorem tmod_in {x p : Int} (h : 1 ≤ p) : -p < x.tmod p ∧ x.tmod p < p := by
  by_cases hx : 0 ≤ x
  · rw [Int.tmod_eq_emod_of_nonneg hx]
    have := Int.emod_nonneg x (show p ≠ 0 by omega)
    have := Int.emod_lt_of_pos x (show 0 < p by omega)
    omega
  · have e : x.tmod p = -((-x).tmod p) := by rw [Int.neg_tmod, Int.neg_neg]
    rw [e, Int.tmod_eq_emod_of_nonneg (by omega)]
    have := Int.emod_nonneg (-x) (show p ≠ 0 by omega)
    have := Int.emod_lt_of_pos (-x) (show 0 < p by omega)
    omega
/-- The remainder that is never less than 0. -/
def remG (x p : Int) : Int := x % p
theorem tm_eq {x p : Int} : (x.tmod p + p) % p = remG x p := by
  unfold remG
  have h := Int.mul_tdiv_add_tmod x p
  have e : x.tmod p + p = x + p * (1 - x.tdiv p) := by rw [Int.mul_sub, Int.mul_one]; omega
  rw [e, Int.add_mul_emod_self_left]
theorem tm_eq2 {x p : Int} (h : 1 ≤ p) : (x.tmod p + p).tmod p = remG x p := by
  have := tmod_in (x := x) h
  rw [Int.tmod_eq_emod_of_nonneg (by omega), tm_eq]
theorem remG_in {x p : Int} (h : 1 ≤ p) : 0 ≤ remG x p ∧ remG x p < p := ⟨Int.emod_nonneg _ (by omega), Int.emod_lt_of_pos _ (by omega)⟩
def okEvents (ts : List Int) (p : Int) : Bool := decide (1 ≤ ts.length) && decide (ts.length ≤ 12) && inB p 1 60 && allIn ts 0 (p - 1)
theorem okEvents_of {ts : List Int} {p : Int} (h : okEvents ts p = true) : 1 ≤ ts.length ∧ ts.length ≤ 12 ∧ 1 ≤ p ∧ p ≤ 60 ∧ ∀ (i : Nat) (x : Int), ts[i]? = some x → 0 ≤ x ∧ x ≤ p - 1 := by
  simp only [okEvents, Bool.and_eq_true, decide_eq_true_eq] at h
  exact ⟨h.1.1.1, h.1.1.2, (inB_true h.1.2).1, (inB_true h.1.2).2, fun i x hx => allIn_of h.2 hx⟩

set_option maxHeartbeats 1000000 in
theorem remainderOf_any (x p : Int) (w : World) (h1 : 1 ≤ p) (h2 : p ≤ 60) : Calls Try.prog 75 #[.int .i64 x, .int .i64 p] w fun e w' => e = .returned (.int .i64 (remG x p)) ∧ w = w' := by
  have a1 := tmod_in (x := x) h1
  have a2 := tmod_in (x := x.tmod p + p) h1
  have hp0 : ¬ p = 0 := by omega
  have hpb : (p == 0) = false := by simpa using hp0
  have hw1 : IntKind.i64.wrap (x.tmod p) = x.tmod p := IntWalk.i64_in _ (by omega)
  have hw2 : IntKind.i64.wrap (x.tmod p + p) = x.tmod p + p := IntWalk.i64_in _ (by omega)
  have hw3 : IntKind.i64.wrap ((x.tmod p + p).tmod p) = (x.tmod p + p).tmod p := IntWalk.i64_in _ (by omega)
  go_enter Try.func75, Try.ntmps75
  go_wp2_with fail
  go_ret
  exact ⟨ret_int (by first | exact tm_eq | exact tm_eq2 h1), rfl⟩
set_option maxHeartbeats 2000000 in
theorem areEventTimes_any (B : Nat) (v : Value) (ts : List Int) (p : Int) (w : World) (h : LstI B w v ts) :
    Calls Try.prog 69 #[v, .int .i64 p] w fun e w' => e = .returned (.bool (okEvents ts p)) ∧ w = w' := by
  have hA := Lib.hid (areWithin_any B v ts 0 (p - 1) w h.lst)
  obtain ⟨a, cap, rfl, hl, _⟩ := h.at_
  clear h
  have hK := Lib.hid (show okEvents ts p = (decide (1 ≤ ts.length) && decide (ts.length ≤ 12) && inB p 1 60 && allIn ts 0 (p - 1)) from rfl)
  generalize okEvents ts p = ok at *
  generalize ts.length = n at *
  unfold maxLen at hl
  by_cases h1 : 1 ≤ n
  · have d1 : decide ((1 : Int) ≤ (n : Int)) = true := decide_eq_true (by omega)
    by_cases h2 : n ≤ 12
    · have d2 : decide ((n : Int) ≤ 12) = true := decide_eq_true (by omega)
      cases h3 : inB p 1 60
      · have hk := hK.out
        rw [h3, Bool.and_false, Bool.false_and] at hk
        subst hk
        go_enter Try.func69, Try.ntmps69
        go_wp2_with (go_at_call 55; refine (isWithin_any _ _ _ _).mono ?_; rintro e w' ⟨rfl, rfl⟩)
        go_ret
        exact ⟨rfl, rfl⟩
      · have hk := hK.out
        have h4 := (inB_true h3).1
        have h5 := (inB_true h3).2
        rw [h3, decide_eq_true h1, decide_eq_true h2, Bool.true_and, Bool.true_and, Bool.true_and] at hk
        rw [← hk] at hA
        clear hk hK
        go_enter Try.func69, Try.ntmps69
        go_wp2_with (first | (go_at_call 55; refine (isWithin_any _ _ _ _).mono ?_; rintro e w' ⟨rfl, rfl⟩) | (go_at_call 57; (with_reducible refine (hA.out).mono ?_); rintro e w' ⟨rfl, rfl⟩))
        go_ret
        exact ⟨rfl, rfl⟩
    · have d2 : decide ((n : Int) ≤ 12) = false := decide_eq_false (by omega)
      have hk := hK.out
      rw [decide_eq_false h2, Bool.and_false, Bool.false_and, Bool.false_and] at hk
      subst hk
      go_enter Try.func69, Try.ntmps69
      go_wp2_with fail
      go_ret
      exact ⟨rfl, rfl⟩
  · have d1 : decide ((1 : Int) ≤ (n : Int)) = false := decide_eq_false (by omega)
    have hk := hK.out
    rw [decide_eq_false h1, Bool.false_and, Bool.false_and, Bool.false_and] at hk
    subst hk
    go_enter Try.func69, Try.ntmps69
    go_wp2_with fail
    go_ret
    exact ⟨rfl, rfl⟩
set_option maxHeartbeats 1000000 in
theorem l05Times_any (B : Nat) (v : Value) (xs : List Int) (p : Int) (w : World) (h : LstI B w v xs) (hp1 : 1 ≤ p) (hp2 : p ≤ 60) :
    Calls Try.prog 67 #[v, .int .i64 p] w fun e w' => e = .returned (.bool (allIn xs 0 (p - 1))) ∧ w = w' := by
  obtain ⟨a, cap, rfl, hl, _, _, hc⟩ := h.at_
  clear h
  have hN : Hid (∀ k, k = xs.length → (∀ i x, i < k → xs[i]? = some x → inB x 0 (p - 1) = true) → allIn xs 0 (p - 1) = true) := Lib.hid fun k hk hp => all_upto fun i x hi hx => hp i x (by omega) hx
  have hM : Hid (∀ (k : Nat) (x : Int), xs[k]? = some x → inB x 0 (p - 1) = false → allIn xs 0 (p - 1) = false) := Lib.hid fun k x hx hq => all_not hx hq
  have hC := Lib.hid hc
  clear hc
  generalize allIn xs 0 (p - 1) = q at *
  generalize xs.length = n at *
  unfold maxLen at hl
  go_enter Try.func67, Try.ntmps67
  go_wp2_with fail
  go_loopw [8] (fun i wr => ∃ k : Nat, k ≤ n ∧ i = .int .i64 k ∧ Hid (∀ i x, i < k → xs[i]? = some x → inB x 0 (p - 1) = true) ∧ wr = w) (fun i _ => n - (intOf i).toNat)
  case atStart => exact ⟨0, Nat.zero_le _, rfl, Lib.hid (fun i x hi _ => by omega), rfl⟩
  case round =>
    obtain ⟨k, hk, rfl, hP, rfl⟩ := hrel
    by_cases hlt : k < n
    · obtain ⟨b, o, x, rfl, _, hx, hcell⟩ := hC.out k hlt
      have hXx := Lib.hid hx
      clear hx
      cases hq : inB x 0 (p - 1)
      · have hF := Lib.hid (hM.out k x hXx.out hq)
        go_wp2_with (go_at_call 72; refine (l00In_any _ _ _ _).mono ?_; rintro e w' ⟨rfl, rfl⟩)
        go_ret
        exact ⟨ret_bool (by rw [hF.out]), rfl⟩
      · have hP2 : Hid (∀ i y, i < k + 1 → xs[i]? = some y → inB y 0 (p - 1) = true) := Lib.hid fun i y hi hy => by
          by_cases h1 : i < k
          · exact hP.out i y h1 hy
          · have : i = k := by omega
            subst this
            rw [hXx.out] at hy
            cases hy
            exact hq
        go_wp2_with (go_at_call 72; refine (l00In_any _ _ _ _).mono ?_; rintro e w' ⟨rfl, rfl⟩)
        go_roundw
        case rel => exact ⟨k + 1, by omega, by go_num, hP2, by trivial⟩
        case measure => simp [intOf]; omega
    · have hF := Lib.hid (hN.out k (by omega) hP.out)
      go_wp2
      go_ret
      exact ⟨ret_bool (by rw [hF.out]), rfl⟩
set_option maxHeartbeats 2000000 in
theorem l05Table_any (B : Nat) (v : Value) (ts : List Int) (p : Int) (w : World) (h : LstI B w v ts) :
    Calls Try.prog 76 #[v, .int .i64 p] w fun e w' => e = .returned (.bool (okEvents ts p)) ∧ w = w' := by
  have hA : Hid (1 ≤ p → p ≤ 60 → _) := Lib.hid fun a b => l05Times_any B v ts p w h a b
  obtain ⟨a, cap, rfl, hl, _⟩ := h.at_
  clear h
  have hK := Lib.hid (show okEvents ts p = (decide (1 ≤ ts.length) && decide (ts.length ≤ 12) && inB p 1 60 && allIn ts 0 (p - 1)) from rfl)
  generalize okEvents ts p = ok at *
  generalize ts.length = n at *
  unfold maxLen at hl
  cases h3 : inB p 1 60
  · have hk := hK.out
    rw [h3, Bool.and_false, Bool.false_and] at hk
    subst hk
    go_enter Try.func76, Try.ntmps76
    go_wp2_with (go_at_call 72; refine (l00In_any _ _ _ _).mono ?_; rintro e w' ⟨rfl, rfl⟩)
    go_ret
    exact ⟨rfl, rfl⟩
  by_cases h1 : 1 ≤ n
  · have d1 : decide ((1 : Int) ≤ (n : Int)) = true := decide_eq_true (by omega)
    by_cases h2 : n ≤ 12
    · have d2 : decide ((n : Int) ≤ 12) = true := decide_eq_true (by omega)
      have hk := hK.out
      have h4 := (inB_true h3).1
      have h5 := (inB_true h3).2
      have hA2 := hA.out h4 h5
      rw [h3, decide_eq_true h1, decide_eq_true h2, Bool.true_and, Bool.true_and, Bool.true_and] at hk
      rw [← hk] at hA2
      have hA3 := Lib.hid hA2
      clear hk hK hA hA2
      go_enter Try.func76, Try.ntmps76
      go_wp2_with (first | (go_at_call 72; refine (l00In_any _ _ _ _).mono ?_; rintro e w' ⟨rfl, rfl⟩) | (go_at_call 67; (with_reducible refine (hA3.out).mono ?_); rintro e w' ⟨rfl, rfl⟩))
      go_ret
      exact ⟨rfl, rfl⟩
    · have d2 : decide ((n : Int) ≤ 12) = false := decide_eq_false (by omega)
      have hk := hK.out
      rw [decide_eq_false h2, Bool.and_false, Bool.false_and, Bool.false_and] at hk
      subst hk
      go_enter Try.func76, Try.ntmps76
      go_wp2_with (go_at_call 72; refine (l00In_any _ _ _ _).mono ?_; rintro e w' ⟨rfl, rfl⟩)
      go_ret
      exact ⟨rfl, rfl⟩
  · have d1 : decide ((1 : Int) ≤ (n : Int)) = false := decide_eq_false (by omega)
    have hk := hK.out
    rw [decide_eq_false h1, Bool.false_and, Bool.false_and, Bool.false_and] at hk
    subst hk
    go_enter Try.func76, Try.ntmps76
    go_wp2_with (go_at_call 72; refine (l00In_any _ _ _ _).mono ?_; rintro e w' ⟨rfl, rfl⟩)
    go_ret
    exact ⟨rfl, rfl⟩
end Go.Proofs.Ythliapjnfcahlaa
