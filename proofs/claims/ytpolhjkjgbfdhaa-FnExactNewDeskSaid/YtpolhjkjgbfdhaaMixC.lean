/- Contracts: counts of models; how far each model is behind an even order. -/
import Derived.Test.YtpolhjkjgbfdhaaEvenPure
import Derived.Test.YtpolhjkjgbfdhaaPost
import Derived.Test.YtpolhjkjgbfdhaaMake
namespace Go.Proofs.Ytpolhjkjgbfdhaa
open Go.RowKit Go.Lst

set_option maxHeartbeats 1000000 in
theorem areCounts_any (B : Nat) (v : Value) (cs : List Int) (w : World) (h : LstI B w v cs) :
    Calls Try.prog 38 #[v] w fun e w' => e = .returned (.bool (okCounts cs)) ∧ w = w' := by
  have hA := Lib.hid (areWithin_any B v cs 0 16 w h.lst)
  have hS : Hid (cs.length ≤ 8 → allIn cs 0 16 = true → Calls Try.prog 68 #[v] w fun e w' => e = .returned (.int .i64 (sumTo cs cs.length)) ∧ w = w') := Lib.hid fun a b => sumOf_any B v cs w h (counts_sums a b) (fun i x hx => by have := allIn_of b hx; omega)
  obtain ⟨a, cap, rfl, hl, _⟩ := h.at_
  unfold okCounts
  clear h
  generalize allIn cs 0 16 = q at *
  generalize sumTo cs cs.length = z at *
  generalize cs.length = n at *
  unfold maxLen at hl
  by_cases h1 : 1 ≤ n
  · by_cases h2 : n ≤ 8
    · rw [decide_eq_true h1, decide_eq_true h2, Bool.true_and, Bool.true_and]
      cases q
      · go_enter Try.func38, Try.ntmps38
        go_wp2_with (go_at_call 53; (with_reducible refine (hA.out).mono ?_); rintro e w' ⟨rfl, rfl⟩)
        go_ret
        exact ⟨rfl, rfl⟩
      · have hS2 := Lib.hid (hS.out h2 rfl)
        rw [Bool.true_and]
        go_enter Try.func38, Try.ntmps38
        go_wp2_with (first | (go_at_call 53; (with_reducible refine (hA.out).mono ?_); rintro e w' ⟨rfl, rfl⟩) | (go_at_call 68; (with_reducible refine (hS2.out).mono ?_); rintro e w' ⟨rfl, rfl⟩) | (go_at_call 67; (with_reducible refine (isWithin_any _ _ _ _).mono ?_); rintro e w' ⟨rfl, rfl⟩))
        go_ret
        exact ⟨rfl, rfl⟩
    · rw [decide_eq_false h2, Bool.and_false]
      have h3 : 8 < n := by omega
      clear h2
      go_enter Try.func38, Try.ntmps38
      go_wp2_with fail
      go_ret
      exact ⟨rfl, rfl⟩
  · rw [decide_eq_false h1]
    have h3 : n < 1 := by omega
    clear h1
    go_enter Try.func38, Try.ntmps38
    go_wp2_with fail
    go_ret
    exact ⟨rfl, rfl⟩
set_option maxHeartbeats 2000000 in
theorem l04Counts_any (B : Nat) (v : Value) (cs : List Int) (w : World) (h : LstI B w v cs) :
    Calls Try.prog 64 #[v] w fun e w' => e = .returned (.bool (okCounts cs)) ∧ w = w' := by
  have hS : Hid (cs.length ≤ 8 → allIn cs 0 16 = true → Calls Try.prog 81 #[v] w fun e w' => e = .returned (.int .i64 (sumTo cs cs.length)) ∧ w = w') := Lib.hid fun a b => l02Sum_any B v cs 0 w h (counts_sums a b) (fun i x hx => by have := allIn_of b hx; omega)
  obtain ⟨a, cap, rfl, hl, _, _, hc⟩ := h.at_
  have hN : Hid (∀ k, k = cs.length → (∀ i x, i < k → cs[i]? = some x → inB x 0 16 = true) → allIn cs 0 16 = true) := Lib.hid fun k hk hp => by
    unfold allIn
    exact all_upto fun i x hi hx => hp i x (by omega) hx
  have hM : Hid (∀ (i : Nat) (x : Int), cs[i]? = some x → inB x 0 16 = false → okCounts cs = false) := Lib.hid fun i x hx hq => by
    unfold okCounts allIn
    rw [all_not hx hq, Bool.and_false]; rfl
  have hE : Hid (okCounts cs = (decide (1 ≤ cs.length) && decide (cs.length ≤ 8) && allIn cs 0 16 && inB (sumTo cs cs.length) 1 64)) := Lib.hid rfl
  have hC := Lib.hid hc
  clear hc h
  generalize allIn cs 0 16 = q at *
  generalize sumTo cs cs.length = z at *
  generalize cs.length = n at *
  unfold maxLen at hl
  go_enter Try.func64, Try.ntmps64
  go_wp2_with fail
  go_loopw [3] (fun i wr => ∃ k : Nat, k ≤ n ∧ i = .int .i64 k ∧ Hid (∀ i x, i < k → cs[i]? = some x → inB x 0 16 = true) ∧ wr = w) (fun i _ => n - (intOf i).toNat)
  case atStart => exact ⟨0, Nat.zero_le _, rfl, Lib.hid (fun i x hi _ => by omega), rfl⟩
  case round =>
    obtain ⟨k, hk, rfl, hP, rfl⟩ := hrel
    by_cases hlt : k < n
    · obtain ⟨b, o, x, rfl, _, hx, hcell⟩ := hC.out k hlt
      have hXx := Lib.hid hx
      clear hx
      cases hq : inB x 0 16
      · have hF := Lib.hid (hM.out k x hXx.out hq)
        go_wp2_with (go_at_call 51; (with_reducible refine (l00In_any _ _ _ _).mono ?_); rintro e w' ⟨rfl, rfl⟩)
        go_ret
        exact ⟨ret_bool (by rw [hF.out]), rfl⟩
      · have hP2 : Hid (∀ i y, i < k + 1 → cs[i]? = some y → inB y 0 16 = true) := Lib.hid fun i y hi hy => by
          by_cases h1 : i < k
          · exact hP.out i y h1 hy
          · have : i = k := by omega
            subst this
            rw [hXx.out] at hy
            cases hy
            exact hq
        go_wp2_with (go_at_call 51; (with_reducible refine (l00In_any _ _ _ _).mono ?_); rintro e w' ⟨rfl, rfl⟩)
        go_roundw
        case rel => exact ⟨k + 1, by omega, by go_num, hP2, by trivial⟩
        case measure => simp [intOf]; omega
    · obtain rfl : q = true := hN.out k (by omega) hP.out
      by_cases h1 : 1 ≤ n
      · by_cases h2 : n ≤ 8
        · have hS2 := Lib.hid (hS.out h2 rfl)
          have hV := Lib.hid (show okCounts cs = inB z 1 64 by rw [hE.out, decide_eq_true h1, decide_eq_true h2]; rfl)
          have hd1 : decide (1 ≤ (n : Int)) = true := by simp; omega
          have hd2 : decide ((n : Int) ≤ 8) = true := by simp; omega
          clear hS hE hM hN hP
          go_wp2_with (first | (go_at_call 81; (with_reducible refine (hS2.out).mono ?_); rintro e w' ⟨rfl, rfl⟩) | (go_at_call 51; (with_reducible refine (l00In_any _ _ _ _).mono ?_); rintro e w' ⟨rfl, rfl⟩))
          go_ret
          exact ⟨ret_bool (by rw [hV.out]), rfl⟩
        · have hV := Lib.hid (show okCounts cs = false by rw [hE.out, decide_eq_false h2]; simp)
          have hd1 : decide (1 ≤ (n : Int)) = true := by simp; omega
          have hd2 : decide ((n : Int) ≤ 8) = false := by simp; omega
          clear hS hE hM hN hP h2
          go_wp2_with fail
          go_ret
          exact ⟨ret_bool (by rw [hV.out]), rfl⟩
      · have hV := Lib.hid (show okCounts cs = false by rw [hE.out, decide_eq_false h1]; simp)
        have hd1 : decide (1 ≤ (n : Int)) = false := by simp; omega
        clear hS hE hM hN hP h1
        go_wp2_with fail
        go_ret
        exact ⟨ret_bool (by rw [hV.out]), rfl⟩
/-- How far the first i models are behind an even order at the place k. -/
def byL (cs b : List Int) (n k : Int) (i : Nat) : List Int := (List.range i).map (byAt cs b n k)
theorem byL_length (cs b : List Int) (n k : Int) (i : Nat) : (byL cs b n k i).length = i := by simp [byL]
theorem byL_succ (cs b : List Int) (n k : Int) (i : Nat) : byL cs b n k (i + 1) = byL cs b n k i ++ [byAt cs b n k i] := by unfold byL; rw [List.range_succ, List.map_append]; rfl
theorem byL_getD (cs b : List Int) (n k : Int) (m i : Nat) (h : i < m) : (byL cs b n k m).getD i 0 = byAt cs b n k i := by
  unfold byL
  rw [List.getD_eq_getElem?_getD, List.getElem?_map, List.getElem?_range h]; rfl
def byIn (cs b : List Int) (n k : Int) (m i : Nat) : List Int := byL cs b n k i ++ List.replicate (m - i) 0
theorem byIn_length (cs b : List Int) (n k : Int) {m i : Nat} (h : i ≤ m) : (byIn cs b n k m i).length = m := by unfold byIn; rw [List.length_append, byL_length, List.length_replicate]; omega
theorem byIn_step (cs b : List Int) (n k : Int) {m i : Nat} (h : i < m) : (byIn cs b n k m i).set i (byAt cs b n k i) = byIn cs b n k m (i + 1) := by
  obtain ⟨q, hq⟩ : ∃ q, m - i = q + 1 := ⟨m - i - 1, by omega⟩
  unfold byIn
  rw [hq, show m - (i + 1) = q by omega, List.replicate_succ, List.set_append_right _ _ (by rw [byL_length]; exact Nat.le_refl _), byL_length, Nat.sub_self, List.set_cons_zero, byL_succ]
  simp
theorem byIn_full (cs b : List Int) (n k : Int) (m : Nat) : byIn cs b n k m m = byL cs b n k m := by unfold byIn; rw [Nat.sub_self]; simp
theorem byIn_zero (cs b : List Int) (n k : Int) (m : Nat) : byIn cs b n k m 0 = List.replicate m 0 := by unfold byIn byL; simp
end Go.Proofs.Ytpolhjkjgbfdhaa
