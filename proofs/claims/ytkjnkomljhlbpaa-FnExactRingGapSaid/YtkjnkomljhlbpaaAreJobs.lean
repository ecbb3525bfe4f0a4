/- Contracts: which lists are jobs. -/
import Derived.Test.YtkjnkomljhlbpaaRowJob
namespace Go.Proofs.Ytkjnkomljhlbpaa
open Go.RowKit Go.Lst

/-- n is from lo to hi. -/
def inB (n lo hi : Int) : Bool := decide (lo ≤ n ∧ n ≤ hi)
theorem inB_true {n lo hi : Int} (h : inB n lo hi = true) : lo ≤ n ∧ n ≤ hi := by simpa [inB] using h
theorem inB_false {n lo hi : Int} (h : inB n lo hi = false) : n < lo ∨ hi < n := by
  have : ¬ (lo ≤ n ∧ n ≤ hi) := by simpa only [inB, decide_eq_false_iff_not] using h
  omega

theorem ret_bool {p q : Bool} (h : p = q) : Ending.returned (.bool p) = .returned (.bool q) := by rw [h]
theorem getD_of {ts : List Int} {k : Nat} {x : Int} (h : ts[k]? = some x) : ts.getD k 0 = x := by rw [List.getD_eq_getElem?_getD, h]; rfl
theorem ret_ib {p q : Int} {b : Bool} (h : p = q) : Ending.returned (.tuple #[.int .i64 p, .bool b]) = .returned (.tuple #[.int .i64 q, .bool b]) := by rw [h]
theorem ret_int {p q : Int} (h : p = q) : Ending.returned (.int .i64 p) = .returned (.int .i64 q) := by rw [h]

theorem l00In_any (n lo hi : Int) (w : World) : Calls Try.prog 14 #[.int .i64 n, .int .i64 lo, .int .i64 hi] w fun e w' => e = .returned (.bool (inB n lo hi)) ∧ w = w' := by
  cases h : inB n lo hi
  · exact l00In_no n lo hi (inB_false h) w
  · exact l00In_yes n lo hi (inB_true h).1 (inB_true h).2 w
theorem l00In_is {q : Bool} (n lo hi : Int) (h : inB n lo hi = q) (w : World) : Calls Try.prog 14 #[.int .i64 n, .int .i64 lo, .int .i64 hi] w fun e w' => e = .returned (.bool q) ∧ w = w' := by
  rw [← h]; exact l00In_any n lo hi w
set_option maxHeartbeats 400000 in
theorem isWithin_any (n lo hi : Int) (w : World) : Calls Try.prog 22 #[.int .i64 n, .int .i64 lo, .int .i64 hi] w fun e w' => e = .returned (.bool (inB n lo hi)) ∧ w = w' := by
  by_cases h1 : lo ≤ n
  · by_cases h2 : n ≤ hi
    · have hv : inB n lo hi = true := by simp [inB, h1, h2]
      rw [hv]
      clear hv
      go_enter Try.func22, Try.ntmps22
      go_wp2
      go_ret
      exact ⟨rfl, rfl⟩
    · have hv : inB n lo hi = false := by simp [inB]; omega
      have h3 : decide (n ≤ hi) = false := by simpa using h2
      rw [hv]
      clear hv
      go_enter Try.func22, Try.ntmps22
      go_wp2
      go_ret
      exact ⟨rfl, rfl⟩
  · have hv : inB n lo hi = false := by simp [inB]; omega
    have h3 : decide (lo ≤ n) = false := by simpa using h1
    rw [hv]
    clear hv
    go_enter Try.func22, Try.ntmps22
    go_wp2
    go_ret
    exact ⟨rfl, rfl⟩
/-- All numbers are from lo to hi. -/
def allIn (xs : List Int) (lo hi : Int) : Bool := xs.all fun x => inB x lo hi
theorem allIn_of {xs : List Int} {lo hi : Int} (h : allIn xs lo hi = true) {i : Nat} {x : Int} (hx : xs[i]? = some x) : lo ≤ x ∧ x ≤ hi :=
  inB_true (List.all_eq_true.1 h x (List.mem_of_getElem? hx))
theorem all_upto {α : Type} {p : α → Bool} {xs : List α} (h : ∀ i x, i < xs.length → xs[i]? = some x → p x = true) : xs.all p = true :=
  List.all_eq_true.2 fun x hx => by
    obtain ⟨i, hi, rfl⟩ := List.mem_iff_getElem.1 hx
    exact h i _ hi (List.getElem?_eq_getElem hi)
theorem all_not {α : Type} {p : α → Bool} {xs : List α} {i : Nat} {x : α} (hx : xs[i]? = some x) (h : p x = false) : xs.all p = false := by
  cases ha : xs.all p
  · rfl
  · rw [List.all_eq_true.1 ha x (List.mem_of_getElem? hx)] at h; cases h

set_option maxHeartbeats 1000000 in
theorem areWithin_any (B : Nat) (v : Value) (xs : List Int) (lo hi : Int) (w : World) (h : Lst B w v (xs.map (Value.int .i64))) :
    Calls Try.prog 24 #[v, .int .i64 lo, .int .i64 hi] w fun e w' => e = .returned (.bool (allIn xs lo hi)) ∧ w = w' := by
  obtain ⟨a, cap, rfl, hl, hc⟩ := h
  rw [List.length_map] at hl ⊢
  have hX : Hid (∀ k, k < xs.length → ∃ b o x, a = some ⟨b, o, none⟩ ∧ w.cell? ⟨b, o + k, none⟩ = some (.int .i64 x) ∧ xs[k]? = some x) := Lib.hid fun k hk => by
    obtain ⟨b, o, ha, _, hb⟩ := hc (by intro h0; simp at h0; rw [h0] at hk; simp at hk)
    have e1 : xs[k]? = some xs[k] := List.getElem?_eq_getElem _
    exact ⟨b, o, xs[k], ha, hb k _ (by rw [List.getElem?_map, e1]; rfl), e1⟩
  clear hc
  have hN : Hid (∀ k, k = xs.length → (∀ i x, i < k → xs[i]? = some x → inB x lo hi = true) → allIn xs lo hi = true) := Lib.hid fun k hk hp => all_upto fun i x hi hx => hp i x (by omega) hx
  generalize xs.length = n at *
  unfold maxLen at hl
  go_enter Try.func24, Try.ntmps24
  go_wp2
  go_loopw [11] (fun i wr => ∃ k : Nat, k ≤ n ∧ i = .int .i64 k ∧ Hid (∀ i x, i < k → xs[i]? = some x → inB x lo hi = true) ∧ wr = w) (fun i _ => n - (intOf i).toNat)
  case atStart => exact ⟨0, Nat.zero_le _, rfl, Lib.hid (fun i x hi _ => by omega), rfl⟩
  case round =>
    obtain ⟨k, hk, rfl, hP, rfl⟩ := hrel
    by_cases hlt : k < n
    · obtain ⟨b, o, x, rfl, hcell, hx⟩ := hX.out k hlt
      have hXx := Lib.hid hx
      clear hx
      cases hq : inB x lo hi
      · have hF := Lib.hid (show allIn xs lo hi = false from all_not hXx.out hq)
        go_wp2_with (go_at_call 22; refine (isWithin_any _ _ _ _).mono ?_; rintro e w' ⟨rfl, rfl⟩)
        go_ret
        exact ⟨by rw [hF.out]; rfl, rfl⟩
      · have hP2 : Hid (∀ i y, i < k + 1 → xs[i]? = some y → inB y lo hi = true) := Lib.hid fun i y hi hy => by
          by_cases h1 : i < k
          · exact hP.out i y h1 hy
          · have : i = k := by omega
            subst this
            rw [hXx.out] at hy
            cases hy
            exact hq
        go_wp2_with (go_at_call 22; refine (isWithin_any _ _ _ _).mono ?_; rintro e w' ⟨rfl, rfl⟩)
        go_roundw
        case rel => exact ⟨k + 1, by omega, by go_num, hP2, by trivial⟩
        case measure => simp [intOf]; omega
    · have hF := Lib.hid (hN.out k (by omega) hP.out)
      go_wp2
      go_ret
      exact ⟨by rw [hF.out]; rfl, rfl⟩




end Go.Proofs.Ytkjnkomljhlbpaa
