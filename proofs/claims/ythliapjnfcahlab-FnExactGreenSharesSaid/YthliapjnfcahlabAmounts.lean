/- Contracts: lists of finite float32 numbers of at least 0, in the program. -/
import Derived.Test.YthliapjnfcahlabSum
import Derived.Test.YthliapjnfcahlabFin
namespace Go.Proofs.Ythliapjnfcahlab
open Go.RowKit Go.Lst FloatKit

def ltz (x : Nat) : Bool := Ieee.single.order x 0 == some .lt
def badF (x : Nat) : Bool := !finite Ieee.single x || ltz x
theorem ret_b {p q : Bool} (h : p = q) : Ending.returned (.bool p) = .returned (.bool q) := by rw [h]
/-- 1 to n finite numbers of at least 0. -/
def okA (n : Nat) (xs : List Nat) : Bool := decide (1 ≤ xs.length) && decide (xs.length ≤ n) && !xs.any badF
theorem okA_bad {n : Nat} {xs : List Nat} {k x : Nat} (hx : xs[k]? = some x) (h : badF x = true) : okA n xs = false := by
  unfold okA
  rw [List.any_eq_true.2 ⟨x, List.mem_of_getElem? hx, h⟩]
  simp
theorem any_good {xs : List Nat} {k : Nat} (hk : k = xs.length) (h : ∀ i x : Nat, i < k → xs[i]? = some x → badF x = false) : xs.any badF = false := by
  rw [List.any_eq_false]
  intro x hx
  obtain ⟨i, hi, rfl⟩ := List.mem_iff_getElem.1 hx
  simp [h i _ (by omega) (List.getElem?_eq_getElem hi)]
theorem okA_good {n : Nat} {xs : List Nat} {k : Nat} (hk : k = xs.length) (h : ∀ i x : Nat, i < k → xs[i]? = some x → badF x = false) : okA n xs = (decide (1 ≤ k) && decide (k ≤ n)) := by
  unfold okA
  rw [any_good hk h, hk]; simp
set_option maxHeartbeats 1000000 in
set_option maxRecDepth 100000 in
theorem badAmount_any (x : Nat) (w : World) : Calls Try.prog 103 #[.float .f32 x] w (Ret (.bool (badF x)) w) := by
  unfold badF
  cases hf : finite Ieee.single x
  · go_enter Try.func103, Try.ntmps103
    go_wp2_with (go_at_call 57; refine (isFinite_any _ _).mono ?_; rintro e w' ⟨m, rfl, rfl⟩)
    go_ret
    exact Ret.later _ _ _
  · have hz2 : (FloatKind.f32.format.order x 0 == some Ordering.lt) = ltz x := rfl
    go_enter Try.func103, Try.ntmps103
    go_wp2_with (go_at_call 57; refine (isFinite_any _ _).mono ?_; rintro e w' ⟨m, rfl, rfl⟩)
    go_ret
    exact Ret.later _ _ _
set_option maxHeartbeats 2000000 in
set_option maxRecDepth 100000 in
theorem badIndex_any (B : Nat) (v : Value) (xs : List Nat) (w : World) (h : Lst B w v (xs.map (Value.float .f32))) :
    Calls Try.prog 135 #[v, .func (.func 103) #[] #[]] w fun e w' => ∃ (r : Int) (m : Nat), e = .returned (.int .i64 r) ∧ -1 ≤ r ∧ decide (0 ≤ r) = xs.any badF ∧ w' = w.drewN m := by
  obtain ⟨a, cap, rfl, hl, hc⟩ := h
  rw [List.length_map] at hl ⊢
  have hX : Hid (∀ k, k < xs.length → ∃ b o x, a = some ⟨b, o, none⟩ ∧ w.cell? ⟨b, o + k, none⟩ = some (.float .f32 x) ∧ xs[k]? = some x) := Lib.hid fun k hk => by
    obtain ⟨b, o, ha, _, hb⟩ := hc (by intro h0; simp at h0; rw [h0] at hk; simp at hk)
    have e1 : xs[k]? = some xs[k] := List.getElem?_eq_getElem _
    exact ⟨b, o, xs[k], ha, hb k _ (by rw [List.getElem?_map, e1]; rfl), e1⟩
  have hYes : Hid (∀ (k x : Nat), xs[k]? = some x → badF x = true → decide (0 ≤ (k : Int)) = xs.any badF) := Lib.hid fun k x hx hp => by
    rw [decide_eq_true (by omega), List.any_eq_true.2 ⟨x, List.mem_of_getElem? hx, hp⟩]
  have hNo : Hid (∀ k, k = xs.length → (∀ i x : Nat, i < k → xs[i]? = some x → badF x = false) → decide (0 ≤ (-1 : Int)) = xs.any badF) := Lib.hid fun k hk hp => by
    rw [decide_eq_false (by omega), any_good hk hp]
  clear hc
  generalize xs.any badF = res at *
  generalize xs.length = n at *
  unfold maxLen at hl
  go_enter Try.func135, Try.ntmps135
  go_wp2_with fail
  go_loopw [8] (fun i wr => ∃ k m : Nat, k ≤ n ∧ i = .int .i64 k ∧ Hid (∀ i x : Nat, i < k → xs[i]? = some x → badF x = false) ∧ wr = w.drewN m) (fun i _ => n - (intOf i).toNat)
  case atStart => exact ⟨0, 0, Nat.zero_le _, rfl, Lib.hid (fun i x hi => by omega), rfl⟩
  case round =>
    obtain ⟨k, m, hk, rfl, hG, rfl⟩ := hrel
    by_cases hlt : k < n
    · obtain ⟨b, o, x, rfl, hcell, hx⟩ := hX.out k hlt
      have hXx := Lib.hid hx
      clear hx
      cases hq : badF x
      · have hG2 : Hid (∀ i x : Nat, i < k + 1 → xs[i]? = some x → badF x = false) := Lib.hid fun i y hi hy => by
          by_cases h1 : i < k
          · exact hG.out i y h1 hy
          · have : i = k := by omega
            subst this
            rw [hXx.out] at hy
            cases hy
            exact hq
        go_wp2_with (go_at_call 103; refine (badAmount_any _ _).mono ?_; rintro e w' ⟨m, rfl, rfl⟩)
        go_roundw
        case rel => exact ⟨k + 1, _, by omega, by go_num, hG2, rfl⟩
        case measure => simp [intOf]; omega
      · have hF := Lib.hid (hYes.out k x hXx.out hq)
        go_wp2_with (go_at_call 103; refine (badAmount_any _ _).mono ?_; rintro e w' ⟨m, rfl, rfl⟩)
        go_ret
        exact ⟨k, _, rfl, by omega, hF.out, rfl⟩
    · have hF := Lib.hid (hNo.out k (by omega) hG.out)
      go_wp2_with fail
      go_ret
      exact ⟨-1, _, rfl, by omega, hF.out, rfl⟩
set_option maxHeartbeats 1000000 in
set_option maxRecDepth 100000 in
theorem badContains_any (B : Nat) (v : Value) (xs : List Nat) (w : World) (h : Lst B w v (xs.map (Value.float .f32))) :
    Calls Try.prog 104 #[v, .func (.func 103) #[] #[]] w (Ret (.bool (xs.any badF)) w) := by
  have hQ := Lib.hid (badIndex_any B v xs w h)
  obtain ⟨a, cap, rfl, _⟩ := h
  rw [List.length_map] at hQ ⊢
  generalize xs.any badF = res at *
  generalize xs.length = n at *
  go_enter Try.func104, Try.ntmps104
  go_wp2_with fail
  refine (hQ.out).mono ?_
  rintro e w1 ⟨r, m, rfl, hr1, hr2, rfl⟩
  have hR := Lib.hid hr2
  clear hr2
  go_wp2_with fail
  go_ret
  exact ⟨_, ret_b (by rw [← hR.out]), rfl⟩
set_option maxHeartbeats 1000000 in
set_option maxRecDepth 100000 in
theorem areAmounts_any (B : Nat) (v : Value) (xs : List Nat) (most : Nat) (w : World) (h : Lst B w v (xs.map (Value.float .f32))) :
    Calls Try.prog 55 #[v, .int .i64 most] w (Ret (.bool (okA most xs)) w) := by
  have hQ := Lib.hid (badContains_any B v xs w h)
  obtain ⟨a, cap, rfl, hl, _⟩ := h
  rw [List.length_map] at hl hQ ⊢
  have hK := Lib.hid (show okA most xs = (decide (1 ≤ xs.length) && decide (xs.length ≤ most) && !xs.any badF) from rfl)
  generalize okA most xs = ok at *
  generalize xs.any badF = res at *
  generalize xs.length = n at *
  unfold maxLen at hl
  by_cases h1 : 1 ≤ n
  · by_cases h2 : n ≤ most
    · have hk := hK.out
      rw [decide_eq_true h1, decide_eq_true h2] at hk
      simp only [Bool.true_and] at hk
      subst hk
      go_enter Try.func55, Try.ntmps55
      go_wp2_with fail
      refine (hQ.out).mono ?_
      rintro e w1 ⟨m, rfl, rfl⟩
      go_wp2_with fail
      go_ret
      exact Ret.later _ _ _
    · have hk := hK.out
      rw [decide_eq_false h2, Bool.and_false, Bool.false_and] at hk
      subst hk
      go_enter Try.func55, Try.ntmps55
      go_wp2_with fail
      go_ret
      exact Ret.now _ _
  · have hk := hK.out
    rw [decide_eq_false h1, Bool.false_and, Bool.false_and] at hk
    subst hk
    go_enter Try.func55, Try.ntmps55
    go_wp2_with fail
    go_ret
    exact Ret.now _ _
end Go.Proofs.Ythliapjnfcahlab
