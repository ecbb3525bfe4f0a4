/- Contracts: rules that go back. -/
import Derived.Test.YtnmecfibfajbnaaRules
namespace Go.Proofs.Ytnmecfibfajbnaa
open Go.RowKit Go.Lst

set_option maxHeartbeats 2000000 in
theorem goesBack_any (x : RuleD) (w : World) :
    Calls Try.prog 39 #[.agg #[.int .i64 x.From, .int .i64 x.To, .int .i64 x.Least, .int .i64 x.Most]] w fun e w' => e = .returned (.bool (decide (x.To < x.From))) ∧ Below w.heap.size w w' := by
  have hW := Whole.made w 59 #[.int .i64 x.From, .int .i64 x.To, .int .i64 x.Least, .int .i64 x.Most] rfl
  have hB2 := Lib.hid (below_alloc (Below.refl w.heap.size w) (.cells #[.int .i64 x.From, .int .i64 x.To, .int .i64 x.Least, .int .i64 x.Most] 59))
  generalize x.From = fr at *
  generalize x.To = to_ at *
  generalize x.Least = le at *
  generalize x.Most = mo at *
  go_enter Try.func39, Try.ntmps39
  go_wp2_with fail
  go_ret
  exact ⟨rfl, hB2.out⟩

set_option maxHeartbeats 4000000 in
theorem backIndex_any (B : Nat) (v : Value) (xs : List RuleD) (w : World) (h : LstRule B w v xs) (hB : B ≤ w.heap.size)  :
    Calls Try.prog 72 #[v, .func (.func 39) #[] #[]] w fun e w' => (∃ r : Int, e = .returned (.int .i64 r) ∧ -1 ≤ r ∧ decide (0 ≤ r) = xs.any (fun x => decide (x.To < x.From))) ∧ Below w.heap.size w w' := by
  obtain ⟨a, cap, rfl, hl, _, _, hc⟩ := h.at_
  have hYes : Hid (∀ (k : Nat) (x : RuleD), xs[k]? = some x → (decide (x.To < x.From)) = true → decide (0 ≤ (k : Int)) = xs.any (fun x => decide (x.To < x.From))) := Lib.hid fun k x hx hp => by
    rw [decide_eq_true (by omega), List.any_eq_true.2 ⟨x, List.mem_of_getElem? hx, hp⟩]
  have hNo : Hid (∀ k, k = xs.length → (∀ (i : Nat) (x : RuleD), i < k → xs[i]? = some x → (decide (x.To < x.From)) = false) → decide (0 ≤ (-1 : Int)) = xs.any (fun x => decide (x.To < x.From))) := Lib.hid fun k hk hp => by
    rw [decide_eq_false (by omega)]
    symm
    rw [List.any_eq_false]
    intro x hx
    obtain ⟨i, hi, rfl⟩ := List.mem_iff_getElem.1 hx
    have := hp i _ (by omega) (List.getElem?_eq_getElem hi)
    simp [this]
  have hC := Lib.hid hc
  clear hc h
  generalize xs.any (fun x => decide (x.To < x.From)) = res at *
  generalize xs.length = n at *
  unfold maxLen at hl
  go_enter Try.func72, Try.ntmps72
  go_wp2_with fail
  go_loopw [8] (fun i wr => ∃ k : Nat, k ≤ n ∧ i = .int .i64 k ∧ Hid (∀ (i : Nat) (x : RuleD), i < k → xs[i]? = some x → (decide (x.To < x.From)) = false) ∧ Hid (Below w.heap.size w wr)) (fun i _ => n - (intOf i).toNat)
  case atStart => exact ⟨0, Nat.zero_le _, rfl, Lib.hid (fun i x hi _ => by omega), Lib.hid (Below.refl _ _)⟩
  case round =>
    obtain ⟨k, hk, rfl, hP, hB1⟩ := hrel
    by_cases hlt : k < n
    · obtain ⟨b, o, x, rfl, hb, hx, h0, h1, h2, h3⟩ := hC.out k hlt
      have hXx := Lib.hid hx
      rw [← hB1.out.cell (p := ⟨b, o + k * 4, none⟩) (show b < w.heap.size by omega)] at h0
      rw [← hB1.out.cell (p := ⟨b, o + k * 4 + 1, none⟩) (show b < w.heap.size by omega)] at h1
      rw [← hB1.out.cell (p := ⟨b, o + k * 4 + 2, none⟩) (show b < w.heap.size by omega)] at h2
      rw [← hB1.out.cell (p := ⟨b, o + k * 4 + 3, none⟩) (show b < w.heap.size by omega)] at h3
      clear hx hb
      go_wp2_with fail
      refine (goesBack_any x wr).mono ?_
      rintro e w3 ⟨rfl, hb3⟩
      have hB3 := Lib.hid (below_on hB1.out (Nat.le_refl _) hb3)
      cases hq : (decide (x.To < x.From))
      · have hP2 : Hid (∀ (i : Nat) (x : RuleD), i < k + 1 → xs[i]? = some x → (decide (x.To < x.From)) = false) := Lib.hid fun i y hi hy => by
          by_cases h1 : i < k
          · exact hP.out i y h1 hy
          · have : i = k := by omega
            subst this
            rw [hXx.out] at hy
            cases hy
            exact hq
        clear hb3 hB1
        go_wp2_with fail
        go_roundw
        case rel => exact ⟨k + 1, by omega, by go_num, hP2, hB3⟩
        case measure => simp [intOf]; omega
      · have hF := Lib.hid (hYes.out k x hXx.out hq)
        clear hb3 hB1
        go_wp2_with fail
        go_ret
        exact ⟨⟨k, rfl, by omega, hF.out⟩, hB3.out⟩
    · have hF := Lib.hid (hNo.out k (by omega) hP.out)
      go_wp2_with fail
      go_ret
      exact ⟨⟨-1, rfl, by omega, hF.out⟩, hB1.out⟩
set_option maxHeartbeats 1000000 in
theorem backContains_any (B : Nat) (v : Value) (xs : List RuleD) (w : World) (h : LstRule B w v xs) (hB : B ≤ w.heap.size)  :
    Calls Try.prog 41 #[v, .func (.func 39) #[] #[]] w fun e w' => e = .returned (.bool (xs.any (fun x => decide (x.To < x.From)))) ∧ Below w.heap.size w w' := by
  have hQ := Lib.hid (backIndex_any B v xs w h hB )
  obtain ⟨a, cap, rfl, _⟩ := h
  generalize xs.any (fun x => decide (x.To < x.From)) = res at *
  go_enter Try.func41, Try.ntmps41
  go_wp2_with fail
  refine (hQ.out).mono ?_
  rintro e w1 ⟨⟨r, rfl, hr1, hr2⟩, hb1⟩
  have hB1 := Lib.hid hb1
  have hR := Lib.hid hr2
  clear hb1 hr2
  go_wp2_with fail
  go_ret
  exact ⟨ret_bool (by rw [← hR.out]), hB1.out⟩

end Go.Proofs.Ytnmecfibfajbnaa
