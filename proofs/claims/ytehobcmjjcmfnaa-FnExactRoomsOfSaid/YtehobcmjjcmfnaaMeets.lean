/- Contracts: whether a talk meets none of some others; and the model's question whether two talks meet. -/
import Derived.Test.YtehobcmjjcmfnaaMost
namespace Go.Proofs.Ytehobcmjjcmfnaa
open Go.RowKit Go.Lst Srt Go.Shelf

/-- Whether two talks meet. -/
def meetT (p q : Int × Int) : Bool := decide (p.1 < q.2) && decide (q.1 < p.2)
def LstT (B : Nat) (w : World) (v : Value) (ts : List (Int × Int)) : Prop := LstK 2 B w v ts.length ((flatP ts).map (Value.int .i64))
theorem flatP_get : ∀ (ts : List (Int × Int)) (k : Nat) (p : Int × Int), ts[k]? = some p → (flatP ts)[k * 2]? = some p.1 ∧ (flatP ts)[k * 2 + 1]? = some p.2
  | [], k, p, h => by simp at h
  | q :: ts, 0, p, h => by
    obtain rfl : q = p := by simpa using h
    exact ⟨rfl, rfl⟩
  | q :: ts, k + 1, p, h => by
    have ih := flatP_get ts k p (by simpa using h)
    have e : flatP (q :: ts) = q.1 :: q.2 :: flatP ts := rfl
    rw [e, show (k + 1) * 2 = k * 2 + 1 + 1 by omega]
    exact ⟨by simpa using ih.1, by simpa using ih.2⟩
theorem LstT.at_ {B : Nat} {w : World} {v : Value} {ts : List (Int × Int)} (h : LstT B w v ts) : ∃ a cap, v = .slice a ts.length cap ∧ ts.length ≤ maxLen ∧
    ∀ k, k < ts.length → ∃ b o p, a = some ⟨b, o, none⟩ ∧ b < B ∧ ts[k]? = some p ∧ w.cell? ⟨b, o + k * 2, none⟩ = some (.int .i64 p.1) ∧ w.cell? ⟨b, o + k * 2 + 1, none⟩ = some (.int .i64 p.2) := by
  obtain ⟨a, cap, hv, hl, h1, h2, h3, hc⟩ := h
  refine ⟨a, cap, hv, hl, fun k hk => ?_⟩
  obtain ⟨b, o, ha, hb, hcell⟩ := hc (by omega)
  have e1 : ts[k]? = some ts[k] := List.getElem?_eq_getElem _
  obtain ⟨f1, f2⟩ := flatP_get ts k _ e1
  refine ⟨b, o, ts[k], ha, hb, e1, hcell (k * 2) _ ?_, ?_⟩
  · rw [List.getElem?_map, f1]; rfl
  · have := hcell (k * 2 + 1) (.int .i64 ts[k].2) (by rw [List.getElem?_map, f2]; rfl)
    rw [← Nat.add_assoc] at this
    exact this
set_option maxHeartbeats 4000000 in
theorem meetsIndex_any (B : Nat) (v : Value) (ts : List (Int × Int)) (q : Int × Int) (w : World) (h : LstT B w v ts) (hB : B ≤ w.heap.size) :
    Calls Try.prog 87 #[v, .func (.func 53) #[.agg #[.int .i64 q.1, .int .i64 q.2]] #[]] w fun e w' => (∃ r : Int, e = .returned (.int .i64 r) ∧ -1 ≤ r ∧ decide (0 ≤ r) = ts.any (meetT q)) ∧ Below w.heap.size w w' := by
  obtain ⟨q0, q1⟩ := q
  obtain ⟨a, cap, rfl, hl, hc⟩ := h.at_
  have hYes : Hid (∀ (k : Nat) (x : Int × Int), ts[k]? = some x → meetT (q0, q1) x = true → decide (0 ≤ (k : Int)) = ts.any (meetT (q0, q1))) := Lib.hid fun k x hx hp => by
    rw [decide_eq_true (by omega), List.any_eq_true.2 ⟨x, List.mem_of_getElem? hx, hp⟩]
  have hNo : Hid (∀ k, k = ts.length → (∀ (i : Nat) (x : Int × Int), i < k → ts[i]? = some x → meetT (q0, q1) x = false) → decide (0 ≤ (-1 : Int)) = ts.any (meetT (q0, q1))) := Lib.hid fun k hk hp => by
    rw [decide_eq_false (by omega)]
    symm
    rw [List.any_eq_false]
    intro x hx
    obtain ⟨i, hi, rfl⟩ := List.mem_iff_getElem.1 hx
    have := hp i _ (by omega) (List.getElem?_eq_getElem hi)
    simp [this]
  have hC := Lib.hid hc
  have hM := Lib.hid (fun (x : Int × Int) w' => talkMeets_any q0 q1 x.1 x.2 w')
  clear hc h
  generalize ts.any (meetT (q0, q1)) = res at *
  generalize ts.length = n at *
  unfold maxLen at hl
  go_enter Try.func87, Try.ntmps87
  go_wp2_with fail
  go_loopw [8] (fun i wr => ∃ k : Nat, k ≤ n ∧ i = .int .i64 k ∧ Hid (∀ (i : Nat) (x : Int × Int), i < k → ts[i]? = some x → meetT (q0, q1) x = false) ∧ Hid (Below w.heap.size w wr)) (fun i _ => n - (intOf i).toNat)
  case atStart => exact ⟨0, Nat.zero_le _, rfl, Lib.hid (fun i x hi _ => by omega), Lib.hid (Below.refl _ _)⟩
  case round =>
    obtain ⟨k, hk, rfl, hP, hB1⟩ := hrel
    by_cases hlt : k < n
    · obtain ⟨b, o, x, rfl, hb, hx, h0, h1⟩ := hC.out k hlt
      have hXx := Lib.hid hx
      rw [← hB1.out.cell (p := ⟨b, o + k * 2, none⟩) (show b < w.heap.size by omega)] at h0
      rw [← hB1.out.cell (p := ⟨b, o + k * 2 + 1, none⟩) (show b < w.heap.size by omega)] at h1
      have hMx := Lib.hid (hM.out x wr)
      have hE : Hid ((decide (q0 < x.2) && decide (x.1 < q1)) = meetT (q0, q1) x) := Lib.hid rfl
      clear hx hb
      go_wp2_with fail
      refine hMx.out.mono ?_
      rintro e w3 ⟨rfl, hb3⟩
      have hB3 := Lib.hid (below_on hB1.out (Nat.le_refl _) hb3)
      rw [hE.out]
      cases hq : meetT (q0, q1) x
      · have hP2 : Hid (∀ (i : Nat) (x : Int × Int), i < k + 1 → ts[i]? = some x → meetT (q0, q1) x = false) := Lib.hid fun i y hi hy => by
          by_cases h1 : i < k
          · exact hP.out i y h1 hy
          · have : i = k := by omega
            subst this
            rw [hXx.out] at hy
            cases hy
            exact hq
        clear hb3 hB1
        go_wp2_with fail
        go_roundw
        case rel => exact ⟨k + 1, by omega, by go_num, hP2, hB3⟩
        case measure => simp [intOf]; omega
      · have hF := Lib.hid (hYes.out k x hXx.out hq)
        clear hb3 hB1
        go_wp2_with fail
        go_ret
        exact ⟨⟨k, rfl, by omega, hF.out⟩, hB3.out⟩
    · have hF := Lib.hid (hNo.out k (by omega) hP.out)
      go_wp2_with fail
      go_ret
      exact ⟨⟨-1, rfl, by omega, hF.out⟩, hB1.out⟩
set_option maxHeartbeats 1000000 in
theorem meetsContains_any (B : Nat) (v : Value) (ts : List (Int × Int)) (q : Int × Int) (w : World) (h : LstT B w v ts) (hB : B ≤ w.heap.size) :
    Calls Try.prog 81 #[v, .func (.func 53) #[.agg #[.int .i64 q.1, .int .i64 q.2]] #[]] w fun e w' => e = .returned (.bool (ts.any (meetT q))) ∧ Below w.heap.size w w' := by
  have hQ := Lib.hid (meetsIndex_any B v ts q w h hB)
  obtain ⟨q0, q1⟩ := q
  obtain ⟨a, cap, rfl, _⟩ := h
  generalize ts.any (meetT (q0, q1)) = res at *
  go_enter Try.func81, Try.ntmps81
  go_wp2_with fail
  refine (hQ.out).mono ?_
  rintro e w1 ⟨⟨r, rfl, hr1, hr2⟩, hb1⟩
  have hB1 := Lib.hid hb1
  have hR := Lib.hid hr2
  clear hb1 hr2
  go_wp2_with fail
  go_ret
  exact ⟨ret_bool (by rw [← hR.out]), hB1.out⟩
set_option maxHeartbeats 1000000 in
theorem meetsNone_any (B : Nat) (v : Value) (ts : List (Int × Int)) (q0 q1 : Int) (w : World) (h : LstT B w v ts) (hB : B ≤ w.heap.size) :
    Calls Try.prog 56 #[.agg #[.int .i64 q0, .int .i64 q1], v] w fun e w' => e = .returned (.bool (!ts.any (meetT (q0, q1)))) ∧ Below w.heap.size w w' := by
  have hB0 := Lib.hid (below_alloc (Below.refl w.heap.size w) (.cells #[.int .i64 q0, .int .i64 q1] 71))
  have hQ := Lib.hid (meetsContains_any B v ts (q0, q1) (w.alloc (.cells #[.int .i64 q0, .int .i64 q1] 71)) (LstK.below h hB0.out hB) (by simp; omega))
  obtain ⟨a, cap, rfl, _⟩ := h
  generalize ts.any (meetT (q0, q1)) = res at *
  generalize ts.length = n at *
  go_enter Try.func56, Try.ntmps56
  go_wp2_with (go_at_call 81; (with_reducible refine hQ.out.mono ?_); rintro e w' ⟨rfl, hb⟩; have hB1 := Lib.hid (below_on hB0.out (Nat.le_refl _) hb); clear hb)
  go_ret
  exact ⟨rfl, hB1.out⟩
end Go.Proofs.Ytehobcmjjcmfnaa
