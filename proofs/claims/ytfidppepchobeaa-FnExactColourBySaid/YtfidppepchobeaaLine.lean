/- Contracts: times of lines; sums of lists; the least number of stations by sums. -/
import Derived.Test.YtfidppepchobeaaTimes
import Derived.IntWalk
namespace Go.Proofs.Ytfidppepchobeaa
open Go.RowKit Go.Lst

def okLine (ts : List Int) : Bool := okTimes ts && decide (ts.length ≤ 12)
theorem okLine_times {ts : List Int} (h : okLine ts = true) : okTimes ts = true := by
  simp only [okLine, Bool.and_eq_true] at h
  exact h.1
theorem okLine_of {ts : List Int} (h : okLine ts = true) : 1 ≤ ts.length ∧ ts.length ≤ 12 ∧ ∀ (i : Nat) (x : Int), ts[i]? = some x → 1 ≤ x ∧ x ≤ 10000 := by
  have h1 := okTimes_of (okLine_times h)
  simp only [okLine, Bool.and_eq_true, decide_eq_true_eq] at h
  exact ⟨h1.1, h.2, h1.2.2⟩
theorem sums_ok {ts : List Int} (h : okTimes ts = true) : ∀ k, k ≤ ts.length → 0 ≤ sumTo ts k ∧ sumTo ts k ≤ 1000000000000 := fun k hk => by
  have h1 := okTimes_of h
  have h2 := sumTo_bound (lo := 0) (hi := 10000) (fun i x hx => by have := h1.2.2 i x hx; omega) (by omega) k hk
  omega
theorem okLine_eq (ts : List Int) : okLine ts = (decide (1 ≤ ts.length) && decide (ts.length ≤ 12) && allIn ts 1 10000) := by
  unfold okLine okTimes
  by_cases h : ts.length ≤ 12
  · rw [decide_eq_true h, decide_eq_true (show ts.length ≤ 24 by omega)]; simp
  · rw [decide_eq_false h]; simp

set_option maxHeartbeats 1000000 in
theorem areLineTimes_any (B : Nat) (v : Value) (ts : List Int) (w : World) (h : LstI B w v ts) :
    Calls Try.prog 121 #[v] w fun e w' => e = .returned (.bool (okLine ts)) ∧ w = w' := by
  have hA := Lib.hid (areWithin_any B v ts 1 10000 w h.lst)
  obtain ⟨a, cap, hv, hl, _⟩ := h.at_
  subst hv
  rw [okLine_eq]
  clear h
  generalize allIn ts 1 10000 = q at *
  generalize ts.length = n at *
  unfold maxLen at hl
  by_cases h1 : 1 ≤ n
  · rw [decide_eq_true h1, Bool.true_and]
    by_cases h2 : n ≤ 12
    · rw [decide_eq_true h2, Bool.true_and]
      go_enter Try.func121, Try.ntmps121
      go_wp2_with (go_at_call 99; refine (hA.out).mono ?_; rintro e w' ⟨rfl, rfl⟩)
      go_ret
      exact ⟨rfl, rfl⟩
    · rw [decide_eq_false h2]
      have h3 : 12 < n := by omega
      clear h2
      go_enter Try.func121, Try.ntmps121
      go_wp2_with fail
      go_ret
      exact ⟨rfl, rfl⟩
  · rw [decide_eq_false h1]
    have h3 : n < 1 := by omega
    clear h1
    go_enter Try.func121, Try.ntmps121
    go_wp2_with fail
    go_ret
    exact ⟨rfl, rfl⟩
set_option maxHeartbeats 1000000 in
theorem l04Tasks_any (B : Nat) (v : Value) (ts : List Int) (w : World) (h : LstI B w v ts) :
    Calls Try.prog 87 #[v] w fun e w' => e = .returned (.bool (okLine ts)) ∧ w = w' := by
  have hT := Lib.hid (l02Times_any B v ts w h)
  obtain ⟨a, cap, hv, hl, _⟩ := h.at_
  subst hv
  unfold okLine
  clear h
  generalize okTimes ts = q at *
  generalize ts.length = n at *
  unfold maxLen at hl
  cases q
  · go_enter Try.func87, Try.ntmps87
    go_wp2_with (go_at_call 120; refine (hT.out).mono ?_; rintro e w' ⟨rfl, rfl⟩)
    go_ret
    exact ⟨rfl, rfl⟩
  · by_cases h2 : n ≤ 12
    · rw [decide_eq_true h2, Bool.true_and]
      have hd : decide ((n : Int) ≤ 12) = true := by simp; omega
      go_enter Try.func87, Try.ntmps87
      go_wp2_with (go_at_call 120; refine (hT.out).mono ?_; rintro e w' ⟨rfl, rfl⟩)
      go_ret
      exact ⟨rfl, rfl⟩
    · rw [decide_eq_false h2]
      have h3 : 12 < n := by omega
      have hd : decide ((n : Int) ≤ 12) = false := by simp; omega
      clear h2
      go_enter Try.func87, Try.ntmps87
      go_wp2_with (go_at_call 120; refine (hT.out).mono ?_; rintro e w' ⟨rfl, rfl⟩)
      go_ret
      exact ⟨rfl, rfl⟩


/-- The binary digit of the task k, and the greatest set of tasks before it. -/
def p2 (k : Nat) : Int := IntKind.i64.wrap (1 * 2 ^ k)
def setsAt (k : Nat) : Int := IntKind.i64.wrap (p2 k - 1)
def okSets (bs : List Int) : Nat → Bool
  | 0 => true
  | k + 1 => okSets bs k && inB (bs.getD k 0) 0 (setsAt k)
def isLine (ts bs : List Int) : Bool := okLine ts && decide (bs.length = ts.length) && okSets bs bs.length
theorem okSets_false {bs : List Int} {k : Nat} (h : okSets bs k = false) : ∀ m, k ≤ m → okSets bs m = false
  | 0, hm => by have : k = 0 := by omega
                subst this; exact h
  | m + 1, hm => by
    by_cases e : k = m + 1
    · subst e; exact h
    · unfold okSets
      rw [okSets_false h m (by omega), Bool.false_and]
theorem okSets_step {bs : List Int} {k : Nat} {x : Int} (hx : bs[k]? = some x) : okSets bs (k + 1) = (okSets bs k && inB x 0 (setsAt k)) := by
  show (okSets bs k && inB (bs.getD k 0) 0 (setsAt k)) = _
  rw [getD_of hx]
theorem okSets_no {bs : List Int} {k m : Nat} {x : Int} (hx : bs[k]? = some x) (hq : inB x 0 (setsAt k) = false) (hm : k < m) : okSets bs m = false :=
  okSets_false (k := k + 1) (by rw [okSets_step hx, hq, Bool.and_false]) m hm
set_option maxHeartbeats 2000000 in
theorem l04Line_any (B : Nat) (v1 v2 : Value) (ts bs : List Int) (w : World) (h1 : LstI B w v1 ts) (h2 : LstI B w v2 bs) :
    Calls Try.prog 37 #[v1, v2] w fun e w' => e = .returned (.bool (isLine ts bs)) ∧ w = w' := by
  have hT := Lib.hid (l04Tasks_any B v1 ts w h1)
  obtain ⟨a1, cap1, rfl, hl1, _, _, _⟩ := h1.at_
  obtain ⟨a2, cap2, rfl, hl2, _, _, hc2⟩ := h2.at_
  cases hq : okLine ts
  · have hV := Lib.hid (show isLine ts bs = false by unfold isLine; rw [hq]; rfl)
    rw [hq] at hT
    clear h1 h2 hc2 hq
    generalize ts.length = n at *
    generalize bs.length = m at *
    unfold maxLen at hl1 hl2
    go_enter Try.func37, Try.ntmps37
    go_wp2_with (go_at_call 87; refine (hT.out).mono ?_; rintro e w' ⟨rfl, rfl⟩)
    go_ret
    exact ⟨ret_bool (by rw [hV.out]), rfl⟩
  · have h12 := (okLine_of hq).2.1
    rw [hq] at hT
    by_cases he : bs.length = ts.length
    · have hV := Lib.hid (show isLine ts bs = okSets bs ts.length by unfold isLine; rw [hq, decide_eq_true he, he]; rfl)
      rw [he] at hc2 hl2 ⊢
      have hC := Lib.hid hc2
      clear h1 h2 hc2 hq he
      generalize ts.length = n at *
      unfold maxLen at hl1 hl2
      go_enter Try.func37, Try.ntmps37
      go_wp2_with (go_at_call 87; refine (hT.out).mono ?_; rintro e w' ⟨rfl, rfl⟩)
      go_loopw [5] (fun i wr => ∃ k : Nat, k ≤ n ∧ i = .int .i64 k ∧ Hid (okSets bs k = true) ∧ wr = w) (fun i _ => n - (intOf i).toNat)
      case atStart => exact ⟨0, Nat.zero_le _, rfl, Lib.hid rfl, rfl⟩
      case round =>
        obtain ⟨k, hk, rfl, hP, rfl⟩ := hrel
        by_cases hlt : k < n
        · obtain ⟨b, o, x, rfl, _, hx, hcell⟩ := hC.out k hlt
          have hXx := Lib.hid hx
          have hsh : IntKind.i64.wrap (1 * 2 ^ k) = p2 k := rfl
          have hsh2 : IntKind.i64.wrap (2 ^ k) = p2 k := by unfold p2; rw [Int.one_mul]
          have hsub : IntKind.i64.wrap (p2 k - 1) = setsAt k := rfl
          have hk3 : (k : Int) ≤ 64 := by omega
          clear hx
          cases hq : inB x 0 (setsAt k)
          · have hF := Lib.hid (hV.out.trans (okSets_no hXx.out hq hlt))
            go_wp2_with (go_at_call 80; refine (l00In_any _ _ _ _).mono ?_; rw [hq]; rintro e w' ⟨rfl, rfl⟩)
            go_ret
            exact ⟨ret_bool (by rw [hF.out]), rfl⟩
          · have hP2 := Lib.hid (show okSets bs (k + 1) = true by rw [okSets_step hXx.out, hP.out, hq]; rfl)
            go_wp2_with (go_at_call 80; refine (l00In_any _ _ _ _).mono ?_; rw [hq]; rintro e w' ⟨rfl, rfl⟩)
            go_roundw
            case rel => exact ⟨k + 1, by omega, by go_num, hP2, by trivial⟩
            case measure => simp [intOf]; omega
        · have hF := Lib.hid (hV.out.trans (show okSets bs n = true by rw [show n = k by omega]; exact hP.out))
          go_wp2
          go_ret
          exact ⟨ret_bool (by rw [hF.out]), rfl⟩
    · have hV := Lib.hid (show isLine ts bs = false by unfold isLine; rw [decide_eq_false he, Bool.and_false]; rfl)
      have hb : ((bs.length : Int) != (ts.length : Int)) = true := by rw [bne_iff_ne]; omega
      have hb2 : (bs.length != ts.length) = true := by rw [bne_iff_ne]; exact he
      clear h1 h2 hc2 hq he
      generalize ts.length = n at *
      generalize bs.length = m at *
      unfold maxLen at hl1 hl2
      go_enter Try.func37, Try.ntmps37
      go_wp2_with (go_at_call 87; refine (hT.out).mono ?_; rintro e w' ⟨rfl, rfl⟩)
      go_ret
      exact ⟨ret_bool (by rw [hV.out]), rfl⟩
set_option maxHeartbeats 2000000 in
theorem implIsLine_any (B : Nat) (v1 v2 : Value) (ts bs : List Int) (w : World) (h1 : LstI B w v1 ts) (h2 : LstI B w v2 bs) :
    Calls Try.prog 88 #[v1, v2] w fun e w' => e = .returned (.bool (isLine ts bs)) ∧ w = w' := by
  have hT := Lib.hid (areLineTimes_any B v1 ts w h1)
  obtain ⟨a1, cap1, rfl, hl1, _, _, _⟩ := h1.at_
  obtain ⟨a2, cap2, rfl, hl2, _, _, hc2⟩ := h2.at_
  cases hq : okLine ts
  · have hV := Lib.hid (show isLine ts bs = false by unfold isLine; rw [hq]; rfl)
    rw [hq] at hT
    clear h1 h2 hc2 hq
    generalize ts.length = n at *
    generalize bs.length = m at *
    unfold maxLen at hl1 hl2
    go_enter Try.func88, Try.ntmps88
    go_wp2_with (go_at_call 121; refine (hT.out).mono ?_; rintro e w' ⟨rfl, rfl⟩)
    go_ret
    exact ⟨ret_bool (by rw [hV.out]), rfl⟩
  · have h12 := (okLine_of hq).2.1
    rw [hq] at hT
    by_cases he : bs.length = ts.length
    · have hV := Lib.hid (show isLine ts bs = okSets bs ts.length by unfold isLine; rw [hq, decide_eq_true he, he]; rfl)
      rw [he] at hc2 hl2 ⊢
      have hC := Lib.hid hc2
      clear h1 h2 hc2 hq he
      generalize ts.length = n at *
      unfold maxLen at hl1 hl2
      go_enter Try.func88, Try.ntmps88
      go_wp2_with (go_at_call 121; refine (hT.out).mono ?_; rintro e w' ⟨rfl, rfl⟩)
      go_loopw [19] (fun i wr => ∃ k : Nat, k ≤ n ∧ i = .int .i64 k ∧ Hid (okSets bs k = true) ∧ wr = w) (fun i _ => n - (intOf i).toNat)
      case atStart => exact ⟨0, Nat.zero_le _, rfl, Lib.hid rfl, rfl⟩
      case round =>
        obtain ⟨k, hk, rfl, hP, rfl⟩ := hrel
        by_cases hlt : k < n
        · obtain ⟨b, o, x, rfl, _, hx, hcell⟩ := hC.out k hlt
          have hXx := Lib.hid hx
          have hsh : IntKind.i64.wrap (1 * 2 ^ k) = p2 k := rfl
          have hsh2 : IntKind.i64.wrap (2 ^ k) = p2 k := by unfold p2; rw [Int.one_mul]
          have hsub : IntKind.i64.wrap (p2 k - 1) = setsAt k := rfl
          have hk3 : (k : Int) ≤ 64 := by omega
          clear hx
          cases hq : inB x 0 (setsAt k)
          · have hF := Lib.hid (hV.out.trans (okSets_no hXx.out hq hlt))
            go_wp2_with (go_at_call 89; refine (isWithin_any _ _ _ _).mono ?_; rw [hq]; rintro e w' ⟨rfl, rfl⟩)
            go_ret
            exact ⟨ret_bool (by rw [hF.out]), rfl⟩
          · have hP2 := Lib.hid (show okSets bs (k + 1) = true by rw [okSets_step hXx.out, hP.out, hq]; rfl)
            go_wp2_with (go_at_call 89; refine (isWithin_any _ _ _ _).mono ?_; rw [hq]; rintro e w' ⟨rfl, rfl⟩)
            go_roundw
            case rel => exact ⟨k + 1, by omega, by go_num, hP2, by trivial⟩
            case measure => simp [intOf]; omega
        · have hF := Lib.hid (hV.out.trans (show okSets bs n = true by rw [show n = k by omega]; exact hP.out))
          go_wp2
          go_ret
          exact ⟨ret_bool (by rw [hF.out]), rfl⟩
    · have hV := Lib.hid (show isLine ts bs = false by unfold isLine; rw [decide_eq_false he, Bool.and_false]; rfl)
      have hb : ((bs.length : Int) != (ts.length : Int)) = true := by rw [bne_iff_ne]; omega
      have hb2 : (bs.length != ts.length) = true := by rw [bne_iff_ne]; exact he
      clear h1 h2 hc2 hq he
      generalize ts.length = n at *
      generalize bs.length = m at *
      unfold maxLen at hl1 hl2
      go_enter Try.func88, Try.ntmps88
      go_wp2_with (go_at_call 121; refine (hT.out).mono ?_; rintro e w' ⟨rfl, rfl⟩)
      go_ret
      exact ⟨ret_bool (by rw [hV.out]), rfl⟩
end Go.Proofs.Ytfidppepchobeaa
