/- Contracts: times of lines; sums of lists; the least number of stations by sums. -/
import Derived.Test.YtfigojmdklaljaaTimes
import Derived.IntWalk
namespace Go.Proofs.Ytfigojmdklaljaa
open Go.RowKit Go.Lst

def okLine (ts : List Int) : Bool := okTimes ts && decide (ts.length ≤ 12)
theorem okLine_times {ts : List Int} (h : okLine ts = true) : okTimes ts = true := by
  simp only [okLine, Bool.and_eq_true] at h
  exact h.1
theorem okLine_of {ts : List Int} (h : okLine ts = true) : 1 ≤ ts.length ∧ ts.length ≤ 12 ∧ ∀ (i : Nat) (x : Int), ts[i]? = some x → 1 ≤ x ∧ x ≤ 10000 := by
  have h1 := okTimes_of (okLine_times h)
  simp only [okLine, Bool.and_eq_true, decide_eq_true_eq] at h
  exact ⟨h1.1, h.2, h1.2.2⟩
theorem sums_ok {ts : List Int} (h : okTimes ts = true) : ∀ k, k ≤ ts.length → 0 ≤ sumTo ts k ∧ sumTo ts k ≤ 1000000000000 := fun k hk => by
  have h1 := okTimes_of h
  have h2 := sumTo_bound (lo := 0) (hi := 10000) (fun i x hx => by have := h1.2.2 i x hx; omega) (by omega) k hk
  omega
theorem okLine_eq (ts : List Int) : okLine ts = (decide (1 ≤ ts.length) && decide (ts.length ≤ 12) && allIn ts 1 10000) := by
  unfold okLine okTimes
  by_cases h : ts.length ≤ 12
  · rw [decide_eq_true h, decide_eq_true (show ts.length ≤ 24 by omega)]; simp
  · rw [decide_eq_false h]; simp

set_option maxHeartbeats 1000000 in
theorem areLineTimes_any (B : Nat) (v : Value) (ts : List Int) (w : World) (h : LstI B w v ts) :
    Calls Try.prog 44 #[v] w fun e w' => e = .returned (.bool (okLine ts)) ∧ w = w' := by
  have hA := Lib.hid (areWithin_any B v ts 1 10000 w h.lst)
  obtain ⟨a, cap, hv, hl, _⟩ := h.at_
  subst hv
  rw [okLine_eq]
  clear h
  generalize allIn ts 1 10000 = q at *
  generalize ts.length = n at *
  unfold maxLen at hl
  by_cases h1 : 1 ≤ n
  · rw [decide_eq_true h1, Bool.true_and]
    by_cases h2 : n ≤ 12
    · rw [decide_eq_true h2, Bool.true_and]
      go_enter Try.func44, Try.ntmps44
      go_wp2_with (go_at_call 51; refine (hA.out).mono ?_; rintro e w' ⟨rfl, rfl⟩)
      go_ret
      exact ⟨rfl, rfl⟩
    · rw [decide_eq_false h2]
      have h3 : 12 < n := by omega
      clear h2
      go_enter Try.func44, Try.ntmps44
      go_wp2_with fail
      go_ret
      exact ⟨rfl, rfl⟩
  · rw [decide_eq_false h1]
    have h3 : n < 1 := by omega
    clear h1
    go_enter Try.func44, Try.ntmps44
    go_wp2_with fail
    go_ret
    exact ⟨rfl, rfl⟩
set_option maxHeartbeats 1000000 in
theorem l04Tasks_any (B : Nat) (v : Value) (ts : List Int) (w : World) (h : LstI B w v ts) :
    Calls Try.prog 46 #[v] w fun e w' => e = .returned (.bool (okLine ts)) ∧ w = w' := by
  have hT := Lib.hid (l02Times_any B v ts w h)
  obtain ⟨a, cap, hv, hl, _⟩ := h.at_
  subst hv
  unfold okLine
  clear h
  generalize okTimes ts = q at *
  generalize ts.length = n at *
  unfold maxLen at hl
  cases q
  · go_enter Try.func46, Try.ntmps46
    go_wp2_with (go_at_call 73; refine (hT.out).mono ?_; rintro e w' ⟨rfl, rfl⟩)
    go_ret
    exact ⟨rfl, rfl⟩
  · by_cases h2 : n ≤ 12
    · rw [decide_eq_true h2, Bool.true_and]
      have hd : decide ((n : Int) ≤ 12) = true := by simp; omega
      go_enter Try.func46, Try.ntmps46
      go_wp2_with (go_at_call 73; refine (hT.out).mono ?_; rintro e w' ⟨rfl, rfl⟩)
      go_ret
      exact ⟨rfl, rfl⟩
    · rw [decide_eq_false h2]
      have h3 : 12 < n := by omega
      have hd : decide ((n : Int) ≤ 12) = false := by simp; omega
      clear h2
      go_enter Try.func46, Try.ntmps46
      go_wp2_with (go_at_call 73; refine (hT.out).mono ?_; rintro e w' ⟨rfl, rfl⟩)
      go_ret
      exact ⟨rfl, rfl⟩
set_option maxHeartbeats 1000000 in
theorem sumOf_any (B : Nat) (v : Value) (xs : List Int) (w : World) (h : LstI B w v xs) (hb : ∀ k, k ≤ xs.length → 0 ≤ sumTo xs k ∧ sumTo xs k ≤ 1000000000000) (hx : ∀ (i : Nat) (x : Int), xs[i]? = some x → 0 ≤ x ∧ x ≤ 1000000000000) :
    Calls Try.prog 49 #[v] w fun e w' => e = .returned (.int .i64 (sumTo xs xs.length)) ∧ w = w' := by
  obtain ⟨a, cap, rfl, hl, _, _, hc⟩ := h.at_
  have hC := Lib.hid hc
  have hS : Hid (∀ (k : Nat) (x : Int), xs[k]? = some x → sumTo xs (k + 1) = sumTo xs k + x) := Lib.hid fun k x hx => by show sumTo xs k + xs.getD k 0 = _; rw [getD_of hx]
  have hB := Lib.hid hb
  have hXb := Lib.hid hx
  clear hc h hb hx
  generalize xs.length = n at *
  unfold maxLen at hl
  go_enter Try.func49, Try.ntmps49
  go_wp2_with fail
  go_loopw [3, 8] (fun s i wr => ∃ (k : Nat) (z : Int), k ≤ n ∧ i = .int .i64 k ∧ s = .int .i64 z ∧ Hid (z = sumTo xs k) ∧ wr = w) (fun _ i _ => n - (intOf i).toNat)
  case atStart => exact ⟨0, 0, Nat.zero_le _, rfl, rfl, Lib.hid rfl, rfl⟩
  case round =>
    obtain ⟨k, z, hk, rfl, rfl, hZ, rfl⟩ := hrel
    by_cases hlt : k < n
    · obtain ⟨b, o, x, rfl, _, hx, hcell⟩ := hC.out k hlt
      have h1 := hB.out k hk
      have h2 := hXb.out k x hx
      rw [← hZ.out] at h1
      have hZ2 := Lib.hid (show z + x = sumTo xs (k + 1) by rw [hS.out k x hx, hZ.out])
      clear hx
      obtain ⟨h3, h4⟩ := h1
      obtain ⟨h5, h6⟩ := h2
      go_wp2_with fail
      go_roundw
      case rel => exact ⟨k + 1, _, by omega, by go_num, rfl, hZ2, by trivial⟩
      case measure => simp [intOf]; omega
    · have hZ2 := Lib.hid (show z = sumTo xs n by rw [hZ.out, show k = n by omega])
      go_wp2
      go_ret
      exact ⟨ret_int (by first | exact hZ2.out | (rw [← hZ2.out]; rfl)), rfl⟩

def lineRes (ts : List Int) (c : Int) : Int := if okLine ts && inB c 1 10000 then (sumTo ts ts.length + c - 1) / c else 0
theorem ret_two {p q : Int} {a b : Bool} (h : p = q) (h2 : a = b) : Ending.returned (.tuple #[.int .i64 p, .bool a]) = .returned (.tuple #[.int .i64 q, .bool b]) := by rw [h, h2]
set_option maxHeartbeats 1000000 in
theorem l04Fewest_any (B : Nat) (v : Value) (ts : List Int) (c : Int) (w : World) (h : LstI B w v ts) (ht : okLine ts = true) (hc : inB c 1 10000 = true) :
    Calls Try.prog 48 #[v, .int .i64 c] w fun e w' => e = .returned (.int .i64 ((sumTo ts ts.length + c - 1) / c)) ∧ w = w' := by
  have hok := okLine_of ht
  have hS := Lib.hid (l02Sum_any B v ts 0 w h (sums_ok (okLine_times ht)) (fun i x hx => by have := hok.2.2 i x hx; omega))
  have hb := sums_ok (okLine_times ht) ts.length (Nat.le_refl _)
  obtain ⟨m1, m2⟩ := inB_true hc
  obtain ⟨b1, b2⟩ := hb
  clear hok ht hc h
  generalize sumTo ts ts.length = z at *
  go_enter Try.func48, Try.ntmps48
  go_wp2_with (go_at_call 54; refine (hS.out).mono ?_; rintro e w' ⟨rfl, rfl⟩)
  go_ret
  exact ⟨rfl, rfl⟩
set_option maxHeartbeats 1000000 in
theorem specLineBound_any (B : Nat) (v : Value) (ts : List Int) (c : Int) (w : World) (h : LstI B w v ts) :
    Calls Try.prog 19 #[v, .int .i64 c] w fun e w' => e = .returned (.tuple #[.int .i64 (lineRes ts c), .bool (okLine ts && inB c 1 10000)]) ∧ w = w' := by
  have hT := Lib.hid (l04Tasks_any B v ts w h)
  unfold lineRes
  cases hq : okLine ts
  · rw [hq] at hT
    clear hq h
    go_enter Try.func19, Try.ntmps19
    go_wp2_with (first | (go_at_call 46; refine (hT.out).mono ?_; rintro e w' ⟨rfl, rfl⟩) | (go_at_call 47; refine (l00In_any _ _ _ _).mono ?_; rintro e w' ⟨rfl, rfl⟩))
    go_ret2
    exact ⟨rfl, rfl⟩
  · rw [hq] at hT
    cases hm : inB c 1 10000
    · clear hq h
      go_enter Try.func19, Try.ntmps19
      go_wp2_with (first | (go_at_call 46; refine (hT.out).mono ?_; rintro e w' ⟨rfl, rfl⟩) | (go_at_call 47; refine (l00In_any _ _ _ _).mono ?_; rintro e w' ⟨rfl, rfl⟩))
      go_ret2
      exact ⟨rfl, rfl⟩
    · have hB := Lib.hid (l04Fewest_any B v ts c w h hq hm)
      clear hq h
      generalize (sumTo ts ts.length + c - 1) / c = z at *
      go_enter Try.func19, Try.ntmps19
      go_wp2_with (first | (go_at_call 46; refine (hT.out).mono ?_; rintro e w' ⟨rfl, rfl⟩) | (go_at_call 47; refine (l00In_any _ _ _ _).mono ?_; rintro e w' ⟨rfl, rfl⟩) | (go_at_call 48; refine (hB.out).mono ?_; rintro e w' ⟨rfl, rfl⟩))
      go_ret2
      exact ⟨rfl, rfl⟩
set_option maxHeartbeats 1000000 in
theorem implLineBound_any (B : Nat) (v : Value) (ts : List Int) (c : Int) (w : World) (h : LstI B w v ts) :
    Calls Try.prog 20 #[v, .int .i64 c] w fun e w' => e = .returned (.tuple #[.int .i64 (lineRes ts c), .bool (okLine ts && inB c 1 10000)]) ∧ w = w' := by
  have hT := Lib.hid (areLineTimes_any B v ts w h)
  unfold lineRes
  cases hq : okLine ts
  · rw [hq] at hT
    clear hq h
    go_enter Try.func20, Try.ntmps20
    go_wp2_with (first | (go_at_call 44; refine (hT.out).mono ?_; rintro e w' ⟨rfl, rfl⟩) | (go_at_call 45; refine (isWithin_any _ _ _ _).mono ?_; rintro e w' ⟨rfl, rfl⟩))
    go_ret2
    exact ⟨rfl, rfl⟩
  · rw [hq] at hT
    cases hm : inB c 1 10000
    · clear hq h
      go_enter Try.func20, Try.ntmps20
      go_wp2_with (first | (go_at_call 44; refine (hT.out).mono ?_; rintro e w' ⟨rfl, rfl⟩) | (go_at_call 45; refine (isWithin_any _ _ _ _).mono ?_; rintro e w' ⟨rfl, rfl⟩))
      go_ret2
      exact ⟨rfl, rfl⟩
    · have hok := okLine_of hq
      have hS := Lib.hid (sumOf_any B v ts w h (sums_ok (okLine_times hq)) (fun i x hx => by have := hok.2.2 i x hx; omega))
      have hb := sums_ok (okLine_times hq) ts.length (Nat.le_refl _)
      obtain ⟨m1, m2⟩ := inB_true hm
      obtain ⟨b1, b2⟩ := hb
      clear hq h hok
      generalize sumTo ts ts.length = z at *
      go_enter Try.func20, Try.ntmps20
      go_wp2_with (first | (go_at_call 44; refine (hT.out).mono ?_; rintro e w' ⟨rfl, rfl⟩) | (go_at_call 45; refine (isWithin_any _ _ _ _).mono ?_; rw [hm]; rintro e w' ⟨rfl, rfl⟩) | (go_at_call 49; refine (hS.out).mono ?_; rintro e w' ⟨rfl, rfl⟩))
      go_ret2
      exact ⟨rfl, rfl⟩
theorem lineBound_both (ts : List Int) (c : Int) (_ : ∀ x ∈ ts, (Lit.int .i64 x).wf = true) (_ : (Lit.int .i64 c).wf = true) : ∃ (r0 : Int) (r1 : Bool),
    (∀ (B : Nat) (v : Value) (w : World), LstI B w v ts → B ≤ w.heap.size → Calls Try.prog 19 #[v, .int .i64 c] w fun e w' => e = .returned (.tuple #[.int .i64 r0, .bool r1]) ∧ Below w.heap.size w w') ∧
    (∀ (B : Nat) (v : Value) (w : World), LstI B w v ts → B ≤ w.heap.size → Calls Try.prog 20 #[v, .int .i64 c] w fun e w' => e = .returned (.tuple #[.int .i64 r0, .bool r1]) ∧ Below w.heap.size w w') :=
  ⟨lineRes ts c, okLine ts && inB c 1 10000, fun B v w h _ => (specLineBound_any B v ts c w h).mono fun _ _ ⟨he, hw⟩ => ⟨he, by rw [← hw]; exact Below.refl _ _⟩, fun B v w h _ => (implLineBound_any B v ts c w h).mono fun _ _ ⟨he, hw⟩ => ⟨he, by rw [← hw]; exact Below.refl _ _⟩⟩

/-- The binary digit of the task k, and the greatest set of tasks before it. -/
def p2 (k : Nat) : Int := IntKind.i64.wrap (1 * 2 ^ k)
def setsAt (k : Nat) : Int := IntKind.i64.wrap (p2 k - 1)
def okSets (bs : List Int) : Nat → Bool
  | 0 => true
  | k + 1 => okSets bs k && inB (bs.getD k 0) 0 (setsAt k)
def isLine (ts bs : List Int) : Bool := okLine ts && decide (bs.length = ts.length) && okSets bs bs.length
theorem okSets_false {bs : List Int} {k : Nat} (h : okSets bs k = false) : ∀ m, k ≤ m → okSets bs m = false
  | 0, hm => by have : k = 0 := by omega
                subst this; exact h
  | m + 1, hm => by
    by_cases e : k = m + 1
    · subst e; exact h
    · unfold okSets
      rw [okSets_false h m (by omega), Bool.false_and]
theorem okSets_step {bs : List Int} {k : Nat} {x : Int} (hx : bs[k]? = some x) : okSets bs (k + 1) = (okSets bs k && inB x 0 (setsAt k)) := by
  show (okSets bs k && inB (bs.getD k 0) 0 (setsAt k)) = _
  rw [getD_of hx]
theorem okSets_no {bs : List Int} {k m : Nat} {x : Int} (hx : bs[k]? = some x) (hq : inB x 0 (setsAt k) = false) (hm : k < m) : okSets bs m = false :=
  okSets_false (k := k + 1) (by rw [okSets_step hx, hq, Bool.and_false]) m hm
set_option maxHeartbeats 2000000 in
theorem l04Line_any (B : Nat) (v1 v2 : Value) (ts bs : List Int) (w : World) (h1 : LstI B w v1 ts) (h2 : LstI B w v2 bs) :
    Calls Try.prog 43 #[v1, v2] w fun e w' => e = .returned (.bool (isLine ts bs)) ∧ w = w' := by
  have hT := Lib.hid (l04Tasks_any B v1 ts w h1)
  obtain ⟨a1, cap1, rfl, hl1, _, _, _⟩ := h1.at_
  obtain ⟨a2, cap2, rfl, hl2, _, _, hc2⟩ := h2.at_
  cases hq : okLine ts
  · have hV := Lib.hid (show isLine ts bs = false by unfold isLine; rw [hq]; rfl)
    rw [hq] at hT
    clear h1 h2 hc2 hq
    generalize ts.length = n at *
    generalize bs.length = m at *
    unfold maxLen at hl1 hl2
    go_enter Try.func43, Try.ntmps43
    go_wp2_with (go_at_call 46; refine (hT.out).mono ?_; rintro e w' ⟨rfl, rfl⟩)
    go_ret
    exact ⟨ret_bool (by rw [hV.out]), rfl⟩
  · have h12 := (okLine_of hq).2.1
    rw [hq] at hT
    by_cases he : bs.length = ts.length
    · have hV := Lib.hid (show isLine ts bs = okSets bs ts.length by unfold isLine; rw [hq, decide_eq_true he, he]; rfl)
      rw [he] at hc2 hl2 ⊢
      have hC := Lib.hid hc2
      clear h1 h2 hc2 hq he
      generalize ts.length = n at *
      unfold maxLen at hl1 hl2
      go_enter Try.func43, Try.ntmps43
      go_wp2_with (go_at_call 46; refine (hT.out).mono ?_; rintro e w' ⟨rfl, rfl⟩)
      go_loopw [5] (fun i wr => ∃ k : Nat, k ≤ n ∧ i = .int .i64 k ∧ Hid (okSets bs k = true) ∧ wr = w) (fun i _ => n - (intOf i).toNat)
      case atStart => exact ⟨0, Nat.zero_le _, rfl, Lib.hid rfl, rfl⟩
      case round =>
        obtain ⟨k, hk, rfl, hP, rfl⟩ := hrel
        by_cases hlt : k < n
        · obtain ⟨b, o, x, rfl, _, hx, hcell⟩ := hC.out k hlt
          have hXx := Lib.hid hx
          have hsh : IntKind.i64.wrap (1 * 2 ^ k) = p2 k := rfl
          have hsh2 : IntKind.i64.wrap (2 ^ k) = p2 k := by unfold p2; rw [Int.one_mul]
          have hsub : IntKind.i64.wrap (p2 k - 1) = setsAt k := rfl
          have hk3 : (k : Int) ≤ 64 := by omega
          clear hx
          cases hq : inB x 0 (setsAt k)
          · have hF := Lib.hid (hV.out.trans (okSets_no hXx.out hq hlt))
            go_wp2_with (go_at_call 47; refine (l00In_any _ _ _ _).mono ?_; rw [hq]; rintro e w' ⟨rfl, rfl⟩)
            go_ret
            exact ⟨ret_bool (by rw [hF.out]), rfl⟩
          · have hP2 := Lib.hid (show okSets bs (k + 1) = true by rw [okSets_step hXx.out, hP.out, hq]; rfl)
            go_wp2_with (go_at_call 47; refine (l00In_any _ _ _ _).mono ?_; rw [hq]; rintro e w' ⟨rfl, rfl⟩)
            go_roundw
            case rel => exact ⟨k + 1, by omega, by go_num, hP2, by trivial⟩
            case measure => simp [intOf]; omega
        · have hF := Lib.hid (hV.out.trans (show okSets bs n = true by rw [show n = k by omega]; exact hP.out))
          go_wp2
          go_ret
          exact ⟨ret_bool (by rw [hF.out]), rfl⟩
    · have hV := Lib.hid (show isLine ts bs = false by unfold isLine; rw [decide_eq_false he, Bool.and_false]; rfl)
      have hb : ((bs.length : Int) != (ts.length : Int)) = true := by rw [bne_iff_ne]; omega
      have hb2 : (bs.length != ts.length) = true := by rw [bne_iff_ne]; exact he
      clear h1 h2 hc2 hq he
      generalize ts.length = n at *
      generalize bs.length = m at *
      unfold maxLen at hl1 hl2
      go_enter Try.func43, Try.ntmps43
      go_wp2_with (go_at_call 46; refine (hT.out).mono ?_; rintro e w' ⟨rfl, rfl⟩)
      go_ret
      exact ⟨ret_bool (by rw [hV.out]), rfl⟩
set_option maxHeartbeats 2000000 in
theorem implIsLine_any (B : Nat) (v1 v2 : Value) (ts bs : List Int) (w : World) (h1 : LstI B w v1 ts) (h2 : LstI B w v2 bs) :
    Calls Try.prog 17 #[v1, v2] w fun e w' => e = .returned (.bool (isLine ts bs)) ∧ w = w' := by
  have hT := Lib.hid (areLineTimes_any B v1 ts w h1)
  obtain ⟨a1, cap1, rfl, hl1, _, _, _⟩ := h1.at_
  obtain ⟨a2, cap2, rfl, hl2, _, _, hc2⟩ := h2.at_
  cases hq : okLine ts
  · have hV := Lib.hid (show isLine ts bs = false by unfold isLine; rw [hq]; rfl)
    rw [hq] at hT
    clear h1 h2 hc2 hq
    generalize ts.length = n at *
    generalize bs.length = m at *
    unfold maxLen at hl1 hl2
    go_enter Try.func17, Try.ntmps17
    go_wp2_with (go_at_call 44; refine (hT.out).mono ?_; rintro e w' ⟨rfl, rfl⟩)
    go_ret
    exact ⟨ret_bool (by rw [hV.out]), rfl⟩
  · have h12 := (okLine_of hq).2.1
    rw [hq] at hT
    by_cases he : bs.length = ts.length
    · have hV := Lib.hid (show isLine ts bs = okSets bs ts.length by unfold isLine; rw [hq, decide_eq_true he, he]; rfl)
      rw [he] at hc2 hl2 ⊢
      have hC := Lib.hid hc2
      clear h1 h2 hc2 hq he
      generalize ts.length = n at *
      unfold maxLen at hl1 hl2
      go_enter Try.func17, Try.ntmps17
      go_wp2_with (go_at_call 44; refine (hT.out).mono ?_; rintro e w' ⟨rfl, rfl⟩)
      go_loopw [19] (fun i wr => ∃ k : Nat, k ≤ n ∧ i = .int .i64 k ∧ Hid (okSets bs k = true) ∧ wr = w) (fun i _ => n - (intOf i).toNat)
      case atStart => exact ⟨0, Nat.zero_le _, rfl, Lib.hid rfl, rfl⟩
      case round =>
        obtain ⟨k, hk, rfl, hP, rfl⟩ := hrel
        by_cases hlt : k < n
        · obtain ⟨b, o, x, rfl, _, hx, hcell⟩ := hC.out k hlt
          have hXx := Lib.hid hx
          have hsh : IntKind.i64.wrap (1 * 2 ^ k) = p2 k := rfl
          have hsh2 : IntKind.i64.wrap (2 ^ k) = p2 k := by unfold p2; rw [Int.one_mul]
          have hsub : IntKind.i64.wrap (p2 k - 1) = setsAt k := rfl
          have hk3 : (k : Int) ≤ 64 := by omega
          clear hx
          cases hq : inB x 0 (setsAt k)
          · have hF := Lib.hid (hV.out.trans (okSets_no hXx.out hq hlt))
            go_wp2_with (go_at_call 45; refine (isWithin_any _ _ _ _).mono ?_; rw [hq]; rintro e w' ⟨rfl, rfl⟩)
            go_ret
            exact ⟨ret_bool (by rw [hF.out]), rfl⟩
          · have hP2 := Lib.hid (show okSets bs (k + 1) = true by rw [okSets_step hXx.out, hP.out, hq]; rfl)
            go_wp2_with (go_at_call 45; refine (isWithin_any _ _ _ _).mono ?_; rw [hq]; rintro e w' ⟨rfl, rfl⟩)
            go_roundw
            case rel => exact ⟨k + 1, by omega, by go_num, hP2, by trivial⟩
            case measure => simp [intOf]; omega
        · have hF := Lib.hid (hV.out.trans (show okSets bs n = true by rw [show n = k by omega]; exact hP.out))
          go_wp2
          go_ret
          exact ⟨ret_bool (by rw [hF.out]), rfl⟩
    · have hV := Lib.hid (show isLine ts bs = false by unfold isLine; rw [decide_eq_false he, Bool.and_false]; rfl)
      have hb : ((bs.length : Int) != (ts.length : Int)) = true := by rw [bne_iff_ne]; omega
      have hb2 : (bs.length != ts.length) = true := by rw [bne_iff_ne]; exact he
      clear h1 h2 hc2 hq he
      generalize ts.length = n at *
      generalize bs.length = m at *
      unfold maxLen at hl1 hl2
      go_enter Try.func17, Try.ntmps17
      go_wp2_with (go_at_call 44; refine (hT.out).mono ?_; rintro e w' ⟨rfl, rfl⟩)
      go_ret
      exact ⟨ret_bool (by rw [hV.out]), rfl⟩
set_option maxHeartbeats 1000000 in
theorem specIsLine_any (B : Nat) (v1 v2 : Value) (ts bs : List Int) (w : World) (h1 : LstI B w v1 ts) (h2 : LstI B w v2 bs) :
    Calls Try.prog 15 #[v1, v2] w fun e w' => e = .returned (.bool (isLine ts bs)) ∧ w = w' := by
  have hT := Lib.hid (l04Line_any B v1 v2 ts bs w h1 h2)
  clear h1 h2
  go_enter Try.func15, Try.ntmps15
  go_wp2_with (go_at_call 43; refine (hT.out).mono ?_; rintro e w' ⟨rfl, rfl⟩)
  go_ret
  exact ⟨rfl, rfl⟩
theorem isLine_both (ts bs : List Int) (_ : ∀ x ∈ ts, (Lit.int .i64 x).wf = true) (_ : ∀ x ∈ bs, (Lit.int .i64 x).wf = true) : ∃ (r0 : Bool),
    (∀ (B : Nat) (v1 v2 : Value) (w : World), LstI B w v1 ts → LstI B w v2 bs → B ≤ w.heap.size → Calls Try.prog 15 #[v1, v2] w fun e w' => e = .returned (.bool r0) ∧ Below w.heap.size w w') ∧
    (∀ (B : Nat) (v1 v2 : Value) (w : World), LstI B w v1 ts → LstI B w v2 bs → B ≤ w.heap.size → Calls Try.prog 17 #[v1, v2] w fun e w' => e = .returned (.bool r0) ∧ Below w.heap.size w w') :=
  ⟨isLine ts bs, fun B v1 v2 w h1 h2 _ => (specIsLine_any B v1 v2 ts bs w h1 h2).mono fun _ _ ⟨he, hw⟩ => ⟨he, by rw [← hw]; exact Below.refl _ _⟩, fun B v1 v2 w h1 h2 _ => (implIsLine_any B v1 v2 ts bs w h1 h2).mono fun _ _ ⟨he, hw⟩ => ⟨he, by rw [← hw]; exact Below.refl _ _⟩⟩
end Go.Proofs.Ytfigojmdklaljaa
