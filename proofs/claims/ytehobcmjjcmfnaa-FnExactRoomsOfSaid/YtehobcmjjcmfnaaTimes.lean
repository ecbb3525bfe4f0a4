/- Contracts: times of jobs on alike machines; sums and greatest ones of lists; a bound of the last end. -/
import Derived.Test.YtehobcmjjcmfnaaAreJobs
import Derived.IntWalk
namespace Go.Proofs.Ytehobcmjjcmfnaa
open Go.RowKit Go.Lst

def sumTo (ts : List Int) : Nat → Int
  | 0 => 0
  | k + 1 => sumTo ts k + ts.getD k 0
def maxTo (ts : List Int) : Nat → Int
  | 0 => ts.getD 0 0
  | k + 1 => max (maxTo ts k) (ts.getD (k + 1) 0)
theorem sumTo_bound {ts : List Int} {lo hi : Int} (h : ∀ (i : Nat) (x : Int), ts[i]? = some x → lo ≤ x ∧ x ≤ hi) (h0 : 0 ≤ lo) : ∀ k, k ≤ ts.length → 0 ≤ sumTo ts k ∧ sumTo ts k ≤ hi * k
  | 0, _ => by simp [sumTo]
  | k + 1, hk => by
    have ih := sumTo_bound h h0 k (by omega)
    have e : ts[k]? = some ts[k] := List.getElem?_eq_getElem _
    have hx := h k _ e
    unfold sumTo
    rw [getD_of e]
    have e1 : hi * ((k + 1 : Nat) : Int) = hi * (k : Int) + hi := by rw [Int.natCast_add]; exact Int.mul_add _ _ _ |>.trans (by simp)
    rw [e1]
    omega
theorem maxTo_bound {ts : List Int} {lo hi : Int} (h : ∀ (i : Nat) (x : Int), ts[i]? = some x → lo ≤ x ∧ x ≤ hi) : ∀ k, k < ts.length → lo ≤ maxTo ts k ∧ maxTo ts k ≤ hi
  | 0, hk => by
    have e : ts[0]? = some ts[0] := List.getElem?_eq_getElem _
    unfold maxTo
    rw [getD_of e]
    exact h 0 _ e
  | k + 1, hk => by
    have ih := maxTo_bound h k (by omega)
    have e : ts[k + 1]? = some ts[k + 1] := List.getElem?_eq_getElem _
    have hx := h _ _ e
    unfold maxTo
    rw [getD_of e]
    omega
theorem mx_eq (a b : Int) : (if a < b then b else a) = max a b := by split <;> omega

set_option maxHeartbeats 400000 in
theorem l00Max_any (a b : Int) (w : World) : Calls Try.prog 57 #[.int .i64 a, .int .i64 b] w fun e w' => e = .returned (.int .i64 (max a b)) ∧ w = w' := by
  by_cases h : b < a
  · have hv : max a b = a := by omega
    rw [hv]
    clear hv
    go_enter Try.func57, Try.ntmps57
    go_wp2
    go_ret
    exact ⟨rfl, rfl⟩
  · have hv : max a b = b := by omega
    have hd : decide (b < a) = false := by simpa using h
    rw [hv]
    clear hv
    go_enter Try.func57, Try.ntmps57
    go_wp2
    go_ret
    exact ⟨rfl, rfl⟩


def Small (fs : List Int) (hi : Int) : Prop := ∀ i, 0 ≤ fs.getD i 0 ∧ fs.getD i 0 ≤ hi
theorem Small.set {fs : List Int} {hi hi' x : Int} {i : Nat} (h : Small fs hi) (hx : 0 ≤ x ∧ x ≤ hi') (hle : hi ≤ hi') : Small (fs.set i x) hi' := fun k => by
  have := h k
  rw [List.getD_eq_getElem?_getD] at this ⊢
  by_cases e : i = k
  · subst e
    by_cases hl : i < fs.length
    · rw [List.getElem?_set_self hl]; exact hx
    · rw [List.getElem?_eq_none (by rw [List.length_set]; omega)]; exact ⟨by simp, by simp; omega⟩
  · rw [List.getElem?_set_ne e]
    omega
/-- Times of jobs, and so many machines. -/
def okTimes (ts : List Int) : Bool := decide (1 ≤ ts.length) && decide (ts.length ≤ 24) && allIn ts 1 10000
def areTimes (ts : List Int) (m : Int) : Bool := okTimes ts && inB m 1 8
theorem okTimes_of {ts : List Int} (h : okTimes ts = true) : 1 ≤ ts.length ∧ ts.length ≤ 24 ∧ ∀ (i : Nat) (x : Int), ts[i]? = some x → 1 ≤ x ∧ x ≤ 10000 := by
  simp only [okTimes, Bool.and_eq_true, decide_eq_true_eq] at h
  exact ⟨h.1.1, h.1.2, fun i x hx => allIn_of h.2 hx⟩

set_option maxHeartbeats 1000000 in
theorem areTimes_any (B : Nat) (v : Value) (ts : List Int) (m : Int) (w : World) (h : LstI B w v ts) :
    Calls Try.prog 32 #[v, .int .i64 m] w fun e w' => e = .returned (.bool (areTimes ts m)) ∧ w = w' := by
  have hA := Lib.hid (areWithin_any B v ts 1 10000 w h.lst)
  obtain ⟨a, cap, hv, hl, _⟩ := h.at_
  subst hv
  unfold areTimes okTimes
  clear h
  generalize allIn ts 1 10000 = q at *
  generalize ts.length = n at *
  unfold maxLen at hl
  by_cases h1 : 1 ≤ n
  · rw [decide_eq_true h1, Bool.true_and]
    by_cases h2 : n ≤ 24
    · rw [decide_eq_true h2, Bool.true_and]
      cases q
      · go_enter Try.func32, Try.ntmps32
        go_wp2_with (first | (go_at_call 61; refine (hA.out).mono ?_; rintro e w' ⟨rfl, rfl⟩) | (go_at_call 62; refine (isWithin_any _ _ _ _).mono ?_; rintro e w' ⟨rfl, rfl⟩))
        go_ret
        exact ⟨rfl, rfl⟩
      · rw [Bool.true_and]
        go_enter Try.func32, Try.ntmps32
        go_wp2_with (first | (go_at_call 61; refine (hA.out).mono ?_; rintro e w' ⟨rfl, rfl⟩) | (go_at_call 62; refine (isWithin_any _ _ _ _).mono ?_; rintro e w' ⟨rfl, rfl⟩))
        go_ret
        exact ⟨rfl, rfl⟩
    · rw [decide_eq_false h2]
      have h3 : 24 < n := by omega
      clear h2
      go_enter Try.func32, Try.ntmps32
      go_wp2_with fail
      go_ret
      exact ⟨rfl, rfl⟩
  · rw [decide_eq_false h1]
    have h3 : n < 1 := by omega
    clear h1
    go_enter Try.func32, Try.ntmps32
    go_wp2_with fail
    go_ret
    exact ⟨rfl, rfl⟩
set_option maxHeartbeats 1000000 in
theorem l02Times_any (B : Nat) (v : Value) (xs : List Int) (w : World) (h : LstI B w v xs) :
    Calls Try.prog 29 #[v] w fun e w' => e = .returned (.bool (okTimes xs)) ∧ w = w' := by
  obtain ⟨a, cap, rfl, hl, _, _, hc⟩ := h.at_
  have hN : Hid (∀ k, k = xs.length → (∀ i x, i < k → xs[i]? = some x → inB x 1 10000 = true) → okTimes xs = (decide (1 ≤ xs.length) && decide (xs.length ≤ 24))) := Lib.hid fun k hk hp => by
    unfold okTimes allIn
    rw [all_upto fun i x hi hx => hp i x (by omega) hx, Bool.and_true]
  have hM : Hid (∀ (i : Nat) (x : Int), xs[i]? = some x → inB x 1 10000 = false → okTimes xs = false) := Lib.hid fun i x hx hq => by
    unfold okTimes allIn
    rw [all_not hx hq, Bool.and_false]
  have hC := Lib.hid hc
  clear hc h
  generalize xs.length = n at *
  unfold maxLen at hl
  go_enter Try.func29, Try.ntmps29
  go_wp2_with fail
  go_loopw [3] (fun i wr => ∃ k : Nat, k ≤ n ∧ i = .int .i64 k ∧ Hid (∀ i x, i < k → xs[i]? = some x → inB x 1 10000 = true) ∧ wr = w) (fun i _ => n - (intOf i).toNat)
  case atStart => exact ⟨0, Nat.zero_le _, rfl, Lib.hid (fun i x hi _ => by omega), rfl⟩
  case round =>
    obtain ⟨k, hk, rfl, hP, rfl⟩ := hrel
    by_cases hlt : k < n
    · obtain ⟨b, o, x, rfl, _, hx, hcell⟩ := hC.out k hlt
      have hXx := Lib.hid hx
      clear hx
      cases hq : inB x 1 10000
      · have hF := Lib.hid (hM.out k x hXx.out hq)
        go_wp2_with (go_at_call 42; refine (l00In_any _ _ _ _).mono ?_; rintro e w' ⟨rfl, rfl⟩)
        go_ret
        exact ⟨ret_bool (by rw [hF.out]), rfl⟩
      · have hP2 : Hid (∀ i y, i < k + 1 → xs[i]? = some y → inB y 1 10000 = true) := Lib.hid fun i y hi hy => by
          by_cases h1 : i < k
          · exact hP.out i y h1 hy
          · have : i = k := by omega
            subst this
            rw [hXx.out] at hy
            cases hy
            exact hq
        go_wp2_with (go_at_call 42; refine (l00In_any _ _ _ _).mono ?_; rintro e w' ⟨rfl, rfl⟩)
        go_roundw
        case rel => exact ⟨k + 1, by omega, by go_num, hP2, by trivial⟩
        case measure => simp [intOf]; omega
    · have hF := Lib.hid (hN.out k (by omega) hP.out)
      by_cases h1 : 1 ≤ n
      · by_cases h2 : n ≤ 24
        · have hV := Lib.hid (show okTimes xs = true by rw [hF.out]; simp [h1, h2])
          go_wp2
          go_ret
          exact ⟨ret_bool (by first | (rw [hV.out]; done) | (rw [hV.out]; simp; omega) | (rw [hV.out]; simp)), rfl⟩
        · have hV := Lib.hid (show okTimes xs = false by rw [hF.out]; simp [h2])
          go_wp2
          go_ret
          exact ⟨ret_bool (by first | (rw [hV.out]; done) | (rw [hV.out]; simp; omega) | (rw [hV.out]; simp)), rfl⟩
      · have hV := Lib.hid (show okTimes xs = false by rw [hF.out]; simp [h1])
        go_wp2
        go_ret
        exact ⟨ret_bool (by first | (rw [hV.out]; done) | (rw [hV.out]; simp; omega) | (rw [hV.out]; simp)), rfl⟩
set_option maxHeartbeats 400000 in
theorem l02Machines_any (m : Int) (w : World) : Calls Try.prog 30 #[.int .i64 m] w fun e w' => e = .returned (.bool (inB m 1 8)) ∧ w = w' := by
  go_enter Try.func30, Try.ntmps30
  go_wp2_with (go_at_call 42; refine (l00In_any _ _ _ _).mono ?_; rintro e w' ⟨rfl, rfl⟩)
  go_ret
  exact ⟨rfl, rfl⟩
set_option maxHeartbeats 1000000 in
theorem l02Sum_any (B : Nat) (v : Value) (xs : List Int) (hi : Int) (w : World) (h : LstI B w v xs) (hb : ∀ k, k ≤ xs.length → 0 ≤ sumTo xs k ∧ sumTo xs k ≤ 1000000000000) (hx : ∀ (i : Nat) (x : Int), xs[i]? = some x → 0 ≤ x ∧ x ≤ 1000000000000) :
    Calls Try.prog 71 #[v] w fun e w' => e = .returned (.int .i64 (sumTo xs xs.length)) ∧ w = w' := by
  obtain ⟨a, cap, rfl, hl, _, _, hc⟩ := h.at_
  have hC := Lib.hid hc
  have hS : Hid (∀ (k : Nat) (x : Int), xs[k]? = some x → sumTo xs (k + 1) = sumTo xs k + x) := Lib.hid fun k x hx => by show sumTo xs k + xs.getD k 0 = _; rw [getD_of hx]
  have hB := Lib.hid hb
  have hXb := Lib.hid hx
  clear hc h hb hx
  generalize xs.length = n at *
  unfold maxLen at hl
  go_enter Try.func71, Try.ntmps71
  go_wp2_with fail
  go_loopw [3, 4] (fun s i wr => ∃ (k : Nat) (z : Int), k ≤ n ∧ i = .int .i64 k ∧ s = .int .i64 z ∧ Hid (z = sumTo xs k) ∧ wr = w) (fun _ i _ => n - (intOf i).toNat)
  case atStart => exact ⟨0, 0, Nat.zero_le _, rfl, rfl, Lib.hid rfl, rfl⟩
  case round =>
    obtain ⟨k, z, hk, rfl, rfl, hZ, rfl⟩ := hrel
    by_cases hlt : k < n
    · obtain ⟨b, o, x, rfl, _, hx, hcell⟩ := hC.out k hlt
      have h1 := hB.out k hk
      have h2 := hXb.out k x hx
      rw [← hZ.out] at h1
      have hZ2 := Lib.hid (show z + x = sumTo xs (k + 1) by rw [hS.out k x hx, hZ.out])
      clear hx
      obtain ⟨h3, h4⟩ := h1
      obtain ⟨h5, h6⟩ := h2
      go_wp2_with fail
      go_roundw
      case rel => exact ⟨k + 1, _, by omega, by go_num, rfl, hZ2, by trivial⟩
      case measure => simp [intOf]; omega
    · have hZ2 := Lib.hid (show z = sumTo xs n by rw [hZ.out, show k = n by omega])
      go_wp2
      go_ret
      exact ⟨ret_int (by first | exact hZ2.out | (rw [← hZ2.out]; rfl)), rfl⟩
set_option maxHeartbeats 1000000 in
theorem l02Greatest_any (B : Nat) (v : Value) (xs : List Int) (w : World) (h : LstI B w v xs) (hp : 1 ≤ xs.length) :
    Calls Try.prog 70 #[v] w fun e w' => e = .returned (.int .i64 (maxTo xs (xs.length - 1))) ∧ w = w' := by
  obtain ⟨a, cap, rfl, hl, _, _, hc⟩ := h.at_
  have hC := Lib.hid hc
  have hS : Hid (∀ (k : Nat) (x : Int), xs[k + 1]? = some x → maxTo xs (k + 1) = max (maxTo xs k) x) := Lib.hid fun k x hx => by show max (maxTo xs k) (xs.getD (k + 1) 0) = _; rw [getD_of hx]
  have hZ : Hid (∀ x : Int, xs[0]? = some x → maxTo xs 0 = x) := Lib.hid fun x hx => getD_of hx
  clear hc h
  generalize xs.length = n at *
  unfold maxLen at hl
  obtain ⟨b, o, x0, rfl, hb0, hx0, hcell0⟩ := hC.out 0 (by omega)
  have hX0 := Lib.hid (hZ.out x0 hx0)
  have hn0 : (0 : Int) < (n : Int) := by omega
  rw [Nat.add_zero] at hcell0
  clear hx0 hb0
  go_enter Try.func70, Try.ntmps70
  go_wp2_with fail
  go_loopw [3, 4] (fun s i wr => ∃ (k : Nat) (z : Int), k + 1 ≤ n ∧ i = .int .i64 ((k + 1 : Nat) : Int) ∧ s = .int .i64 z ∧ Hid (z = maxTo xs k) ∧ wr = w) (fun _ i _ => n - (intOf i).toNat)
  case atStart => exact ⟨0, x0, by omega, rfl, rfl, Lib.hid hX0.out.symm, rfl⟩
  case round =>
    obtain ⟨k, z, hk, rfl, rfl, hZ1, rfl⟩ := hrel
    rw [show ((k + 1 : Nat) : Int) = (k : Int) + 1 by omega] at *
    by_cases hlt : k + 1 < n
    · obtain ⟨b', o', x, hab, _, hx, hcell⟩ := hC.out (k + 1) hlt
      injection hab with hab
      injection hab with e1 e2 _
      subst e1 e2
      have hZ2 := Lib.hid (show max z x = maxTo xs (k + 1) by rw [hS.out k x hx, hZ1.out])
      clear hx
      go_wp2_with (go_at_call 57; refine (l00Max_any _ _ _).mono ?_; rintro e w' ⟨rfl, rfl⟩)
      go_roundw
      case rel => exact ⟨k + 1, _, by omega, by go_num, rfl, hZ2, by trivial⟩
      case measure => simp [intOf]; omega
    · have hZ2 := Lib.hid (show z = maxTo xs (n - 1) by rw [hZ1.out, show n - 1 = k by omega])
      go_wp2
      go_ret
      exact ⟨ret_int (by first | exact hZ2.out | (rw [← hZ2.out]; rfl)), rfl⟩
set_option maxHeartbeats 1000000 in
theorem slicesMax_any (B : Nat) (v : Value) (xs : List Int) (w : World) (h : LstI B w v xs) (hp : 1 ≤ xs.length) :
    Calls Try.prog 69 #[v] w fun e w' => e = .returned (.int .i64 (maxTo xs (xs.length - 1))) ∧ w = w' := by
  obtain ⟨a, cap, rfl, hl, _, _, hc⟩ := h.at_
  have hC := Lib.hid hc
  have hS : Hid (∀ (k : Nat) (x : Int), xs[k + 1]? = some x → maxTo xs (k + 1) = max (maxTo xs k) x) := Lib.hid fun k x hx => by show max (maxTo xs k) (xs.getD (k + 1) 0) = _; rw [getD_of hx]
  have hZ : Hid (∀ x : Int, xs[0]? = some x → maxTo xs 0 = x) := Lib.hid fun x hx => getD_of hx
  clear hc h
  generalize xs.length = n at *
  unfold maxLen at hl
  obtain ⟨b, o, x0, rfl, hb0, hx0, hcell0⟩ := hC.out 0 (by omega)
  have hX0 := Lib.hid (hZ.out x0 hx0)
  have hn0 : (0 : Int) < (n : Int) := by omega
  rw [Nat.add_zero] at hcell0
  clear hx0 hb0
  go_enter Try.func69, Try.ntmps69
  go_wp2_with fail
  go_loopw [3, 4] (fun s i wr => ∃ (k : Nat) (z : Int), k + 1 ≤ n ∧ i = .int .i64 ((k + 1 : Nat) : Int) ∧ s = .int .i64 z ∧ Hid (z = maxTo xs k) ∧ wr = w) (fun _ i _ => n - (intOf i).toNat)
  case atStart => exact ⟨0, x0, by omega, rfl, rfl, Lib.hid hX0.out.symm, rfl⟩
  case round =>
    obtain ⟨k, z, hk, rfl, rfl, hZ1, rfl⟩ := hrel
    rw [show ((k + 1 : Nat) : Int) = (k : Int) + 1 by omega] at *
    by_cases hlt : k + 1 < n
    · obtain ⟨b', o', x, hab, _, hx, hcell⟩ := hC.out (k + 1) hlt
      injection hab with hab
      injection hab with e1 e2 _
      subst e1 e2
      have hZ2 := Lib.hid (show max z x = maxTo xs (k + 1) by rw [hS.out k x hx, hZ1.out])
      clear hx
      go_wp2_with fail
      simp only [mx_eq]
      go_roundw
      case rel => exact ⟨k + 1, _, by omega, by go_num, rfl, hZ2, by trivial⟩
      case measure => simp [intOf]; omega
    · have hZ2 := Lib.hid (show z = maxTo xs (n - 1) by rw [hZ1.out, show n - 1 = k by omega])
      go_wp2
      go_ret
      exact ⟨ret_int (by first | exact hZ2.out | (rw [← hZ2.out]; rfl)), rfl⟩

/-- The greater one of the greatest time, and of the mean rounded up. -/
def boundOf (ts : List Int) (m : Int) : Int := max (maxTo ts (ts.length - 1)) ((sumTo ts ts.length + m - 1) / m)
theorem sums_small {ts : List Int} (h : okTimes ts = true) : ∀ k, k ≤ ts.length → 0 ≤ sumTo ts k ∧ sumTo ts k ≤ 1000000000000 := fun k hk => by
  have h1 := okTimes_of h
  have h2 := sumTo_bound (lo := 0) (hi := 10000) (fun i x hx => by have := h1.2.2 i x hx; omega) (by omega) k hk
  omega
set_option maxHeartbeats 1000000 in
theorem l02Bound_any (B : Nat) (v : Value) (ts : List Int) (m : Int) (w : World) (h : LstI B w v ts) (ht : okTimes ts = true) (hm : inB m 1 8 = true) :
    Calls Try.prog 37 #[v, .int .i64 m] w fun e w' => e = .returned (.int .i64 (boundOf ts m)) ∧ w = w' := by
  have hok := okTimes_of ht
  have hG := Lib.hid (l02Greatest_any B v ts w h hok.1)
  have hS := Lib.hid (l02Sum_any B v ts 0 w h (sums_small ht) (fun i x hx => by have := hok.2.2 i x hx; omega))
  have hb := sums_small ht ts.length (Nat.le_refl _)
  obtain ⟨m1, m2⟩ := inB_true hm
  obtain ⟨b1, b2⟩ := hb
  unfold boundOf
  clear hok ht hm h
  generalize maxTo ts (ts.length - 1) = g at *
  generalize sumTo ts ts.length = z at *
  go_enter Try.func37, Try.ntmps37
  go_wp2_with (first | (go_at_call 70; refine (hG.out).mono ?_; rintro e w' ⟨rfl, rfl⟩) | (go_at_call 71; refine (hS.out).mono ?_; rintro e w' ⟨rfl, rfl⟩) | (go_at_call 57; refine (l00Max_any _ _ _).mono ?_; rintro e w' ⟨rfl, rfl⟩))
  go_ret
  exact ⟨rfl, rfl⟩
def lastRes (ts : List Int) (m : Int) : Int := if areTimes ts m then boundOf ts m else 0
set_option maxHeartbeats 1000000 in
theorem implLastBound_any (B : Nat) (v : Value) (ts : List Int) (m : Int) (w : World) (h : LstI B w v ts) :
    Calls Try.prog 39 #[v, .int .i64 m] w (Ret (.tuple #[.int .i64 (lastRes ts m), .bool (areTimes ts m)]) w) := by
  have hA := Lib.hid (areTimes_any B v ts m w h)
  unfold lastRes
  cases hq : areTimes ts m
  · rw [hq] at hA
    clear hq h
    go_enter Try.func39, Try.ntmps39
    go_wp2_with (go_at_call 32; refine (hA.out).mono ?_; rintro e w' ⟨rfl, rfl⟩)
    go_ret2
    exact Ret.now _ _
  · rw [hq] at hA
    rw [if_pos rfl]
    have hq2 := hq
    simp only [areTimes, Bool.and_eq_true] at hq2
    obtain ⟨ht, hm⟩ := hq2
    obtain ⟨m1, m2⟩ := inB_true hm
    have hok := okTimes_of ht
    have hM := Lib.hid (fun nn => slicesMax_any B v ts (w.drewN nn) (h.drewN nn) hok.1)
    obtain ⟨a, cap, rfl, hl, _, _, hc⟩ := h.at_
    have hC := Lib.hid hc
    have hS : Hid (∀ (k : Nat) (x : Int), ts[k]? = some x → sumTo ts (k + 1) = sumTo ts k + x) := Lib.hid fun k x hx => by show sumTo ts k + ts.getD k 0 = _; rw [getD_of hx]
    have hB := Lib.hid (sums_small ht)
    have hXb := Lib.hid hok.2.2
    have h24 := hok.2.1
    have hV := Lib.hid (show boundOf ts m = max (maxTo ts (ts.length - 1)) ((sumTo ts ts.length + m - 1) / m) from rfl)
    clear hq h hc ht hm hok
    generalize boundOf ts m = z at *
    generalize maxTo ts (ts.length - 1) = g at *
    generalize ts.length = n at *
    go_enter Try.func39, Try.ntmps39
    go_wp2_with (go_at_call 32; refine (hA.out).mono ?_; rintro e w' ⟨rfl, rfl⟩)
    go_loopw [6, 15] (fun s i wr => ∃ (k : Nat) (y : Int), k ≤ n ∧ i = .int .i64 k ∧ s = .int .i64 y ∧ Hid (y = sumTo ts k) ∧ wr = w) (fun _ i _ => n - (intOf i).toNat)
    case atStart => exact ⟨0, 0, Nat.zero_le _, rfl, rfl, Lib.hid rfl, rfl⟩
    case round =>
      obtain ⟨k, y, hk, rfl, rfl, hZ, rfl⟩ := hrel
      have h1 := hB.out k hk
      rw [← hZ.out] at h1
      obtain ⟨h3, h4⟩ := h1
      by_cases hlt : k < n
      · obtain ⟨b, o, x, rfl, _, hx, hcell⟩ := hC.out k hlt
        have h2 := hXb.out k x hx
        have hZ2 := Lib.hid (show y + x = sumTo ts (k + 1) by rw [hS.out k x hx, hZ.out])
        clear hx
        obtain ⟨h5, h6⟩ := h2
        go_wp2_with fail
        go_roundw
        case rel => exact ⟨k + 1, _, by omega, by go_num, rfl, hZ2, by trivial⟩
        case measure => simp [intOf]; omega
      · have hV2 := Lib.hid (show z = max g ((y + m - 1) / m) by rw [hV.out, hZ.out, show k = n by omega])
        have hm0 : (m == 0) = false := by rw [beq_eq_false_iff_ne]; omega
        have hw1 : IntKind.i64.wrap (y + m) = y + m := IntWalk.i64_in _ (by omega)
        have hw2 : IntKind.i64.wrap (y + m - 1) = y + m - 1 := IntWalk.i64_in _ (by omega)
        have hw3 : 0 ≤ y + m - 1 := by omega
        go_wp2_with fail
        go_quiet ((go_at_call 69; exact Ret.quiet (Ret.same (hM.out _))))
        go_wp2_with fail
        all_goals
          go_ret2
          exact ⟨_, ret_ib (by rw [hV2.out]; generalize (y + m - 1) / m = qq at *; omega), rfl⟩
end Go.Proofs.Ytehobcmjjcmfnaa
