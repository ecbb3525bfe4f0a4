/- Contracts: which lists are jobs. -/
import Derived.Test.YtnkbnkiaokkjhaaRowJob
namespace Go.Proofs.Ytnkbnkiaokkjhaa
open Go.RowKit Go.Lst

/-- n is from lo to hi. -/
def inB (n lo hi : Int) : Bool := decide (lo ≤ n ∧ n ≤ hi)
theorem inB_true {n lo hi : Int} (h : inB n lo hi = true) : lo ≤ n ∧ n ≤ hi := by simpa [inB] using h
theorem inB_false {n lo hi : Int} (h : inB n lo hi = false) : n < lo ∨ hi < n := by
  have : ¬ (lo ≤ n ∧ n ≤ hi) := by simpa only [inB, decide_eq_false_iff_not] using h
  omega

theorem ret_bool {p q : Bool} (h : p = q) : Ending.returned (.bool p) = .returned (.bool q) := by rw [h]
theorem getD_of {ts : List Int} {k : Nat} {x : Int} (h : ts[k]? = some x) : ts.getD k 0 = x := by rw [List.getD_eq_getElem?_getD, h]; rfl
theorem ret_ib {p q : Int} {b : Bool} (h : p = q) : Ending.returned (.tuple #[.int .i64 p, .bool b]) = .returned (.tuple #[.int .i64 q, .bool b]) := by rw [h]
theorem ret_int {p q : Int} (h : p = q) : Ending.returned (.int .i64 p) = .returned (.int .i64 q) := by rw [h]

theorem l00In_any (n lo hi : Int) (w : World) : Calls Try.prog 18 #[.int .i64 n, .int .i64 lo, .int .i64 hi] w fun e w' => e = .returned (.bool (inB n lo hi)) ∧ w = w' := by
  cases h : inB n lo hi
  · exact l00In_no n lo hi (inB_false h) w
  · exact l00In_yes n lo hi (inB_true h).1 (inB_true h).2 w
theorem l00In_is {q : Bool} (n lo hi : Int) (h : inB n lo hi = q) (w : World) : Calls Try.prog 18 #[.int .i64 n, .int .i64 lo, .int .i64 hi] w fun e w' => e = .returned (.bool q) ∧ w = w' := by
  rw [← h]; exact l00In_any n lo hi w
set_option maxHeartbeats 400000 in
theorem isWithin_any (n lo hi : Int) (w : World) : Calls Try.prog 46 #[.int .i64 n, .int .i64 lo, .int .i64 hi] w fun e w' => e = .returned (.bool (inB n lo hi)) ∧ w = w' := by
  by_cases h1 : lo ≤ n
  · by_cases h2 : n ≤ hi
    · have hv : inB n lo hi = true := by simp [inB, h1, h2]
      rw [hv]
      clear hv
      go_enter Try.func46, Try.ntmps46
      go_wp2
      go_ret
      exact ⟨rfl, rfl⟩
    · have hv : inB n lo hi = false := by simp [inB]; omega
      have h3 : decide (n ≤ hi) = false := by simpa using h2
      rw [hv]
      clear hv
      go_enter Try.func46, Try.ntmps46
      go_wp2
      go_ret
      exact ⟨rfl, rfl⟩
  · have hv : inB n lo hi = false := by simp [inB]; omega
    have h3 : decide (lo ≤ n) = false := by simpa using h1
    rw [hv]
    clear hv
    go_enter Try.func46, Try.ntmps46
    go_wp2
    go_ret
    exact ⟨rfl, rfl⟩
/-- All numbers are from lo to hi. -/
def allIn (xs : List Int) (lo hi : Int) : Bool := xs.all fun x => inB x lo hi
theorem allIn_of {xs : List Int} {lo hi : Int} (h : allIn xs lo hi = true) {i : Nat} {x : Int} (hx : xs[i]? = some x) : lo ≤ x ∧ x ≤ hi :=
  inB_true (List.all_eq_true.1 h x (List.mem_of_getElem? hx))
theorem all_upto {α : Type} {p : α → Bool} {xs : List α} (h : ∀ i x, i < xs.length → xs[i]? = some x → p x = true) : xs.all p = true :=
  List.all_eq_true.2 fun x hx => by
    obtain ⟨i, hi, rfl⟩ := List.mem_iff_getElem.1 hx
    exact h i _ hi (List.getElem?_eq_getElem hi)
theorem all_not {α : Type} {p : α → Bool} {xs : List α} {i : Nat} {x : α} (hx : xs[i]? = some x) (h : p x = false) : xs.all p = false := by
  cases ha : xs.all p
  · rfl
  · rw [List.all_eq_true.1 ha x (List.mem_of_getElem? hx)] at h; cases h

set_option maxHeartbeats 1000000 in
theorem areWithin_any (B : Nat) (v : Value) (xs : List Int) (lo hi : Int) (w : World) (h : Lst B w v (xs.map (Value.int .i64))) :
    Calls Try.prog 47 #[v, .int .i64 lo, .int .i64 hi] w fun e w' => e = .returned (.bool (allIn xs lo hi)) ∧ w = w' := by
  obtain ⟨a, cap, rfl, hl, hc⟩ := h
  rw [List.length_map] at hl ⊢
  have hX : Hid (∀ k, k < xs.length → ∃ b o x, a = some ⟨b, o, none⟩ ∧ w.cell? ⟨b, o + k, none⟩ = some (.int .i64 x) ∧ xs[k]? = some x) := Lib.hid fun k hk => by
    obtain ⟨b, o, ha, _, hb⟩ := hc (by intro h0; simp at h0; rw [h0] at hk; simp at hk)
    have e1 : xs[k]? = some xs[k] := List.getElem?_eq_getElem _
    exact ⟨b, o, xs[k], ha, hb k _ (by rw [List.getElem?_map, e1]; rfl), e1⟩
  clear hc
  have hN : Hid (∀ k, k = xs.length → (∀ i x, i < k → xs[i]? = some x → inB x lo hi = true) → allIn xs lo hi = true) := Lib.hid fun k hk hp => all_upto fun i x hi hx => hp i x (by omega) hx
  generalize xs.length = n at *
  unfold maxLen at hl
  go_enter Try.func47, Try.ntmps47
  go_wp2
  go_loopw [11] (fun i wr => ∃ k : Nat, k ≤ n ∧ i = .int .i64 k ∧ Hid (∀ i x, i < k → xs[i]? = some x → inB x lo hi = true) ∧ wr = w) (fun i _ => n - (intOf i).toNat)
  case atStart => exact ⟨0, Nat.zero_le _, rfl, Lib.hid (fun i x hi _ => by omega), rfl⟩
  case round =>
    obtain ⟨k, hk, rfl, hP, rfl⟩ := hrel
    by_cases hlt : k < n
    · obtain ⟨b, o, x, rfl, hcell, hx⟩ := hX.out k hlt
      have hXx := Lib.hid hx
      clear hx
      cases hq : inB x lo hi
      · have hF := Lib.hid (show allIn xs lo hi = false from all_not hXx.out hq)
        go_wp2_with (go_at_call 46; refine (isWithin_any _ _ _ _).mono ?_; rintro e w' ⟨rfl, rfl⟩)
        go_ret
        exact ⟨by rw [hF.out]; rfl, rfl⟩
      · have hP2 : Hid (∀ i y, i < k + 1 → xs[i]? = some y → inB y lo hi = true) := Lib.hid fun i y hi hy => by
          by_cases h1 : i < k
          · exact hP.out i y h1 hy
          · have : i = k := by omega
            subst this
            rw [hXx.out] at hy
            cases hy
            exact hq
        go_wp2_with (go_at_call 46; refine (isWithin_any _ _ _ _).mono ?_; rintro e w' ⟨rfl, rfl⟩)
        go_roundw
        case rel => exact ⟨k + 1, by omega, by go_num, hP2, by trivial⟩
        case measure => simp [intOf]; omega
    · have hF := Lib.hid (hN.out k (by omega) hP.out)
      go_wp2
      go_ret
      exact ⟨by rw [hF.out]; rfl, rfl⟩

def okJob (x : JobD) : Bool := inB x.Time 1 10000 && inB x.Release 0 10000 && inB x.Due 0 10000 && inB x.Weight 0 10000
def areJobs (xs : List JobD) : Bool := decide (1 ≤ xs.length) && decide (xs.length ≤ 24) && xs.all okJob
theorem okJob_of {x : JobD} (h : okJob x = true) : (1 ≤ x.Time ∧ x.Time ≤ 10000) ∧ (0 ≤ x.Release ∧ x.Release ≤ 10000) ∧ (0 ≤ x.Due ∧ x.Due ≤ 10000) ∧ (0 ≤ x.Weight ∧ x.Weight ≤ 10000) := by
  simp only [okJob, Bool.and_eq_true] at h
  exact ⟨inB_true h.1.1.1, inB_true h.1.1.2, inB_true h.1.2, inB_true h.2⟩
theorem okJob_rest {x : JobD} (h : allIn [x.Release, x.Due, x.Weight] 0 10000 = false) : okJob x = false := by
  simp only [allIn, List.all_cons, List.all_nil, Bool.and_true] at h
  unfold okJob
  rw [Bool.and_assoc, Bool.and_assoc, h, Bool.and_false]
theorem okJob_both {x : JobD} (h1 : inB x.Time 1 10000 = true) (h : allIn [x.Release, x.Due, x.Weight] 0 10000 = true) : okJob x = true := by
  simp only [allIn, List.all_cons, List.all_nil, Bool.and_true] at h
  unfold okJob
  rw [Bool.and_assoc, Bool.and_assoc, h, h1]; rfl
theorem areJobs_of {xs : List JobD} (h : areJobs xs = true) : 1 ≤ xs.length ∧ xs.length ≤ 24 ∧ ∀ (i : Nat) (x : JobD), xs[i]? = some x → okJob x = true := by
  simp only [areJobs, Bool.and_eq_true, decide_eq_true_eq] at h
  exact ⟨h.1.1, h.1.2, fun i x hx => List.all_eq_true.1 h.2 x (List.mem_of_getElem? hx)⟩

set_option maxHeartbeats 1000000 in
theorem l02Job_any (b o : Nat) (x : JobD) (w : World) (h0 : w.cell? ⟨b, o, none⟩ = some (.int .i64 x.Time)) (h1 : w.cell? ⟨b, o + 1, none⟩ = some (.int .i64 x.Release)) (h2 : w.cell? ⟨b, o + 2, none⟩ = some (.int .i64 x.Due)) (h3 : w.cell? ⟨b, o + 3, none⟩ = some (.int .i64 x.Weight)) :
    Calls Try.prog 35 #[.pointer (some ⟨b, o, none⟩)] w (Ret (.bool (okJob x)) w) := by
  unfold okJob
  cases hT : inB x.Time 1 10000 <;> cases hR : inB x.Release 0 10000 <;> cases hD : inB x.Due 0 10000 <;> cases hW : inB x.Weight 0 10000
  all_goals
    go_enter Try.func35, Try.ntmps35
    go_wp2_with (go_at_call 18; refine (l00In_any _ _ _ _).mono ?_; rintro e w' ⟨rfl, rfl⟩)
    go_ret
    exact Ret.later _ _ 0
set_option maxHeartbeats 1000000 in
theorem l02Jobs_any (B : Nat) (v : Value) (xs : List JobD) (w : World) (h : LstJob B w v xs) :
    Calls Try.prog 17 #[v] w (Ret (.bool (areJobs xs)) w) := by
  obtain ⟨a, cap, rfl, hl, _, _, hc⟩ := h.at_
  have hN : Hid (∀ k, k = xs.length → (∀ i x, i < k → xs[i]? = some x → okJob x = true) → areJobs xs = (decide (1 ≤ xs.length) && decide (xs.length ≤ 24))) := Lib.hid fun k hk hp => by
    unfold areJobs
    rw [all_upto fun i x hi hx => hp i x (by omega) hx, Bool.and_true]
  have hM : Hid (∀ (i : Nat) (x : JobD), xs[i]? = some x → okJob x = false → areJobs xs = false) := Lib.hid fun i x hx hq => by
    unfold areJobs
    rw [all_not hx hq, Bool.and_false]
  have hC := Lib.hid hc
  clear hc
  generalize xs.length = n at *
  unfold maxLen at hl
  go_enter Try.func17, Try.ntmps17
  go_wp2_with fail
  go_loopw [3] (fun i wr => ∃ k m : Nat, k ≤ n ∧ i = .int .i64 k ∧ Hid (∀ i x, i < k → xs[i]? = some x → okJob x = true) ∧ wr = w.drewN m) (fun i _ => n - (intOf i).toNat)
  case atStart => exact ⟨0, 0, Nat.zero_le _, rfl, Lib.hid (fun i x hi _ => by omega), rfl⟩
  case round =>
    obtain ⟨k, m, hk, rfl, hP, rfl⟩ := hrel
    by_cases hlt : k < n
    · obtain ⟨b, o, x, rfl, _, hx, h0, h1, h2, h3⟩ := hC.out k hlt
      have hXx := Lib.hid hx
      clear hx
      rw [← World.cell?_drewN (n := m)] at h0 h1 h2 h3
      have hJ := Lib.hid (l02Job_any b (o + k * 4) x _ h0 h1 h2 h3)
      clear h0 h1 h2 h3
      cases hq : okJob x
      · have hF := Lib.hid (hM.out k x hXx.out hq)
        have hQ := Lib.hid hq
        clear hq
        go_wp2_with fail
        refine (hJ.out).mono ?_
        rw [hQ.out]
        rintro e w' ⟨j, rfl, rfl⟩
        go_wp2_with fail
        go_ret
        exact ⟨_, by rw [hF.out]; rfl, by first | rfl | exact World.drewN_drewN ..⟩
      · have hP2 : Hid (∀ i y, i < k + 1 → xs[i]? = some y → okJob y = true) := Lib.hid fun i y hi hy => by
          by_cases h1 : i < k
          · exact hP.out i y h1 hy
          · have : i = k := by omega
            subst this
            rw [hXx.out] at hy
            cases hy
            exact hq
        have hQ := Lib.hid hq
        clear hq
        go_wp2_with fail
        refine (hJ.out).mono ?_
        rw [hQ.out]
        rintro e w' ⟨j, rfl, rfl⟩
        go_wp2_with fail
        go_roundw
        case rel => exact ⟨k + 1, _, by omega, by go_num, hP2, by first | rfl | exact World.drewN_drewN ..⟩
        case measure => simp [intOf]; omega
    · have hF := Lib.hid (hN.out k (by omega) hP.out)
      by_cases h1 : 1 ≤ n
      · by_cases h2 : n ≤ 24
        · have hV := Lib.hid (show areJobs xs = true by rw [hF.out]; simp [h1, h2])
          go_wp2
          go_ret
          exact ⟨_, ret_bool (by first | (rw [hV.out]; done) | (rw [hV.out]; simp; omega) | (rw [hV.out]; simp)), rfl⟩
        · have hV := Lib.hid (show areJobs xs = false by rw [hF.out]; simp [h2])
          go_wp2
          go_ret
          exact ⟨_, ret_bool (by first | (rw [hV.out]; done) | (rw [hV.out]; simp; omega) | (rw [hV.out]; simp)), rfl⟩
      · have hV := Lib.hid (show areJobs xs = false by rw [hF.out]; simp [h1])
        go_wp2
        go_ret
        exact ⟨_, ret_bool (by first | (rw [hV.out]; done) | (rw [hV.out]; simp; omega) | (rw [hV.out]; simp)), rfl⟩

set_option maxHeartbeats 2000000 in
theorem areJobs_any (B : Nat) (v : Value) (xs : List JobD) (w : World) (h : LstJob B w v xs) (hB : B ≤ w.heap.size) :
    Calls Try.prog 24 #[v] w fun e w' => e = .returned (.bool (areJobs xs)) ∧ Below w.heap.size w w' := by
  obtain ⟨a, cap, rfl, hl, _, _, hc⟩ := h.at_
  by_cases hlo : xs.length < 1
  · have hV := Lib.hid (show areJobs xs = false by unfold areJobs; rw [decide_eq_false (show ¬ 1 ≤ xs.length by omega)]; rfl)
    generalize xs.length = n at *
    unfold maxLen at hl
    go_enter Try.func24, Try.ntmps24
    go_wp2_with fail
    go_ret
    exact ⟨ret_bool (by rw [hV.out]), Below.refl _ _⟩
  · by_cases hhi : 24 < xs.length
    · have hV := Lib.hid (show areJobs xs = false by unfold areJobs; rw [decide_eq_false (show ¬ xs.length ≤ 24 by omega), Bool.and_false]; rfl)
      generalize xs.length = n at *
      unfold maxLen at hl
      go_enter Try.func24, Try.ntmps24
      go_wp2_with fail
      go_ret
      exact ⟨ret_bool (by rw [hV.out]), Below.refl _ _⟩
    · have hN : Hid (∀ k, k = xs.length → (∀ i x, i < k → xs[i]? = some x → okJob x = true) → areJobs xs = true) := Lib.hid fun k hk hp => by
        unfold areJobs
        rw [all_upto fun i x hi hx => hp i x (by omega) hx, Bool.and_true]
        simp; omega
      have hM : Hid (∀ (i : Nat) (x : JobD), xs[i]? = some x → okJob x = false → areJobs xs = false) := Lib.hid fun i x hx hq => by
        unfold areJobs
        rw [all_not hx hq, Bool.and_false]
      have hC := Lib.hid hc
      clear hc
      generalize xs.length = n at *
      unfold maxLen at hl
      go_enter Try.func24, Try.ntmps24
      go_wp2_with fail
      go_loopw [16] (fun i wr => ∃ k : Nat, k ≤ n ∧ i = .int .i64 k ∧ Hid (∀ i x, i < k → xs[i]? = some x → okJob x = true) ∧ Hid (Below w.heap.size w wr)) (fun i _ => n - (intOf i).toNat)
      case atStart => exact ⟨0, Nat.zero_le _, rfl, Lib.hid (fun i x hi _ => by omega), Lib.hid (Below.refl _ _)⟩
      case round =>
        obtain ⟨k, hk, rfl, hP, hB1⟩ := hrel
        by_cases hlt : k < n
        · obtain ⟨b, o, x, rfl, hb, hx, h0, h1, h2, h3⟩ := hC.out k hlt
          have hXx := Lib.hid hx
          rw [← hB1.out.cell (p := ⟨b, o + k * 4, none⟩) (show b < w.heap.size by omega)] at h0
          rw [← hB1.out.cell (p := ⟨b, o + k * 4 + 1, none⟩) (show b < w.heap.size by omega)] at h1
          rw [← hB1.out.cell (p := ⟨b, o + k * 4 + 2, none⟩) (show b < w.heap.size by omega)] at h2
          rw [← hB1.out.cell (p := ⟨b, o + k * 4 + 3, none⟩) (show b < w.heap.size by omega)] at h3
          clear hx hb
          cases hT : inB x.Time 1 10000
          · have hF := Lib.hid (hM.out k x hXx.out (by unfold okJob; rw [hT]; rfl))
            go_wp2_with fail
            refine (isWithin_any _ _ _ _).mono ?_
            rintro e w' ⟨rfl, rfl⟩
            go_wp2_with fail
            go_ret
            exact ⟨ret_bool (by rw [hF.out]), by repeat (first | exact hB1.out | refine below_alloc ?_ _)⟩
          · go_wp2_with fail
            refine (isWithin_any _ _ _ _).mono ?_
            rintro e w' ⟨rfl, rfl⟩
            go_wp2_with fail
            refine (areWithin_any _ _ [x.Release, x.Due, x.Weight] _ _ _ (lst_lit _ (by simp) (by simp))).mono ?_
            cases hR : allIn [x.Release, x.Due, x.Weight] 0 10000
            · have hF := Lib.hid (hM.out k x hXx.out (okJob_rest hR))
              clear hR
              rintro e w' ⟨rfl, rfl⟩
              go_wp2_with fail
              go_ret
              exact ⟨ret_bool (by rw [hF.out]), by repeat (first | exact hB1.out | refine below_alloc ?_ _)⟩
            · have hP2 : Hid (∀ i y, i < k + 1 → xs[i]? = some y → okJob y = true) := Lib.hid fun i y hi hy => by
                by_cases h1 : i < k
                · exact hP.out i y h1 hy
                · have : i = k := by omega
                  subst this
                  rw [hXx.out] at hy
                  cases hy
                  exact okJob_both hT hR
              clear hR
              rintro e w' ⟨rfl, rfl⟩
              go_wp2_with fail
              go_roundw
              case rel => exact ⟨k + 1, by omega, by go_num, hP2, by repeat (first | exact hB1 | exact hB1.out | refine below_alloc ?_ _)⟩
              case measure => simp [intOf]; omega
        · have hF := Lib.hid (hN.out k (by omega) hP.out)
          go_wp2
          go_ret
          exact ⟨ret_bool (by rw [hF.out]), hB1.out⟩

end Go.Proofs.Ytnkbnkiaokkjhaa
