/- Contracts: which lists are trips. -/
import Derived.Test.YtmnogipmpojoaaaRowTrip
import Derived.Test.YtmnogipmpojoaaaAreJobs
import Derived.Test.YtmnogipmpojoaaaBlk
namespace Go.Proofs.Ytmnogipmpojoaaa
open Go.RowKit Go.Lst

def okTrip (x : TripD) : Bool := inB x.Start 0 10000 && inB x.End 0 10000 && decide (x.Start < x.End) && inB x.From 0 7 && inB x.To 0 7
def areTrips (xs : List TripD) : Bool := (decide (1 ≤ xs.length) && decide (xs.length ≤ 24)) && xs.all okTrip
theorem okTrip_of {x : TripD} (h : okTrip x = true) : (0 ≤ x.Start ∧ x.Start ≤ 10000) ∧ (0 ≤ x.End ∧ x.End ≤ 10000) ∧ x.Start < x.End ∧ (0 ≤ x.From ∧ x.From ≤ 7) ∧ (0 ≤ x.To ∧ x.To ≤ 7) := by
  simp only [okTrip, Bool.and_eq_true, decide_eq_true_eq] at h
  exact ⟨inB_true h.1.1.1.1, inB_true h.1.1.1.2, h.1.1.2, inB_true h.1.2, inB_true h.2⟩
theorem okTrip_1 {x : TripD} (h : x.Start < 0) : okTrip x = false := by
  have : inB x.Start 0 10000 = false := by simp [inB]; omega
  simp [okTrip, this]
theorem okTrip_2 {x : TripD} (h : ¬ x.Start < x.End) : okTrip x = false := by simp [okTrip, h]
theorem okTrip_3 {x : TripD} (h : 10000 < x.End) : okTrip x = false := by
  have : inB x.End 0 10000 = false := by simp [inB]; omega
  simp [okTrip, this]
theorem okTrip_4 {x : TripD} (h1 : ¬ x.Start < 0) (h2 : x.Start < x.End) (h3 : ¬ 10000 < x.End) : okTrip x = allIn [x.From, x.To] 0 7 := by
  have a1 : inB x.Start 0 10000 = true := by simp [inB]; omega
  have a2 : inB x.End 0 10000 = true := by simp [inB]; omega
  simp only [okTrip, a1, a2, decide_eq_true h2, allIn, List.all_cons, List.all_nil, Bool.and_true, Bool.true_and]
theorem areTrips_of {xs : List TripD} (h : areTrips xs = true) : 1 ≤ xs.length ∧ xs.length ≤ 24 ∧ ∀ (i : Nat) (x : TripD), xs[i]? = some x → okTrip x = true := by
  simp only [areTrips, Bool.and_eq_true, decide_eq_true_eq] at h
  exact ⟨h.1.1, h.1.2, fun i x hx => List.all_eq_true.1 h.2 x (List.mem_of_getElem? hx)⟩
theorem areTrips_2 {xs : List TripD} (h : xs.length < 1) : areTrips xs = false := by
  unfold areTrips; rw [decide_eq_false (show ¬ 1 ≤ xs.length by omega)]; simp
theorem areTrips_3 {xs : List TripD} (h : 24 < xs.length) : areTrips xs = false := by
  unfold areTrips; rw [decide_eq_false (show ¬ xs.length ≤ 24 by omega)]; simp
theorem areTrips_4 {xs : List TripD} {k : Nat} {x : TripD} (hx : xs[k]? = some x) (h : okTrip x = false) : areTrips xs = false := by
  unfold areTrips; rw [all_not hx h, Bool.and_false]
theorem areTrips_5 {xs : List TripD} (h2 : ¬ xs.length < 1) (h3 : ¬ 24 < xs.length) : areTrips xs = xs.all okTrip := by
  unfold areTrips
  rw [decide_eq_true (show 1 ≤ xs.length by omega), decide_eq_true (show xs.length ≤ 24 by omega)]; simp
theorem all_anyT {α : Type} (p : α → Bool) (xs : List α) : xs.all p = !(xs.any fun x => !(p x)) := by
  induction xs with
  | nil => rfl
  | cons x xs ih => simp [ih, Bool.not_or]

set_option maxHeartbeats 4000000 in
theorem l06Trips_any (B : Nat) (v : Value) (xs : List TripD) (w : World) (h : LstTrip B w v xs) (hB : B ≤ w.heap.size) :
    Calls Try.prog 11 #[v] w fun e w' => e = .returned (.bool (areTrips xs)) ∧ Below w.heap.size w w' := by
  obtain ⟨a, cap, rfl, hl, _, _, hc⟩ := h.at_
  clear h
  have hN : Hid (∀ k, k = xs.length → (∀ i x, i < k → xs[i]? = some x → okTrip x = true) → areTrips xs = (decide (1 ≤ xs.length) && decide (xs.length ≤ 24))) := Lib.hid fun k hk hp => by
    unfold areTrips
    rw [all_upto fun i x hi hx => hp i x (by omega) hx, Bool.and_true]
  have hM : Hid (∀ (i : Nat) (x : TripD), xs[i]? = some x → okTrip x = false → areTrips xs = false) := Lib.hid fun i x hx hq => areTrips_4 hx hq
  have hC := Lib.hid hc
  clear hc
  generalize areTrips xs = q at *
  generalize xs.length = m at *
  unfold maxLen at hl
  go_enter Try.func11, Try.ntmps11
  go_wp2_with fail
  go_loopw [3] (fun i wr => ∃ k : Nat, k ≤ m ∧ i = .int .i64 k ∧ Hid (∀ i x, i < k → xs[i]? = some x → okTrip x = true) ∧ Hid (Below w.heap.size w wr)) (fun i _ => m - (intOf i).toNat)
  case atStart => exact ⟨0, Nat.zero_le _, rfl, Lib.hid (fun i x hi _ => by omega), Lib.hid (Below.refl _ _)⟩
  case round =>
    obtain ⟨k, hk, rfl, hP, hB1⟩ := hrel
    by_cases hlt : k < m
    · obtain ⟨b, o, x, rfl, hb, hx, h0, h1, h2, h3⟩ := hC.out k hlt
      have hXx := Lib.hid hx
      rw [← hB1.out.cell (p := ⟨b, o + k * 4, none⟩) (show b < w.heap.size by omega)] at h0
      rw [← hB1.out.cell (p := ⟨b, o + k * 4 + 1, none⟩) (show b < w.heap.size by omega)] at h1
      rw [← hB1.out.cell (p := ⟨b, o + k * 4 + 2, none⟩) (show b < w.heap.size by omega)] at h2
      rw [← hB1.out.cell (p := ⟨b, o + k * 4 + 3, none⟩) (show b < w.heap.size by omega)] at h3
      clear hx hb
      cases e0 : inB x.Start 0 10000
      case false =>
        have hF := Lib.hid (hM.out k x hXx.out (by simp [okTrip, e0]))
        go_wp2_with (go_at_call 13; refine (l00In_any _ _ _ _).mono ?_; rintro e w' ⟨rfl, rfl⟩)
        go_ret
        exact ⟨ret_bool (by rw [hF.out]), by repeat (first | exact hB1.out | refine below_alloc ?_ _ | refine below_drew ?_ _)⟩
      case true =>
        cases e1 : inB x.End 0 10000
        case false =>
          have hF := Lib.hid (hM.out k x hXx.out (by simp [okTrip, e0, e1]))
          go_wp2_with (go_at_call 13; refine (l00In_any _ _ _ _).mono ?_; rintro e w' ⟨rfl, rfl⟩)
          go_ret
          exact ⟨ret_bool (by rw [hF.out]), by repeat (first | exact hB1.out | refine below_alloc ?_ _ | refine below_drew ?_ _)⟩
        case true =>
          cases e2 : decide (x.Start < x.End)
          case false =>
            have hF := Lib.hid (hM.out k x hXx.out (by simp [okTrip, e0, e1, e2]))
            have e2n : ¬ x.Start < x.End := of_decide_eq_false e2
            go_wp2_with (go_at_call 13; refine (l00In_any _ _ _ _).mono ?_; rintro e w' ⟨rfl, rfl⟩)
            go_ret
            exact ⟨ret_bool (by rw [hF.out]), by repeat (first | exact hB1.out | refine below_alloc ?_ _ | refine below_drew ?_ _)⟩
          case true =>
            cases e3 : inB x.From 0 7
            case false =>
              have hF := Lib.hid (hM.out k x hXx.out (by simp [okTrip, e0, e1, e2, e3]))
              have e2y : x.Start < x.End := of_decide_eq_true e2
              go_wp2_with (go_at_call 13; refine (l00In_any _ _ _ _).mono ?_; rintro e w' ⟨rfl, rfl⟩)
              go_ret
              exact ⟨ret_bool (by rw [hF.out]), by repeat (first | exact hB1.out | refine below_alloc ?_ _ | refine below_drew ?_ _)⟩
            case true =>
              cases e4 : inB x.To 0 7
              case false =>
                have hF := Lib.hid (hM.out k x hXx.out (by simp [okTrip, e0, e1, e2, e3, e4]))
                have e2y : x.Start < x.End := of_decide_eq_true e2
                go_wp2_with (go_at_call 13; refine (l00In_any _ _ _ _).mono ?_; rintro e w' ⟨rfl, rfl⟩)
                go_ret
                exact ⟨ret_bool (by rw [hF.out]), by repeat (first | exact hB1.out | refine below_alloc ?_ _ | refine below_drew ?_ _)⟩
              case true =>
                have e2y : x.Start < x.End := of_decide_eq_true e2
                have hP2 : Hid (∀ i y, i < k + 1 → xs[i]? = some y → okTrip y = true) := Lib.hid fun i y hi hy => by
                  by_cases h1 : i < k
                  · exact hP.out i y h1 hy
                  · have : i = k := by omega
                    subst this
                    rw [hXx.out] at hy
                    cases hy
                    simp [okTrip, e0, e1, e2, e3, e4]
                go_wp2_with (go_at_call 13; refine (l00In_any _ _ _ _).mono ?_; rintro e w' ⟨rfl, rfl⟩)
                go_roundw
                case rel => exact ⟨k + 1, by omega, by go_num, hP2, Lib.hid (by repeat (first | exact hB1.out | refine below_alloc ?_ _ | refine below_drew ?_ _))⟩
                case measure => simp [intOf]; omega
    · have hF := Lib.hid (hN.out k (by omega) hP.out)
      by_cases h1 : 1 ≤ m
      · by_cases h2 : m ≤ 24
        · have hV := Lib.hid (show q = true by rw [hF.out]; simp [h1, h2])
          go_wp2
          go_ret
          exact ⟨ret_bool (by first | (rw [hV.out]; done) | (rw [hV.out]; simp; omega) | (rw [hV.out]; simp)), hB1.out⟩
        · have hV := Lib.hid (show q = false by rw [hF.out]; simp [h2])
          go_wp2
          go_ret
          exact ⟨ret_bool (by first | (rw [hV.out]; done) | (rw [hV.out]; simp; omega) | (rw [hV.out]; simp)), hB1.out⟩
      · have hV := Lib.hid (show q = false by rw [hF.out]; simp [h1])
        go_wp2
        go_ret
        exact ⟨ret_bool (by first | (rw [hV.out]; done) | (rw [hV.out]; simp; omega) | (rw [hV.out]; simp)), hB1.out⟩

set_option maxHeartbeats 2000000 in
theorem wrongTrip_any (x : TripD) (w : World) :
    Calls Try.prog 25 #[.agg #[.int .i64 x.Start, .int .i64 x.End, .int .i64 x.From, .int .i64 x.To]] w fun e w' => e = .returned (.bool (!okTrip x)) ∧ Below w.heap.size w w' := by
  by_cases h1 : x.Start < 0
  · have hV := Lib.hid (okTrip_1 h1)
    go_enter Try.func25, Try.ntmps25
    go_wp2_with fail
    go_ret
    exact ⟨ret_bool (by rw [hV.out]; rfl), by repeat (first | exact Below.refl _ _ | refine below_alloc ?_ _)⟩
  by_cases h2 : x.Start < x.End
  case neg =>
    have hV := Lib.hid (okTrip_2 h2)
    go_enter Try.func25, Try.ntmps25
    go_wp2_with fail
    go_ret
    exact ⟨ret_bool (by rw [hV.out]; rfl), by repeat (first | exact Below.refl _ _ | refine below_alloc ?_ _)⟩
  by_cases h3 : 10000 < x.End
  · have hV := Lib.hid (okTrip_3 h3)
    go_enter Try.func25, Try.ntmps25
    go_wp2_with fail
    go_ret
    exact ⟨ret_bool (by rw [hV.out]; rfl), by repeat (first | exact Below.refl _ _ | refine below_alloc ?_ _)⟩
  have hV := Lib.hid (okTrip_4 h1 h2 h3)
  have hd : decide (x.End ≤ x.Start) = false := decide_eq_false (by omega)
  go_enter Try.func25, Try.ntmps25
  go_wp2_with fail
  refine (areWithin_any _ _ [x.From, x.To] _ _ _ (lst_lit _ (by simp) (by simp))).mono ?_
  rintro e w' ⟨rfl, rfl⟩
  go_wp2_with fail
  go_ret
  exact ⟨ret_bool (by rw [hV.out]), by repeat (first | exact Below.refl _ _ | refine below_alloc ?_ _)⟩

set_option maxHeartbeats 4000000 in
theorem wrongTripIndex_any (B : Nat) (v : Value) (xs : List TripD) (w : World) (h : LstTrip B w v xs) (hB : B ≤ w.heap.size)  :
    Calls Try.prog 34 #[v, .func (.func 25) #[] #[]] w fun e w' => (∃ r : Int, e = .returned (.int .i64 r) ∧ -1 ≤ r ∧ decide (0 ≤ r) = xs.any (fun x => !okTrip x)) ∧ Below w.heap.size w w' := by
  obtain ⟨a, cap, rfl, hl, _, _, hc⟩ := h.at_
  have hYes : Hid (∀ (k : Nat) (x : TripD), xs[k]? = some x → (!okTrip x) = true → decide (0 ≤ (k : Int)) = xs.any (fun x => !okTrip x)) := Lib.hid fun k x hx hp => by
    rw [decide_eq_true (by omega), List.any_eq_true.2 ⟨x, List.mem_of_getElem? hx, hp⟩]
  have hNo : Hid (∀ k, k = xs.length → (∀ (i : Nat) (x : TripD), i < k → xs[i]? = some x → (!okTrip x) = false) → decide (0 ≤ (-1 : Int)) = xs.any (fun x => !okTrip x)) := Lib.hid fun k hk hp => by
    rw [decide_eq_false (by omega)]
    symm
    rw [List.any_eq_false]
    intro x hx
    obtain ⟨i, hi, rfl⟩ := List.mem_iff_getElem.1 hx
    have := hp i _ (by omega) (List.getElem?_eq_getElem hi)
    simp [this]
  have hC := Lib.hid hc
  clear hc h
  generalize xs.any (fun x => !okTrip x) = res at *
  generalize xs.length = m at *
  unfold maxLen at hl
  go_enter Try.func34, Try.ntmps34
  go_wp2_with fail
  go_loopw [8] (fun i wr => ∃ k : Nat, k ≤ m ∧ i = .int .i64 k ∧ Hid (∀ (i : Nat) (x : TripD), i < k → xs[i]? = some x → (!okTrip x) = false) ∧ Hid (Below w.heap.size w wr)) (fun i _ => m - (intOf i).toNat)
  case atStart => exact ⟨0, Nat.zero_le _, rfl, Lib.hid (fun i x hi _ => by omega), Lib.hid (Below.refl _ _)⟩
  case round =>
    obtain ⟨k, hk, rfl, hP, hB1⟩ := hrel
    by_cases hlt : k < m
    · obtain ⟨b, o, x, rfl, hb, hx, h0, h1, h2, h3⟩ := hC.out k hlt
      have hXx := Lib.hid hx
      rw [← hB1.out.cell (p := ⟨b, o + k * 4, none⟩) (show b < w.heap.size by omega)] at h0
      rw [← hB1.out.cell (p := ⟨b, o + k * 4 + 1, none⟩) (show b < w.heap.size by omega)] at h1
      rw [← hB1.out.cell (p := ⟨b, o + k * 4 + 2, none⟩) (show b < w.heap.size by omega)] at h2
      rw [← hB1.out.cell (p := ⟨b, o + k * 4 + 3, none⟩) (show b < w.heap.size by omega)] at h3
      clear hx hb
      go_wp2_with fail
      refine (wrongTrip_any x wr).mono ?_
      rintro e w3 ⟨rfl, hb3⟩
      have hB3 := Lib.hid (below_on hB1.out (Nat.le_refl _) hb3)
      cases hq : (!okTrip x)
      · have hP2 : Hid (∀ (i : Nat) (x : TripD), i < k + 1 → xs[i]? = some x → (!okTrip x) = false) := Lib.hid fun i y hi hy => by
          by_cases h1 : i < k
          · exact hP.out i y h1 hy
          · have : i = k := by omega
            subst this
            rw [hXx.out] at hy
            cases hy
            exact hq
        clear hb3 hB1
        go_wp2_with fail
        go_roundw
        case rel => exact ⟨k + 1, by omega, by go_num, hP2, hB3⟩
        case measure => simp [intOf]; omega
      · have hF := Lib.hid (hYes.out k x hXx.out hq)
        clear hb3 hB1
        go_wp2_with fail
        go_ret
        exact ⟨⟨k, rfl, by omega, hF.out⟩, hB3.out⟩
    · have hF := Lib.hid (hNo.out k (by omega) hP.out)
      go_wp2_with fail
      go_ret
      exact ⟨⟨-1, rfl, by omega, hF.out⟩, hB1.out⟩
set_option maxHeartbeats 1000000 in
theorem wrongTripContains_any (B : Nat) (v : Value) (xs : List TripD) (w : World) (h : LstTrip B w v xs) (hB : B ≤ w.heap.size)  :
    Calls Try.prog 26 #[v, .func (.func 25) #[] #[]] w fun e w' => e = .returned (.bool (xs.any (fun x => !okTrip x))) ∧ Below w.heap.size w w' := by
  have hQ := Lib.hid (wrongTripIndex_any B v xs w h hB )
  obtain ⟨a, cap, rfl, _⟩ := h
  generalize xs.any (fun x => !okTrip x) = res at *
  go_enter Try.func26, Try.ntmps26
  go_wp2_with fail
  refine (hQ.out).mono ?_
  rintro e w1 ⟨⟨r, rfl, hr1, hr2⟩, hb1⟩
  have hB1 := Lib.hid hb1
  have hR := Lib.hid hr2
  clear hb1 hr2
  go_wp2_with fail
  go_ret
  exact ⟨ret_bool (by rw [← hR.out]), hB1.out⟩

set_option maxHeartbeats 4000000 in
theorem areTrips_any (B : Nat) (v : Value) (xs : List TripD) (w : World) (h : LstTrip B w v xs) (hB : B ≤ w.heap.size) :
    Calls Try.prog 16 #[v] w fun e w' => e = .returned (.bool (areTrips xs)) ∧ Below w.heap.size w w' := by
  have hL := Lib.hid h
  obtain ⟨a, cap, rfl, hl, _⟩ := h.at_
  clear h
  by_cases hlo : xs.length < 1
  · have hV := Lib.hid (areTrips_2 hlo)
    generalize xs.length = m at *
    unfold maxLen at hl
    go_enter Try.func16, Try.ntmps16
    go_wp2_with fail
    go_ret
    exact ⟨ret_bool (by rw [hV.out]), Below.refl _ _⟩
  by_cases hhi : 24 < xs.length
  · have hV := Lib.hid (areTrips_3 hhi)
    generalize xs.length = m at *
    unfold maxLen at hl
    go_enter Try.func16, Try.ntmps16
    go_wp2_with fail
    go_ret
    exact ⟨ret_bool (by rw [hV.out]), Below.refl _ _⟩
  have hK := Lib.hid ((areTrips_5 hlo hhi).trans (all_anyT okTrip xs))
  generalize areTrips xs = q at *
  have hN := Lib.hid (wrongTripContains_any B _ xs _ hL.out hB)
  generalize (xs.any fun x => !okTrip x) = res at *
  generalize xs.length = m at *
  unfold maxLen at hl
  go_enter Try.func16, Try.ntmps16
  go_wp2_with fail
  refine (hN.out).mono ?_
  rintro e w2 ⟨rfl, hb2⟩
  have hB3 := Lib.hid hb2
  clear hb2
  go_wp2_with fail
  go_ret
  exact ⟨ret_bool (by rw [hK.out]), hB3.out⟩
end Go.Proofs.Ytmnogipmpojoaaa
