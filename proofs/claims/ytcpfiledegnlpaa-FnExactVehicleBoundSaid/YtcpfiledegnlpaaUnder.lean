/- Contracts: how many trips are under way at once. -/
import Derived.Test.YtcpfiledegnlpaaTrips
import Derived.Test.YtcpfiledegnlpaaTimes
import Derived.Test.YtcpfiledegnlpaaPost
namespace Go.Proofs.Ytcpfiledegnlpaa
open Go.RowKit Go.Lst

def under (t : Int) (o : TripD) : Bool := decide (o.Start ≤ t) && decide (t < o.End)
def cntU (xs : List TripD) (t : Int) : Nat → Int
  | 0 => 0
  | k + 1 => cntU xs t k + (if under t (xs.getD k default) then 1 else 0)
def mostU (xs : List TripD) : Nat → Int
  | 0 => 0
  | k + 1 => max (mostU xs k) (cntU xs (xs.getD k default).Start xs.length)
def underRes (xs : List TripD) : Int := if areTrips xs then mostU xs xs.length else 0
theorem getT_of {xs : List TripD} {k : Nat} {x : TripD} (h : xs[k]? = some x) : xs.getD k default = x := by rw [List.getD_eq_getElem?_getD, h]; rfl
theorem cntU_in (xs : List TripD) (t : Int) : ∀ k : Nat, 0 ≤ cntU xs t k ∧ cntU xs t k ≤ k
  | 0 => ⟨Int.le_refl _, Int.le_refl _⟩
  | k + 1 => by
    have := cntU_in xs t k
    unfold cntU
    split <;> omega
theorem cntU_yes {xs : List TripD} {t : Int} {k : Nat} {x : TripD} (h : xs[k]? = some x) (h1 : x.Start ≤ t) (h2 : t < x.End) : cntU xs t k + 1 = cntU xs t (k + 1) := by
  have : under t x = true := by simp [under, h1, h2]
  show _ = cntU xs t k + _
  rw [getT_of h, this, if_pos rfl]
theorem cntU_no {xs : List TripD} {t : Int} {k : Nat} {x : TripD} (h : xs[k]? = some x) (h1 : ¬ (x.Start ≤ t ∧ t < x.End)) : cntU xs t k = cntU xs t (k + 1) := by
  have : under t x = false := by
    by_cases a : x.Start ≤ t
    · have b : ¬ t < x.End := fun h => h1 ⟨a, h⟩
      simp [under, b]
    · simp [under, a]
  show _ = cntU xs t k + _
  rw [getT_of h, this, if_neg (by simp), Int.add_zero]

set_option maxHeartbeats 4000000 in
theorem specUnder_any (B : Nat) (v : Value) (xs : List TripD) (w : World) (h : LstTrip B w v xs) (hB : B ≤ w.heap.size) :
    Calls Try.prog 32 #[v] w (NumPost (underRes xs) (areTrips xs) w) := by
  have hT := Lib.hid (l06Trips_any B v xs w h hB)
  obtain ⟨a, cap, rfl, hl, _, _, hc⟩ := h.at_
  clear h
  cases hq : areTrips xs
  · rw [hq] at hT
    have hP : Hid (∀ w', Below w.heap.size w w' → NumPost (underRes xs) false w (.returned (.tuple #[.int .i64 0, .bool false])) w') := Lib.hid fun w' hb => num_no (by unfold underRes; rw [hq]; rfl) rfl hb
    generalize NumPost (underRes xs) false w = Q at *
    generalize xs.length = n at *
    unfold maxLen at hl
    clear hc hq
    go_enter Try.func32, Try.ntmps32
    go_wp2_with (go_at_call 52; (with_reducible refine (hT.out).mono ?_); rintro e w1 ⟨rfl, hb⟩; have hB1 := Lib.hid hb; clear hb)
    first | exact hP.out _ hB1.out | (go_ret2; exact hP.out _ hB1.out)
  · rw [hq] at hT
    obtain ⟨n1, n24, hok⟩ := areTrips_of hq
    have hP : Hid (∀ w', Below w.heap.size w w' → NumPost (underRes xs) true w (.returned (.tuple #[.int .i64 (mostU xs xs.length), .bool true])) w') := Lib.hid fun w' hb => num_yes (by unfold underRes; rw [hq, if_pos rfl]) rfl hb
    have hM : Hid (∀ k x, xs[k]? = some x → max (mostU xs k) (cntU xs x.Start xs.length) = mostU xs (k + 1)) := Lib.hid fun k x hx => by
      show _ = max (mostU xs k) _
      rw [getT_of hx]
    have hI : Hid (∀ t k, 0 ≤ cntU xs t k ∧ cntU xs t k ≤ k) := Lib.hid fun t k => cntU_in xs t k
    have hY : Hid (∀ t k x, xs[k]? = some x → x.Start ≤ t → t < x.End → cntU xs t k + 1 = cntU xs t (k + 1)) := Lib.hid fun t k x => cntU_yes
    have hN : Hid (∀ t k x, xs[k]? = some x → ¬ (x.Start ≤ t ∧ t < x.End) → cntU xs t k = cntU xs t (k + 1)) := Lib.hid fun t k x => cntU_no
    have hC := Lib.hid hc
    generalize NumPost (underRes xs) true w = Q at *
    clear hc hq hok
    generalize xs.length = n at *
    unfold maxLen at hl
    go_enter Try.func32, Try.ntmps32
    go_wp2_with (go_at_call 52; (with_reducible refine (hT.out).mono ?_); rintro e w1 ⟨rfl, hb⟩; have hB1 := Lib.hid hb; clear hb)
    go_loopw [4, 5] (fun mv iv wr => ∃ (k j : Nat), k ≤ n ∧ iv = .int .i64 k ∧ mv = .int .i64 (mostU xs k) ∧ wr = w1.drewN j) (fun _ iv _ => n - (intOf iv).toNat)
    case atStart => exact ⟨0, 0, Nat.zero_le _, rfl, rfl, rfl⟩
    case round =>
      obtain ⟨k, j, hk, rfl, rfl, rfl⟩ := hrel
      by_cases hlt : k < n
      · obtain ⟨b, o, x, rfl, hb, hx, p0, p1, p2, p3⟩ := hC.out k hlt
        have hMk := Lib.hid (hM.out k x hx)
        rw [← hB1.out.cell (p := ⟨b, o + k * 4, none⟩) (show b < w.heap.size by omega)] at p0
        have P0 := Lib.hid p0
        clear hx p0 p1 p2 p3
        go_wp2_with fail
        go_loopw [6, 7] (fun nv kv wr => ∃ (q j : Nat), q ≤ n ∧ kv = .int .i64 q ∧ nv = .int .i64 (cntU xs x.Start q) ∧ wr = w1.drewN j) (fun _ kv _ => n - (intOf kv).toNat)
        case atStart => exact ⟨0, j, Nat.zero_le _, rfl, rfl, by trivial⟩
        case round =>
          obtain ⟨q, j2, hq, rfl, rfl, rfl⟩ := hrel
          by_cases hlq : q < n
          · obtain ⟨b2, o2, y, ha2, hb2, hy, q0, q1, _, _⟩ := hC.out q hlq
            obtain ⟨rfl, rfl⟩ : b2 = b ∧ o2 = o := by simpa using ha2.symm
            rw [← hB1.out.cell (p := ⟨b2, o2 + q * 4, none⟩) (show b2 < w.heap.size by omega)] at q0
            rw [← hB1.out.cell (p := ⟨b2, o2 + q * 4 + 1, none⟩) (show b2 < w.heap.size by omega)] at q1
            have p0 := P0.out
            rw [← World.cell?_drewN (n := j2)] at q0 q1 p0
            generalize hwo : w1.drewN j2 = wo at *
            have hWo := Lib.hid hwo
            have ci := hI.out x.Start q
            clear hwo ha2
            by_cases c1 : y.Start ≤ x.Start
            · have d1 : decide (y.Start ≤ x.Start) = true := decide_eq_true c1
              by_cases c2 : x.Start < y.End
              · have hE := Lib.hid (hY.out x.Start q y hy c1 c2)
                have d2 : decide (x.Start < y.End) = true := decide_eq_true c2
                generalize cntU xs x.Start q = z at *
                clear hy
                go_wp2_with fail
                go_quiet (fail)
                go_wp2_with fail
                go_roundw
                case rel => exact ⟨q + 1, _, by omega, by go_num, by rw [hE.out], by rw [← hWo.out, World.drewN_drewN]⟩
                case measure => simp [intOf]; omega
              · have hE := Lib.hid (hN.out x.Start q y hy (fun h => c2 h.2))
                have d2 : decide (x.Start < y.End) = false := decide_eq_false c2
                generalize cntU xs x.Start q = z at *
                clear hy
                go_wp2_with fail
                go_quiet (fail)
                go_wp2_with fail
                go_roundw
                case rel => exact ⟨q + 1, _, by omega, by go_num, by rw [hE.out], by rw [← hWo.out, World.drewN_drewN]⟩
                case measure => simp [intOf]; omega
            · have hE := Lib.hid (hN.out x.Start q y hy (fun h => c1 h.1))
              have d1 : decide (y.Start ≤ x.Start) = false := decide_eq_false c1
              generalize cntU xs x.Start q = z at *
              clear hy
              go_wp2_with fail
              go_quiet (fail)
              go_wp2_with fail
              go_roundw
              case rel => exact ⟨q + 1, _, by omega, by go_num, by rw [hE.out], by rw [← hWo.out, World.drewN_drewN]⟩
              case measure => simp [intOf]; omega
          · obtain rfl : n = q := by omega
            go_wp2_with (go_at_call 62; refine (l00Max_any _ _ _).mono ?_; rintro e w' ⟨rfl, rfl⟩)
            go_roundw
            case rel => exact ⟨k + 1, _, by omega, by go_num, by rw [hMk.out], by trivial⟩
            case measure => simp [intOf]; omega
      · obtain rfl : n = k := by omega
        go_wp2_with fail
        first | exact hP.out _ (below_drew hB1.out _) | (go_ret2; exact hP.out _ (below_drew hB1.out _))

set_option maxHeartbeats 4000000 in
theorem implUnder_any (B : Nat) (v : Value) (xs : List TripD) (w : World) (h : LstTrip B w v xs) (hB : B ≤ w.heap.size) :
    Calls Try.prog 33 #[v] w (NumPost (underRes xs) (areTrips xs) w) := by
  have hT := Lib.hid (areTrips_any B v xs w h hB)
  obtain ⟨a, cap, rfl, hl, _, _, hc⟩ := h.at_
  clear h
  cases hq : areTrips xs
  · rw [hq] at hT
    have hP : Hid (∀ w', Below w.heap.size w w' → NumPost (underRes xs) false w (.returned (.tuple #[.int .i64 0, .bool false])) w') := Lib.hid fun w' hb => num_no (by unfold underRes; rw [hq]; rfl) rfl hb
    generalize NumPost (underRes xs) false w = Q at *
    generalize xs.length = n at *
    unfold maxLen at hl
    clear hc hq
    go_enter Try.func33, Try.ntmps33
    go_wp2_with (go_at_call 17; (with_reducible refine (hT.out).mono ?_); rintro e w1 ⟨rfl, hb⟩; have hB1 := Lib.hid hb; clear hb)
    first | exact hP.out _ hB1.out | (go_ret2; exact hP.out _ hB1.out)
  · rw [hq] at hT
    obtain ⟨n1, n24, hok⟩ := areTrips_of hq
    have hP : Hid (∀ w', Below w.heap.size w w' → NumPost (underRes xs) true w (.returned (.tuple #[.int .i64 (mostU xs xs.length), .bool true])) w') := Lib.hid fun w' hb => num_yes (by unfold underRes; rw [hq, if_pos rfl]) rfl hb
    have hM : Hid (∀ k x, xs[k]? = some x → max (mostU xs k) (cntU xs x.Start xs.length) = mostU xs (k + 1)) := Lib.hid fun k x hx => by
      show _ = max (mostU xs k) _
      rw [getT_of hx]
    have hI : Hid (∀ t k, 0 ≤ cntU xs t k ∧ cntU xs t k ≤ k) := Lib.hid fun t k => cntU_in xs t k
    have hY : Hid (∀ t k x, xs[k]? = some x → x.Start ≤ t → t < x.End → cntU xs t k + 1 = cntU xs t (k + 1)) := Lib.hid fun t k x => cntU_yes
    have hN : Hid (∀ t k x, xs[k]? = some x → ¬ (x.Start ≤ t ∧ t < x.End) → cntU xs t k = cntU xs t (k + 1)) := Lib.hid fun t k x => cntU_no
    have hC := Lib.hid hc
    generalize NumPost (underRes xs) true w = Q at *
    clear hc hq hok
    generalize xs.length = n at *
    unfold maxLen at hl
    go_enter Try.func33, Try.ntmps33
    go_wp2_with (go_at_call 17; (with_reducible refine (hT.out).mono ?_); rintro e w1 ⟨rfl, hb⟩; have hB1 := Lib.hid hb; clear hb)
    go_loopw [4, 15] (fun mv iv wr => ∃ (k : Nat), k ≤ n ∧ iv = .int .i64 k ∧ mv = .int .i64 (mostU xs k) ∧ Hid (Below w.heap.size w wr)) (fun _ iv _ => n - (intOf iv).toNat)
    case atStart => exact ⟨0, Nat.zero_le _, rfl, rfl, hB1⟩
    case round =>
      clear hB1
      obtain ⟨k, hk, rfl, rfl, hB1⟩ := hrel
      by_cases hlt : k < n
      · obtain ⟨b, o, x, rfl, hb, hx, p0, p1, p2, p3⟩ := hC.out k hlt
        have hMk := Lib.hid (hM.out k x hx)
        rw [← hB1.out.cell (p := ⟨b, o + k * 4, none⟩) (show b < w.heap.size by omega)] at p0
        rw [← hB1.out.cell (p := ⟨b, o + k * 4 + 1, none⟩) (show b < w.heap.size by omega)] at p1
        rw [← hB1.out.cell (p := ⟨b, o + k * 4 + 2, none⟩) (show b < w.heap.size by omega)] at p2
        rw [← hB1.out.cell (p := ⟨b, o + k * 4 + 3, none⟩) (show b < w.heap.size by omega)] at p3
        clear hx
        have hW2 := Lib.hid (Whole.made wr 68 #[.int .i64 x.Start, .int .i64 x.End, .int .i64 x.From, .int .i64 x.To] rfl)
        have hB2 := Lib.hid (hB1.out.alloc hB1.out.size (.cells #[.int .i64 x.Start, .int .i64 x.End, .int .i64 x.From, .int .i64 x.To] 68))
        go_wp2_with fail
        clear p0 p1 p2 p3 hB1
        generalize (wr.alloc (.cells #[.int .i64 x.Start, .int .i64 x.End, .int .i64 x.From, .int .i64 x.To] 68)) = w2 at *
        generalize wr.heap.size = g at *
        go_loopw [7, 21] (fun nv kv wr => ∃ (q : Nat), q ≤ n ∧ kv = .int .i64 q ∧ nv = .int .i64 (cntU xs x.Start q) ∧ Hid (Below w2.heap.size w2 wr)) (fun _ kv _ => n - (intOf kv).toNat)
        case atStart => exact ⟨0, Nat.zero_le _, rfl, rfl, Lib.hid (Below.refl _ _)⟩
        case round =>
          obtain ⟨q, hq, rfl, rfl, hB3⟩ := hrel
          by_cases hlq : q < n
          · obtain ⟨b2, o2, y, ha2, hb2, hy, q0, q1, q2, q3⟩ := hC.out q hlq
            obtain ⟨rfl, rfl⟩ : b2 = b ∧ o2 = o := by simpa using ha2.symm
            have hB4 := Lib.hid (below_on hB2.out (Nat.le_refl _) hB3.out)
            rw [← hB4.out.cell (p := ⟨b2, o2 + q * 4, none⟩) (show b2 < w.heap.size by omega)] at q0
            rw [← hB4.out.cell (p := ⟨b2, o2 + q * 4 + 1, none⟩) (show b2 < w.heap.size by omega)] at q1
            rw [← hB4.out.cell (p := ⟨b2, o2 + q * 4 + 2, none⟩) (show b2 < w.heap.size by omega)] at q2
            rw [← hB4.out.cell (p := ⟨b2, o2 + q * 4 + 3, none⟩) (show b2 < w.heap.size by omega)] at q3
            have hW3 : Whole wr g 68 #[.int .i64 x.Start, .int .i64 x.End, .int .i64 x.From, .int .i64 x.To] := hW2.out.kept hB3.out
            have r0 := (hW3.more (.cells #[.int .i64 y.Start, .int .i64 y.End, .int .i64 y.From, .int .i64 y.To] 68)).at_ (i := 0) rfl
            have hB5 := Lib.hid (hB3.out.alloc hB3.out.size (.cells #[.int .i64 y.Start, .int .i64 y.End, .int .i64 y.From, .int .i64 y.To] 68))
            have ci := hI.out x.Start q
            clear ha2 hW3 hB3 hB4
            by_cases c1 : y.Start ≤ x.Start
            · have d1 : decide (y.Start ≤ x.Start) = true := decide_eq_true c1
              by_cases c2 : x.Start < y.End
              · have hE := Lib.hid (hY.out x.Start q y hy c1 c2)
                have d2 : decide (x.Start < y.End) = true := decide_eq_true c2
                generalize cntU xs x.Start q = z at *
                clear hy
                go_wp2_with fail
                go_roundw
                case rel => exact ⟨q + 1, by omega, by go_num, by rw [hE.out], hB5⟩
                case measure => simp [intOf]; omega
              · have hE := Lib.hid (hN.out x.Start q y hy (fun h => c2 h.2))
                have d2 : decide (x.Start < y.End) = false := decide_eq_false c2
                generalize cntU xs x.Start q = z at *
                clear hy
                go_wp2_with fail
                go_roundw
                case rel => exact ⟨q + 1, by omega, by go_num, by rw [hE.out], hB5⟩
                case measure => simp [intOf]; omega
            · have hE := Lib.hid (hN.out x.Start q y hy (fun h => c1 h.1))
              have d1 : decide (y.Start ≤ x.Start) = false := decide_eq_false c1
              generalize cntU xs x.Start q = z at *
              clear hy
              go_wp2_with fail
              go_roundw
              case rel => exact ⟨q + 1, by omega, by go_num, by rw [hE.out], hB5⟩
              case measure => simp [intOf]; omega
          · obtain rfl : n = q := by omega
            have hB6 := Lib.hid (below_on hB2.out (Nat.le_refl _) hB3.out)
            have mi := hMk.out
            go_wp2_with fail
            all_goals
              simp only [mx_eq]
              go_roundw
              case rel => exact ⟨k + 1, by omega, by go_num, by rw [hMk.out], hB6⟩
              case measure => simp [intOf]; omega
      · obtain rfl : n = k := by omega
        go_wp2_with fail
        first | exact hP.out _ hB1.out | (go_ret2; exact hP.out _ hB1.out)
theorem vehicleBound_both (xs : List TripD) (_ : ∀ y ∈ xs, y.wf) : ∃ (r0 : Int) (r1 : Bool),
    (∀ (B : Nat) (v : Value) (w : World), LstTrip B w v xs → B ≤ w.heap.size → Calls Try.prog 32 #[v] w fun e w' => e = .returned (.tuple #[.int .i64 r0, .bool r1]) ∧ Below w.heap.size w w') ∧
    (∀ (B : Nat) (v : Value) (w : World), LstTrip B w v xs → B ≤ w.heap.size → Calls Try.prog 33 #[v] w fun e w' => e = .returned (.tuple #[.int .i64 r0, .bool r1]) ∧ Below w.heap.size w w') :=
  ⟨underRes xs, areTrips xs, fun B v w h hB => specUnder_any B v xs w h hB, fun B v w h hB => implUnder_any B v xs w h hB⟩
end Go.Proofs.Ytcpfiledegnlpaa
