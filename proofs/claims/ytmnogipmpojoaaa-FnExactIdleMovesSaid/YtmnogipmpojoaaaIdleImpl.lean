/- How long vehicles move without trips: the program's walk, with the map of the last trips. No condition. -/
import Derived.Test.YtmnogipmpojoaaaIdleSpec
import Derived.Test.YtmnogipmpojoaaaPlacesV
import Derived.Maps.Own
import Derived.Maps.OwnSet
import Derived.Deep.RegionHeld3
namespace Go.Proofs.Ytmnogipmpojoaaa
open Go.RowKit Go.Lst Srt Go.Plan Go.Maps

def tripDt (x : TripD) : DataW Unit := .agg [.lit (.int .i64 x.Start), .lit (.int .i64 x.End), .lit (.int .i64 x.From), .lit (.int .i64 x.To)]
/-- How a trip reads in a map. -/
def tripR (v : Value) : Option (DataW Unit × List MemPlace) := match v with
  | .agg ⟨[.int .i64 a, .int .i64 b, .int .i64 c, .int .i64 d]⟩ => some (.agg [.lit (.int .i64 a), .lit (.int .i64 b), .lit (.int .i64 c), .lit (.int .i64 d)], [])
  | _ => none
theorem tripR_is (x : TripD) : tripR (tripAgg x) = some (tripDt x, []) := rfl
theorem tripR_inv {v : Value} {x : TripD} {ps : List MemPlace} (h : tripR v = some (tripDt x, ps)) : v = tripAgg x := by
  unfold tripR at h
  split at h
  · unfold tripDt at h
    simp only [Option.some.injEq, Prod.mk.injEq, DataW.agg.injEq, List.cons.injEq, DataW.lit.injEq, Lit.int.injEq, true_and, and_true] at h
    obtain ⟨⟨rfl, rfl, rfl, rfl⟩, _⟩ := h
    rfl
  · cases h
/-- The map has for each vehicle its last trip of the first k. -/
def Lasts (D : DataW Unit) (V : Nat → Int) (T : Nat → TripD) (k : Nat) : Prop := ∀ u : Int, (Lit.int .i64 u).wf = true →
  Maps.has D (.int .i64 u) = decide (0 ≤ prevTo V u k) ∧ (0 ≤ prevTo V u k → ∀ z, D.atKey (.int .i64 u) z = tripDt (T (prevTo V u k).toNat))
theorem lasts_none (V : Nat → Int) (T : Nat → TripD) : Lasts (.map []) V T 0 := fun u _ => ⟨rfl, fun h => by simp [prevTo] at h⟩
theorem lawVeh : Keyed Try.prog 2 := int_keyed Try.underlying2
theorem Lasts.put {D : DataW Unit} {V : Nat → Int} {T : Nat → TripD} {k : Nat} (h : Lasts D V T k) (hD : IsMap D) (hw : (Lit.int .i64 (V k)).wf = true) : Lasts (D.put (.int .i64 (V k)) (tripDt (T k))) V T (k + 1) := fun u hu => by
  have hk : WideAt.IsKeyLit (.int .i64 (V k)) := lawVeh.key (keyOf_int_mk Try.underlying2 hw)
  by_cases e : V k = u
  · subst e
    have e2 : prevTo V (V k) (k + 1) = (k : Int) := by unfold prevTo; rw [if_pos rfl]
    rw [e2]
    refine ⟨by rw [has_put_same hD hk, decide_eq_true (by omega)], fun _ z => ?_⟩
    rw [atKey_put_same hD hk, Int.toNat_natCast]
  · have e2 : prevTo V u (k + 1) = prevTo V u k := by
      show (if V k = u then (k : Int) else prevTo V u k) = _
      rw [if_neg e]
    have hne : (Lit.int .i64 u) ≠ .int .i64 (V k) := fun he => by injection he with _ he; exact e he.symm
    rw [e2]
    refine ⟨by rw [has_put_other hne]; exact (h u hu).1, fun h0 z => ?_⟩
    rw [atKey_put_other hne]; exact (h u hu).2 h0 z
theorem map_below {H : Type} {P : Program} {k : TypeId} {R : Value → Option (DataW H × List MemPlace)} {W W' : World} {b n B : Nat} {D : DataW H} (h : W.ownsMap P k R b n D) (hb : Below B W W') (hB : b < B) : W'.ownsMap P k R b n D := by
  obtain ⟨es, clock, h1, F, hs, hD⟩ := h
  exact ⟨es, clock, (hb.block b hB).trans h1, F, hs, hD⟩
def tX (xs : List TripD) (k j : Nat) : Int := match j with
  | 0 => (xs.getD k default).Start
  | 1 => (xs.getD k default).End
  | 2 => (xs.getD k default).From
  | _ => (xs.getD k default).To
set_option maxHeartbeats 1000000 in
theorem idleCmp_any (a0 a1 a2 a3 b0 b1 b2 b3 : Int) (w : World) : Calls Try.prog 20 #[.agg #[.int .i64 a0, .int .i64 a1, .int .i64 a2, .int .i64 a3], .agg #[.int .i64 b0, .int .i64 b1, .int .i64 b2, .int .i64 b3]] w fun e w' => e = .returned (.int .i64 (cmpV a0 b0)) ∧ Below w.heap.size w w' := by
  have hC := Lib.hid (fun w' => compareI_any a0 b0 w')
  have hB := Lib.hid (below_alloc (below_alloc (Below.refl w.heap.size w) (.cells #[.int .i64 a0, .int .i64 a1, .int .i64 a2, .int .i64 a3] 37)) (.cells #[.int .i64 b0, .int .i64 b1, .int .i64 b2, .int .i64 b3] 37))
  generalize cmpV a0 b0 = z at *
  go_enter Try.func20, Try.ntmps20
  go_wp2_with (go_at_call 21; (with_reducible refine (hC.out _).mono ?_); rintro e w' ⟨rfl, rfl⟩)
  go_ret
  exact ⟨rfl, hB.out⟩
theorem idlePlaces_any (b o cap : Nat) (xs : List TripD) (w : World) (hb0 : b < w.heap.size) (hcell : ∀ k j, k < xs.length → j < 4 → w.cell? ⟨b, o + k * 4 + j, none⟩ = some (.int .i64 (tX xs k j))) (hcap : xs.length ≤ cap) (hcm : cap ≤ maxLen) (hn1 : 1 ≤ xs.length) (hn : xs.length ≤ 24) :
    Calls Try.prog 19 #[.slice (some ⟨b, o, none⟩) xs.length cap, .func (.func 20) #[] #[]] w fun e w' => ∃ g, e = .returned (.slice (some ⟨g, 0, none⟩) xs.length xs.length) ∧ g < w'.heap.size ∧ w'.ownsRow w.heap.size 2 1 (.slice (some ⟨g, 0, none⟩) xs.length xs.length) xs.length (cellsF xs.length (Srt.insTo (ltK (startK xs)) xs.length)) ∧ Below w.heap.size w w' := by
  refine (placesV_any 20 b o cap xs.length (tX xs) (fun x y => cmpV (xs.getD x default).Start (xs.getD y default).Start) (ltK (startK xs)) w hb0 hcell hcap hcm hn1 (by omega) (totK _ _)
    (enters_of Try.func20 (by kernel_rfl) rfl) (fun x y _ _ w' => idleCmp_any _ _ _ _ _ _ _ _ w')
    (fun x y hxy hy => by
      rw [cmpV_neg, ltK_later _ (by omega)]
      unfold startK
      rw [Int.toNat_natCast, Int.toNat_natCast])).mono ?_
  rintro e w' ⟨g, f, rfl, hg, ho, hd, hb⟩
  rw [hd.one (totK _ _) (insTo_done (totK _ _))] at ho
  exact ⟨g, rfl, (ho.lt g rfl).2, ho, hb⟩
set_option maxHeartbeats 8000000 in
set_option maxRecDepth 100000 in
theorem implIdle_any (B : Nat) (v1 v2 v3 : Value) (xs : List TripD) (ms vs : List Int) (w : World) (h1 : LstTrip B w v1 xs) (h2 : LstI B w v2 ms) (h3 : LstI B w v3 vs) (hB : B ≤ w.heap.size) :
    Calls Try.prog 8 #[v1, v2, v3] w (IdlePost xs ms vs w) := by
  have hA := Lib.hid (areTrips_any B v1 xs w h1 hB)
  have hMv := Lib.hid (fun w1 (hb : Below w.heap.size w w1) => areMoves_any B v2 ms w1 (h2.below hb hB) (Nat.le_trans hB hb.size))
  have hIn := Lib.hid (fun w1 (hb : Below w.heap.size w w1) => areWithin_any B v3 vs 0 23 w1 (h3.below hb hB).lst)
  have hFb := Lib.hid (fun w1 (hb : Below w.heap.size w w1) (hl : ms.length = 64) => followBy_any B v2 ms w1 (h2.below hb hB) hl)
  have hVb := Lib.hid (fun w1 (hb : Below w.heap.size w w1) (hl : ms.length = 64) => moveBy_any B v2 ms w1 (h2.below hb hB) hl)
  have hNo : Hid (idleYes xs ms vs = false → ∀ w', Below w.heap.size w w' → IdlePost xs ms vs w (.returned (.tuple #[.int .i64 0, .bool false])) w') := Lib.hid fun h w' hb => idle_no h hb
  obtain ⟨a1, cap1, rfl, hl, hc1, hc1', hc⟩ := h1.at_
  obtain ⟨a2, cap2, rfl, hl2, _, _, hc2⟩ := h2.at_
  obtain ⟨a3, cap3, rfl, hl3, _, _, hc3⟩ := h3.at_
  clear h1 h2 h3
  cases e1 : areTrips xs
  · rw [e1] at hA
    have hR := Lib.hid (hNo.out (can_no1 e1))
    clear hMv hNo e1 hc hc2 hc3 hIn hFb hVb
    generalize IdlePost xs ms vs w = Q at *
    generalize xs.length = n at *
    generalize ms.length = m at *
    generalize vs.length = nv at *
    unfold maxLen at hl hl2 hl3
    go_enter Try.func8, Try.ntmps8
    go_wp2_with (go_at_call 16; (with_reducible refine (hA.out).mono ?_); rintro e w1 ⟨rfl, hb1⟩; have hB1 := Lib.hid hb1; clear hb1)
    first | exact hR.out _ hB1.out | (go_ret2; exact hR.out _ hB1.out)
  rw [e1] at hA
  cases e2 : okMoves ms
  · rw [e2] at hMv
    have hR := Lib.hid (hNo.out (can_no2 e2))
    clear hNo e1 e2 hc hc2 hc3 hIn hFb hVb
    generalize IdlePost xs ms vs w = Q at *
    generalize xs.length = n at *
    generalize ms.length = m at *
    generalize vs.length = nv at *
    unfold maxLen at hl hl2 hl3
    go_enter Try.func8, Try.ntmps8
    go_wp2_with (first | (go_at_call 16; (with_reducible refine (hA.out).mono ?_); rintro e w1 ⟨rfl, hb1⟩; have hB1 := Lib.hid hb1; clear hb1) | (go_at_call 17; (with_reducible refine (hMv.out w1 hB1.out).mono ?_); rintro e w2 ⟨rfl, hb2⟩; have hB2 := Lib.hid (below_on hB1.out (Nat.le_refl _) hb2); clear hb2))
    first | exact hR.out _ hB2.out | (go_ret2; exact hR.out _ hB2.out)
  rw [e2] at hMv
  by_cases e3 : vs.length = xs.length
  rotate_left
  · have hR := Lib.hid (hNo.out (can_no3 e3))
    have hne : ((vs.length : Int) != (xs.length : Int)) = true := by rw [bne_iff_ne]; omega
    have hne2 : ¬ (vs.length : Int) = (xs.length : Int) := by omega
    have hne3 : ((vs.length : Int) == (xs.length : Int)) = false := by rw [beq_eq_false_iff_ne]; omega
    clear hNo e1 e2 hc hc2 hc3 e3 hIn hFb hVb
    generalize IdlePost xs ms vs w = Q at *
    generalize xs.length = n at *
    generalize ms.length = m at *
    generalize vs.length = nv at *
    unfold maxLen at hl hl2 hl3
    go_enter Try.func8, Try.ntmps8
    go_wp2_with (first | (go_at_call 16; (with_reducible refine (hA.out).mono ?_); rintro e w1 ⟨rfl, hb1⟩; have hB1 := Lib.hid hb1; clear hb1) | (go_at_call 17; (with_reducible refine (hMv.out w1 hB1.out).mono ?_); rintro e w2 ⟨rfl, hb2⟩; have hB2 := Lib.hid (below_on hB1.out (Nat.le_refl _) hb2); clear hb2))
    first | exact hR.out _ hB2.out | (go_ret2; exact hR.out _ hB2.out)
  have hEq := Lib.hid e3
  cases e4 : allIn vs 0 23
  · rw [e4] at hIn
    have hR := Lib.hid (hNo.out (can_no4 e4))
    clear hNo e1 e2 hc hc2 hc3 e3 hFb hVb e4
    generalize IdlePost xs ms vs w = Q at *
    generalize hvn : vs.length = nv at *
    obtain rfl : nv = xs.length := hEq.out
    generalize hnn : xs.length = n at *
    generalize ms.length = m at *
    unfold maxLen at hl hl2 hl3
    clear hEq hvn hnn
    go_enter Try.func8, Try.ntmps8
    go_wp2_with (first | (go_at_call 16; (with_reducible refine (hA.out).mono ?_); rintro e w1 ⟨rfl, hb1⟩; have hB1 := Lib.hid hb1; clear hb1) | (go_at_call 17; (with_reducible refine (hMv.out w1 hB1.out).mono ?_); rintro e w2 ⟨rfl, hb2⟩; have hB2 := Lib.hid (below_on hB1.out (Nat.le_refl _) hb2); clear hb2) | (go_at_call 18; (with_reducible refine (hIn.out w2 hB2.out).mono ?_); rintro e w' ⟨rfl, rfl⟩))
    first | exact hR.out _ hB2.out | (go_ret2; exact hR.out _ hB2.out)
  rw [e4] at hIn
  obtain ⟨n1, n24, hok⟩ := areTrips_of e1
  have hl64 := (okMoves_of e2).1
  have hCan : idleCan xs ms vs = true := by unfold idleCan; rw [e1, e2, e4, decide_eq_true e3]; rfl
  obtain ⟨b1, o1, x0, rfl, hb1B, _⟩ := hc 0 (by omega)
  obtain ⟨b3, o3, x3, rfl, hb3B, _⟩ := hc3 0 (by omega)
  have hT : Hid (∀ W k, Below w.heap.size w W → k < xs.length → W.cell? ⟨b1, o1 + k * 4, none⟩ = some (.int .i64 (xs.getD k default).Start) ∧ W.cell? ⟨b1, o1 + k * 4 + 1, none⟩ = some (.int .i64 (xs.getD k default).End) ∧ W.cell? ⟨b1, o1 + k * 4 + 2, none⟩ = some (.int .i64 (xs.getD k default).From) ∧ W.cell? ⟨b1, o1 + k * 4 + 3, none⟩ = some (.int .i64 (xs.getD k default).To)) := Lib.hid fun W k hW hk => by
    obtain ⟨b', o', x, he, _, hx, r0, r1, r2, r3⟩ := hc k hk
    injection he with he
    injection he with q1 q2 _
    subst q1 q2
    rw [getTr_of hx]
    have hbw : b1 < w.heap.size := by omega
    exact ⟨(hW.cell (p := ⟨b1, o1 + k * 4, none⟩) hbw).trans r0, (hW.cell (p := ⟨b1, o1 + k * 4 + 1, none⟩) hbw).trans r1, (hW.cell (p := ⟨b1, o1 + k * 4 + 2, none⟩) hbw).trans r2, (hW.cell (p := ⟨b1, o1 + k * 4 + 3, none⟩) hbw).trans r3⟩
  have hV : Hid (∀ W k, Below w.heap.size w W → k < vs.length → W.cell? ⟨b3, o3 + k, none⟩ = some (.int .i64 (vs.getD k 0))) := Lib.hid fun W k hW hk => by
    obtain ⟨b', o', x, he, _, hx, r0⟩ := hc3 k hk
    injection he with he
    injection he with q1 q2 _
    subst q1 q2
    rw [getD_of hx]
    exact (hW.cell (p := ⟨b3, o3 + k, none⟩) (show b3 < w.heap.size by omega)).trans r0
  have hVin : Hid (∀ k, k < xs.length → 0 ≤ vehAt xs vs k ∧ vehAt xs vs k ≤ 23) := Lib.hid fun k hk => by
    have h2 := (start_low xs k hk).2
    have hx := List.getElem?_eq_getElem (show startF xs k < vs.length by omega)
    unfold vehAt
    rw [getD_of hx]
    exact allIn_of e4 hx
  have hPl := Lib.hid (fun w1 (hb : Below w.heap.size w w1) => idlePlaces_any b1 o1 cap1 xs w1 (by have := hb.size; omega) (fun k j hk hj => by
    obtain ⟨r0, r1, r2, r3⟩ := hT.out w1 k hb hk
    match j, hj with
    | 0, _ => exact r0
    | 1, _ => exact r1
    | 2, _ => exact r2
    | 3, _ => exact r3) hc1 hc1' n1 n24)
  have hOn : Hid (∀ k, k ≤ xs.length → idleOk (vehAt xs vs) (fun a b => folT ms (trAt xs a) (trAt xs b)) k = false → ∀ w', Below w.heap.size w w' → IdlePost xs ms vs w (.returned (.tuple #[.int .i64 0, .bool false])) w') := Lib.hid fun k hk hf => hNo.out (by unfold idleYes; rw [hCan, idleOk_no hf hk]; rfl)
  have hYe : Hid (idleOk (vehAt xs vs) (fun a b => folT ms (trAt xs a) (trAt xs b)) xs.length = true → ∀ w', Below w.heap.size w w' → IdlePost xs ms vs w (.returned (.tuple #[.int .i64 (idleSum (vehAt xs vs) (fun a b => moveOf ms (trAt xs a) (trAt xs b)) xs.length), .bool true])) w') := Lib.hid fun hf w' hb => idle_yes (by unfold idleYes; rw [hCan, hf]; rfl) hb
  have hLow := Lib.hid (start_low xs)
  have hOk : Hid (∀ k, k < xs.length → ((0 ≤ (trAt xs k).End ∧ (trAt xs k).End ≤ 10000) ∧ (0 ≤ (trAt xs k).From ∧ (trAt xs k).From ≤ 7) ∧ (0 ≤ (trAt xs k).To ∧ (trAt xs k).To ≤ 7))) := Lib.hid fun k hk => by
    have h2 := (start_low xs k hk).2
    have hx := List.getElem?_eq_getElem h2
    have := okTrip_of (hok _ _ hx)
    unfold trAt
    rw [getTr_of hx]
    exact ⟨this.2.1, this.2.2.2.1, this.2.2.2.2⟩
  have hMb : Hid (∀ a b, a < xs.length → b < xs.length → 0 ≤ moveOf ms (trAt xs a) (trAt xs b) ∧ moveOf ms (trAt xs a) (trAt xs b) ≤ 1000) := Lib.hid fun a b ha hb => move_in e2 (hOk.out a ha).2.2 (hOk.out b hb).2.1
  have hSb : Hid (∀ k, k ≤ xs.length → 0 ≤ idleSum (vehAt xs vs) (fun a b => moveOf ms (trAt xs a) (trAt xs b)) k ∧ idleSum (vehAt xs vs) (fun a b => moveOf ms (trAt xs a) (trAt xs b)) k ≤ 1000 * k) := Lib.hid (idleSum_in hMb.out)
  have hFol : Hid (∀ (g a b : Nat) (W : World), a < xs.length → b < xs.length → Whole W g 57 (tabOf ms) → W.cell? ⟨g + 1, 0, none⟩ = some (.func (.func 33) #[] #[.pointer (some ⟨g, 0, none⟩)]) → Calls Try.prog 32 #[tripAgg (trAt xs a), tripAgg (trAt xs b), .pointer (some ⟨g + 1, 0, none⟩)] W fun e w' => e = .returned (.bool (folT ms (trAt xs a) (trAt xs b))) ∧ Below W.heap.size W w') := Lib.hid fun g a b W ha hb hW hg =>
    follow_any g ms _ _ W hW hg hl64 (hMb.out a b ha hb) (hOk.out a ha).2.2 (hOk.out b hb).2.1 (hOk.out a ha).1
  have hMof : Hid (∀ (g a b : Nat) (W : World), a < xs.length → b < xs.length → Whole W g 57 (tabOf ms) → Calls Try.prog 33 #[tripAgg (trAt xs a), tripAgg (trAt xs b), .pointer (some ⟨g, 0, none⟩)] W fun e w' => e = .returned (.int .i64 (moveOf ms (trAt xs a) (trAt xs b))) ∧ Below W.heap.size W w') := Lib.hid fun g a b W ha hb hW =>
    moveOf_any g ms _ _ W hW hl64 (hOk.out a ha).2.2 (hOk.out b hb).2.1
  have hFb2 := Lib.hid (fun w1 hb => hFb.out w1 hb hl64)
  have hVb2 := Lib.hid (fun w1 hb => hVb.out w1 hb hl64)
  generalize hQ : IdlePost xs ms vs w = Q at *
  generalize hlt : Srt.insTo (ltK (startK xs)) xs.length = ord at *
  clear hQ hlt hc hc2 hc3 e1 e2 e3 e4 hok hNo hFb hVb hCan
  rw [hl64] at hl2 hMv hFb2 hVb2
  generalize htab : tabOf ms = tab at *
  generalize hvn : vs.length = nv at *
  obtain rfl : nv = xs.length := hEq.out
  generalize hnn : xs.length = n at *
  unfold maxLen at hl hl2 hl3
  clear hEq hvn hnn htab
  have hmm := @run_makeMap Try.prog
  go_enter Try.func8, Try.ntmps8
  go_wp2_with (first | (go_at_call 16; (with_reducible refine (hA.out).mono ?_); rintro e w1 ⟨rfl, hb1⟩; have hB1 := Lib.hid hb1; clear hb1) | (go_at_call 17; (with_reducible refine (hMv.out w1 hB1.out).mono ?_); rintro e w2 ⟨rfl, hb2⟩; have hB2 := Lib.hid (below_on hB1.out (Nat.le_refl _) hb2); clear hb2) | (go_at_call 18; (with_reducible refine (hIn.out w2 hB2.out).mono ?_); rintro e w' ⟨rfl, rfl⟩) | (go_at_call 19; (with_reducible refine (hPl.out w2 hB2.out).mono ?_); rintro e w3 ⟨g, rfl, hg3, ho3, hb3⟩; have hG3 := Lib.hid hg3; have hO3 := Lib.hid ho3; have hB3 := Lib.hid (below_on hB2.out (Nat.le_refl _) hb3); clear hg3 ho3 hb3) | (go_at_call 22; (with_reducible refine (hFb2.out w3 hB3.out).mono ?_); rintro e w4 ⟨rfl, e4⟩; have hB4 := Lib.hid (show Below w.heap.size w w4 by rw [e4]; exact (hB3.out.alloc hB3.out.size _).alloc (growB_le hB3.out.size _) _); have hT4 := Lib.hid (show Whole w4 w3.heap.size 57 tab by rw [e4]; exact (Whole.made w3 57 tab rfl).more _); have hF4 := Lib.hid (show Whole w4 (w3.heap.size + 1) 47 #[.func (.func 33) #[] #[.pointer (some ⟨w3.heap.size, 0, none⟩)]] by rw [e4]; exact Whole.made _ _ _ (by simp)); have hO4 := Lib.hid (show Below w3.heap.size w3 w4 by rw [e4]; exact below_alloc (below_alloc (Below.refl _ _) _) _); clear e4) | (go_at_call 23; (with_reducible refine (hVb2.out w4 hB4.out).mono ?_); rintro e w5 ⟨rfl, e5⟩; have hB5 := Lib.hid (show Below w.heap.size w w5 by rw [e5]; exact hB4.out.alloc hB4.out.size _); have hT5 := Lib.hid (show Whole w5 w4.heap.size 57 tab by rw [e5]; exact Whole.made w4 57 tab rfl); have hO5 := Lib.hid (show Below w4.heap.size w4 w5 by rw [e5]; exact below_alloc (Below.refl _ _) _); clear e5))
  have hTab : Hid (∀ W, Below w5.heap.size w5 W → Whole W w3.heap.size 57 tab ∧ W.cell? ⟨w3.heap.size + 1, 0, none⟩ = some (.func (.func 33) #[] #[.pointer (some ⟨w3.heap.size, 0, none⟩)]) ∧ Whole W w4.heap.size 57 tab) := Lib.hid fun W hW => ⟨(hT4.out.kept hO5.out).kept hW, ((hF4.out.kept hO5.out).kept hW).at_ (i := 0) rfl, hT5.out.kept hW⟩
  have hOrd : Hid (∀ W k, Below w5.heap.size w5 W → k < n → W.cell? ⟨g, k, none⟩ = some (.int .i64 (startF xs k))) := Lib.hid fun W k hW hk => by
    have c0 := (show Row w2.heap.size g n n w3 w3 ord from ⟨hO3.out, grown_refl _ _⟩).cell (k := k) hk
    rw [(hLow.out k hk).1] at c0
    have g3 := hG3.out
    have s4 := hO4.out.size
    have s5 := hO5.out.size
    rw [hW.cell (p := ⟨g, k, none⟩) (show g < w5.heap.size by omega), hO5.out.cell (p := ⟨g, k, none⟩) (show g < w4.heap.size by omega), hO4.out.cell (p := ⟨g, k, none⟩) (show g < w3.heap.size from g3)]
    exact c0
  have hFlw : Hid (∀ a b W, Below w5.heap.size w5 W → a < n → b < n → Calls Try.prog 32 #[tripAgg (trAt xs a), tripAgg (trAt xs b), .pointer (some ⟨w3.heap.size + 1, 0, none⟩)] W fun e w' => e = .returned (.bool (folT ms (trAt xs a) (trAt xs b))) ∧ Below W.heap.size W w') := Lib.hid fun a b W hW ha hb => hFol.out w3.heap.size a b W ha hb (hTab.out W hW).1 (hTab.out W hW).2.1
  have hMvw : Hid (∀ a b W, Below w5.heap.size w5 W → a < n → b < n → Calls Try.prog 33 #[tripAgg (trAt xs a), tripAgg (trAt xs b), .pointer (some ⟨w4.heap.size, 0, none⟩)] W fun e w' => e = .returned (.int .i64 (moveOf ms (trAt xs a) (trAt xs b))) ∧ Below W.heap.size W w') := Lib.hid fun a b W hW ha hb => hMof.out w4.heap.size a b W ha hb (hTab.out W hW).2.2
  have hM0 : Hid (∃ D, (w5.alloc (.map #[] 0)).ownsMap Try.prog 2 tripR w5.heap.size 0 D ∧ Lasts D (vehAt xs vs) (trAt xs) 0) := Lib.hid ⟨_, World.ownsMap_made w5 Try.prog 2 tripR, lasts_none _ _⟩
  have hB6 := Lib.hid (below_alloc (Below.refl w5.heap.size w5) (.map #[] 0))
  have hFn := Lib.hid (fun k hk => (hLow.out k hk).2)
  have hCT : Hid (∀ W k, Below w.heap.size w W → k < n → W.cell? ⟨b1, o1 + startF xs k * 4, none⟩ = some (.int .i64 (trAt xs k).Start) ∧ W.cell? ⟨b1, o1 + startF xs k * 4 + 1, none⟩ = some (.int .i64 (trAt xs k).End) ∧ W.cell? ⟨b1, o1 + startF xs k * 4 + 2, none⟩ = some (.int .i64 (trAt xs k).From) ∧ W.cell? ⟨b1, o1 + startF xs k * 4 + 3, none⟩ = some (.int .i64 (trAt xs k).To)) := Lib.hid fun W k hW hk => hT.out W _ hW (hFn.out k hk)
  have hCV : Hid (∀ W k, Below w.heap.size w W → k < n → W.cell? ⟨b3, o3 + startF xs k, none⟩ = some (.int .i64 (vehAt xs vs k))) := Lib.hid fun W k hW hk => hV.out W _ hW (hFn.out k hk)
  have hZero : (zeroValue 37).run Try.prog = fun W => .ok (.agg #[.int .i64 0, .int .i64 0, .int .i64 0, .int .i64 0]) W := by
    funext W; simp [zeroValue, go_sem, Try.t37]
  clear hTab hFol hMof hA hMv hIn hPl hFb2 hVb2 hT4 hF4 hT5 hO3 hO4 hO5 hG3 hLow hB1 hB2 hB3 hB4 hT hV hOk
  generalize startF xs = fF at *
  generalize vehAt xs vs = V at *
  generalize trAt xs = T at *
  generalize hOkF : idleOk V (fun a b => folT ms (T a) (T b)) = okF at *
  have hOkS : Hid (∀ b, okF (b + 1) = (okF b && (decide (prevTo V (V b) b < 0) || folT ms (T (prevTo V (V b) b).toNat) (T b)))) := Lib.hid fun b => by rw [← hOkF]; rfl
  have hOk0 : Hid (okF 0 = true) := Lib.hid (by rw [← hOkF]; rfl)
  generalize hSuF : idleSum V (fun a b => moveOf ms (T a) (T b)) = suF at *
  have hSuS : Hid (∀ b, suF (b + 1) = suF b + if prevTo V (V b) b < 0 then 0 else moveOf ms (T (prevTo V (V b) b).toNat) (T b)) := Lib.hid fun b => by rw [← hSuF]; rfl
  have hSu0 : Hid (suF 0 = 0) := Lib.hid (by rw [← hSuF]; rfl)
  clear hOkF hSuF
  have hSz5 := Lib.hid hB5.out.size
  go_loopw [12, 48] (fun sv iv wr => ∃ k : Nat, k ≤ n ∧ iv = .int .i64 k ∧ sv = .int .i64 (suF k) ∧ Hid (okF k = true) ∧ Hid (∃ D, wr.ownsMap Try.prog 2 tripR w5.heap.size k D ∧ Lasts D V T k) ∧ Hid (Below w5.heap.size w5 wr)) (fun _ iv _ => n - (intOf iv).toNat)
  case atStart => exact ⟨0, Nat.zero_le _, rfl, by rw [hSu0.out], hOk0, hM0, hB6⟩
  case round =>
    clear hM0 hB6 hOk0 hSu0
    obtain ⟨k, hk, rfl, rfl, hOb, hMp, hBq⟩ := hrel
    have hBh := Lib.hid (hB5.out.trans (hBq.out.mono hSz5.out))
    have hSb1 := hSb.out k hk
    by_cases hlt : k < n
    · have c0 := hOrd.out wr k hBq.out hlt
      have hfl := hFn.out k hlt
      obtain ⟨r0, r1, r2, r3⟩ := hCT.out wr k hBh.out hlt
      have rv := hCV.out wr k hBh.out hlt
      have hFk := Lib.hid (fun a W hW ha => hFlw.out a k W hW ha hlt)
      have hVk := Lib.hid (fun a W hW ha => hMvw.out a k W hW ha hlt)
      have hPp := Lib.hid (prevTo_in V (V k) k)
      have hOk1 := Lib.hid (hOkS.out k)
      have hSu1 := Lib.hid (hSuS.out k)
      have hVi := hVin.out k hlt
      have hMm := Lib.hid (fun a ha => hMb.out a k ha hlt)
      have hPut : Hid (∀ D, Lasts D V T k → IsMap D → Lasts (D.put (.int .i64 (V k)) (tripDt (T k))) V T (k + 1)) := Lib.hid fun D h hD => h.put hD (ints_wf (by omega) (by omega))
      have hKey : keyOf Try.prog 2 (.int .i64 (V k)) = some (.int .i64 (V k)) := keyOf_int_mk Try.underlying2 (ints_wf (by omega) (by omega))
      obtain ⟨D, hown, hLa⟩ := hMp.out
      have hLu := hLa (V k) (ints_wf (by omega) (by omega))
      have hLaH := Lib.hid hLa
      have hIsM : IsMap D := hown.isMap
      have hIM := Lib.hid hIsM
      have hS0 : Hid (∀ w' : World, Below wr.heap.size wr w' → (w'.cell? ⟨b1, o1 + fF k * 4, none⟩ = some (.int .i64 (T k).Start) ∧ w'.cell? ⟨b1, o1 + fF k * 4 + 1, none⟩ = some (.int .i64 (T k).End) ∧ w'.cell? ⟨b1, o1 + fF k * 4 + 2, none⟩ = some (.int .i64 (T k).From) ∧ w'.cell? ⟨b1, o1 + fF k * 4 + 3, none⟩ = some (.int .i64 (T k).To) ∧ w'.cell? ⟨b3, o3 + fF k, none⟩ = some (.int .i64 (V k))) ∧ Below wr.heap.size wr w') := Lib.hid fun w' hb => by
        have h2 := hBh.out.trans (hb.mono hBh.out.size)
        obtain ⟨q0, q1, q2, q3⟩ := hCT.out w' k h2 hlt
        exact ⟨⟨q0, q1, q2, q3, hCV.out w' k h2 hlt⟩, hb⟩
      have hR0 := Below.refl wr.heap.size wr
      have hKh := Lib.hid hKey
      have hLu2 := Lib.hid hLu
      have hOwn := Lib.hid hown
      clear hLa hLu hIsM hown hKey hMp
      obtain ⟨fk, hfk⟩ : ∃ f, f = fF k := ⟨_, rfl⟩
      rw [← hfk] at c0 r0 r1 r2 r3 rv hS0 hfl
      obtain ⟨vk, hvk⟩ : ∃ v, v = V k := ⟨_, rfl⟩
      rw [← hvk] at rv hPp hOk1 hSu1 hVi hPut hKh hLu2 hS0
      obtain ⟨⟨ta, tb, tc, td⟩, htk⟩ : ∃ t, t = T k := ⟨_, rfl⟩
      rw [← htk] at r0 r1 r2 r3 hFk hVk hPut hS0 hOk1 hSu1 hMm
      simp only at r0 r1 r2 r3 hS0
      clear hfk hvk htk
      have hd : (k : Int) < (n : Int) := by omega
      have l1 : (fk : Int) < (n : Int) := by omega
      go_wp2_with fail
      go_region_held3 (fun w' => (w'.cell? ⟨b1, o1 + fk * 4, none⟩ = some (.int .i64 ta) ∧ w'.cell? ⟨b1, o1 + fk * 4 + 1, none⟩ = some (.int .i64 tb) ∧ w'.cell? ⟨b1, o1 + fk * 4 + 2, none⟩ = some (.int .i64 tc) ∧ w'.cell? ⟨b1, o1 + fk * 4 + 3, none⟩ = some (.int .i64 td) ∧ w'.cell? ⟨b3, o3 + fk, none⟩ = some (.int .i64 vk)) ∧ Below wr.heap.size wr w') ((first | exact hS0.out _ hR0 | exact hS0.out _ hR0.drew | exact hS0.out _ (below_alloc hR0 _) | exact hS0.out _ (below_alloc hR0 _).drew | exact hS0.out _ (below_alloc hR0.drew _))) (fail)
      have Y15 := Lib.hid (show Whole (wr.alloc (.cells #[.int .i64 ta, .int .i64 tb, .int .i64 tc, .int .i64 td] 37)).drew wr.heap.size 37 #[.int .i64 ta, .int .i64 tb, .int .i64 tc, .int .i64 td] from (Whole.made wr 37 #[.int .i64 ta, .int .i64 tb, .int .i64 tc, .int .i64 td] rfl).draws 1)
      have hO9 := Lib.hid (show (wr.alloc (.cells #[.int .i64 ta, .int .i64 tb, .int .i64 tc, .int .i64 td] 37)).drew.ownsMap Try.prog 2 tripR w5.heap.size k D from (hOwn.out.alloc _).drew)
      have hB9 := Lib.hid (show Below w5.heap.size w5 (wr.alloc (.cells #[.int .i64 ta, .int .i64 tb, .int .i64 tc, .int .i64 td] 37)).drew from (hBq.out.alloc hBq.out.size _).drew)
      generalize World.drew _ = w9 at *
      generalize wr.heap.size = x15 at *
      clear hS0 hR0 c0 r0 r1 r2 r3 rv hBq hBh hOwn
      obtain ⟨v, ps, hrun, hRv⟩ := hO9.out.look_ok lawVeh Try.underlying49 (congrFun hZero w9) (show tripR (.agg #[.int .i64 0, .int .i64 0, .int .i64 0, .int .i64 0]) = some (tripDt ⟨0, 0, 0, 0⟩, []) from rfl) hKh.out
      obtain ⟨hL1, hL2⟩ := hLu2.out
      rw [hL1] at hrun
      by_cases hp : prevTo V vk k < 0
      · have hq : decide (0 ≤ prevTo V vk k) = false := decide_eq_false (by omega)
        rw [hq] at hrun
        rw [hq] at hL1
        rw [atKey_of_not_has hL1] at hRv
        obtain rfl := tripR_inv hRv
        simp only [tripAgg] at hrun
        have hO2 := Lib.hid (show okF (k + 1) = true by rw [hOk1.out, hOb.out, decide_eq_true hp]; rfl)
        have hS2 := Lib.hid (show suF (k + 1) = suF k by rw [hSu1.out, if_pos hp]; omega)
        have Y16 := Lib.hid (Y15.out.more (.cells #[.int .i64 0, .int .i64 0, .int .i64 0, .int .i64 0] 37))
        have y0 := Y16.out.at_ (i := 0) rfl
        have y1 := Y16.out.at_ (i := 1) rfl
        have y2 := Y16.out.at_ (i := 2) rfl
        have y3 := Y16.out.at_ (i := 3) rfl
        have hOa := Lib.hid (hO9.out.alloc (.cells #[.int .i64 0, .int .i64 0, .int .i64 0, .int .i64 0] 37))
        have hBa := Lib.hid (hB9.out.alloc hB9.out.size (.cells #[.int .i64 0, .int .i64 0, .int .i64 0, .int .i64 0] 37))
        clear hRv hL1 hL2 hq hFk hVk
        go_wp2_with (at_mapUpdate; refine wpList_mapUpdate_own _ rfl _ _ _ 49 rfl 2 37 lawVeh Try.underlying49 tripR w5.heap.size k D rfl hOa.out (by unfold maxLen; omega) _ _ _ rfl rfl hKh.out _ [] (tripR_is ⟨ta, tb, tc, td⟩) ?_; intro w10 hown10 hgrow10; have hO10 := Lib.hid hown10; have hG10 := Lib.hid hgrow10; clear hown10 hgrow10)
        have hB10 := Lib.hid (hBa.out.grown hG10.out hBa.out.size (fun q e => by injection e with e; rw [← e]; exact Nat.le_refl _))
        go_roundw
        case rel => exact ⟨k + 1, by omega, by go_num, by rw [hS2.out], hO2, Lib.hid ⟨_, hO10.out, hPut.out D hLaH.out hIM.out⟩, hB10⟩
        case measure => simp [intOf]; omega
      · have hq : decide (0 ≤ prevTo V vk k) = true := decide_eq_true (by omega)
        rw [hq] at hrun
        rw [hL2 (by omega)] at hRv
        obtain rfl := tripR_inv hRv
        obtain ⟨pn, hpn⟩ : ∃ pn : Nat, prevTo V vk k = (pn : Int) := ⟨_, (Int.toNat_of_nonneg (by omega)).symm⟩
        have hpk : pn < k := by have := hPp.out.2.1; omega
        have hOk3 : okF (k + 1) = folT ms (T pn) ⟨ta, tb, tc, td⟩ := by rw [hOk1.out, hOb.out, hpn, decide_eq_false (by omega), Bool.true_and, Bool.false_or, Int.toNat_natCast]
        have hSu3 : suF (k + 1) = suF k + moveOf ms (T pn) ⟨ta, tb, tc, td⟩ := by rw [hSu1.out, hpn, if_neg (by omega), Int.toNat_natCast]
        rw [hpn, Int.toNat_natCast] at hrun
        have hmv := hMm.out pn (by omega)
        have hF1 := Lib.hid (fun W hW => hFk.out pn W hW (by omega))
        have hV1 := Lib.hid (fun W hW => hVk.out pn W hW (by omega))
        generalize folT ms (T pn) ⟨ta, tb, tc, td⟩ = q at *
        generalize moveOf ms (T pn) ⟨ta, tb, tc, td⟩ = mv at *
        generalize T pn = tp at *
        obtain ⟨sa, sb, sc, sd⟩ := tp
        simp only [tripAgg] at hrun hF1 hV1
        have Y16 := Lib.hid (Y15.out.more (.cells #[.int .i64 sa, .int .i64 sb, .int .i64 sc, .int .i64 sd] 37))
        have Y17 := Lib.hid (Whole.made w9 37 #[.int .i64 sa, .int .i64 sb, .int .i64 sc, .int .i64 sd] (b := w9.heap.size) rfl)
        have y0 := Y16.out.at_ (i := 0) rfl
        have y1 := Y16.out.at_ (i := 1) rfl
        have y2 := Y16.out.at_ (i := 2) rfl
        have y3 := Y16.out.at_ (i := 3) rfl
        have z0 := Y17.out.at_ (i := 0) rfl
        have z1 := Y17.out.at_ (i := 1) rfl
        have z2 := Y17.out.at_ (i := 2) rfl
        have z3 := Y17.out.at_ (i := 3) rfl
        have hOa := Lib.hid (hO9.out.alloc (.cells #[.int .i64 sa, .int .i64 sb, .int .i64 sc, .int .i64 sd] 37))
        have hBa := Lib.hid (hB9.out.alloc hB9.out.size (.cells #[.int .i64 sa, .int .i64 sb, .int .i64 sc, .int .i64 sd] 37))
        have hwv : IntKind.i64.wrap (suF k + mv) = suF k + mv := IntWalk.i64_in _ (by omega)
        clear hRv hL1 hL2 hq hFk hVk hOk1 hSu1 hMm
        cases q
        · have hR := Lib.hid (hOn.out (k + 1) (by omega) hOk3)
          clear hOk3 hSu3
          go_wp2_with (go_at_call 32; (with_reducible refine (hF1.out _ hBa.out).mono ?_); rintro e w11 ⟨rfl, hb11⟩; have hB11 := Lib.hid (below_on hBa.out (Nat.le_refl _) hb11); clear hb11 y0 y1 y2 y3 z0 z1 z2 z3)
          first | exact hR.out _ (hB5.out.trans (hB11.out.mono hSz5.out)) | (go_ret2; exact hR.out _ (hB5.out.trans (hB11.out.mono hSz5.out)))
        · have hO2 := Lib.hid hOk3
          have hS2 := Lib.hid hSu3
          have hlM := Lib.hid (hOa.out.lt)
          clear hOk3 hSu3
          go_wp2_with (first | (go_at_call 32; (with_reducible refine (hF1.out _ hBa.out).mono ?_); rintro e w11 ⟨rfl, hb11⟩; have hB11 := Lib.hid (below_on hBa.out (Nat.le_refl _) hb11); have hO11 := Lib.hid (map_below hOa.out hb11 hlM.out); have A15 := Lib.hid (Y16.out.kept hb11); have A17 := Lib.hid (Y17.out.kept hb11); have x0 := A15.out.at_ (i := 0) rfl; have x1 := A15.out.at_ (i := 1) rfl; have x2 := A15.out.at_ (i := 2) rfl; have x3 := A15.out.at_ (i := 3) rfl; have v0 := A17.out.at_ (i := 0) rfl; have v1 := A17.out.at_ (i := 1) rfl; have v2 := A17.out.at_ (i := 2) rfl; have v3 := A17.out.at_ (i := 3) rfl; clear hb11 y0 y1 y2 y3 z0 z1 z2 z3) | (go_at_call 33; (with_reducible refine (hV1.out _ hB11.out).mono ?_); rintro e w12 ⟨rfl, hb12⟩; have hB12 := Lib.hid (below_on hB11.out (Nat.le_refl _) hb12); have hO12 := Lib.hid (map_below hO11.out hb12 hO11.out.lt); have B15 := Lib.hid (A15.out.kept hb12); have u0 := B15.out.at_ (i := 0) rfl; have u1 := B15.out.at_ (i := 1) rfl; have u2 := B15.out.at_ (i := 2) rfl; have u3 := B15.out.at_ (i := 3) rfl; clear hb12 x0 x1 x2 x3 v0 v1 v2 v3) | (at_mapUpdate; refine wpList_mapUpdate_own _ rfl _ _ _ 49 rfl 2 37 lawVeh Try.underlying49 tripR w5.heap.size k D rfl hO12.out (by unfold maxLen; omega) _ _ _ rfl rfl hKh.out _ [] (tripR_is ⟨ta, tb, tc, td⟩) ?_; intro w10 hown10 hgrow10; have hO10 := Lib.hid hown10; have hG10 := Lib.hid hgrow10; clear hown10 hgrow10))
          have hB10 := Lib.hid (hB12.out.grown hG10.out hB12.out.size (fun q e => by injection e with e; rw [← e]; exact Nat.le_refl _))
          go_roundw
          case rel => exact ⟨k + 1, by omega, by go_num, by rw [hS2.out], hO2, Lib.hid ⟨_, hO10.out, hPut.out D hLaH.out hIM.out⟩, hB10⟩
          case measure => simp [intOf]; omega
    · obtain rfl : n = k := by omega
      have hR := Lib.hid (hYe.out hOb.out wr hBh.out)
      clear hMp
      go_wp2_with fail
      first | exact hR.out | (go_ret2; exact hR.out)
theorem idleMoves_both (xs : List TripD) (ms vs : List Int) (_ : ∀ y ∈ xs, y.wf) (_ : ∀ x ∈ ms, (Lit.int .i64 x).wf = true) (_ : ∀ x ∈ vs, (Lit.int .i64 x).wf = true) : ∃ (r0 : Int) (r1 : Bool),
    (∀ (B : Nat) (v0 v1 v2 : Value) (w : World), LstTrip B w v0 xs → LstI B w v1 ms → LstI B w v2 vs → B ≤ w.heap.size → Calls Try.prog 5 #[v0, v1, v2] w fun e w' => e = .returned (.tuple #[.int .i64 r0, .bool r1]) ∧ Below w.heap.size w w') ∧
    (∀ (B : Nat) (v0 v1 v2 : Value) (w : World), LstTrip B w v0 xs → LstI B w v1 ms → LstI B w v2 vs → B ≤ w.heap.size → Calls Try.prog 8 #[v0, v1, v2] w fun e w' => e = .returned (.tuple #[.int .i64 r0, .bool r1]) ∧ Below w.heap.size w w') :=
  ⟨idleVal xs ms vs, idleYes xs ms vs, fun B v0 v1 v2 w h0 h1 h2 hB => specIdle_any B v0 v1 v2 xs ms vs w h0 h1 h2 hB, fun B v0 v1 v2 w h0 h1 h2 hB => implIdle_any B v0 v1 v2 xs ms vs w h0 h1 h2 hB⟩
end Go.Proofs.Ytmnogipmpojoaaa
