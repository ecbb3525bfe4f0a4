/- Contracts: counts of models; how far each model is behind an even order. -/
import Derived.Test.YtfigojmdklaljaaEvenPure
import Derived.Test.YtfigojmdklaljaaPost
import Derived.Test.YtfigojmdklaljaaMake
namespace Go.Proofs.Ytfigojmdklaljaa
open Go.RowKit Go.Lst

set_option maxHeartbeats 1000000 in
theorem areCounts_any (B : Nat) (v : Value) (cs : List Int) (w : World) (h : LstI B w v cs) :
    Calls Try.prog 56 #[v] w fun e w' => e = .returned (.bool (okCounts cs)) ∧ w = w' := by
  have hA := Lib.hid (areWithin_any B v cs 0 16 w h.lst)
  have hS : Hid (cs.length ≤ 8 → allIn cs 0 16 = true → Calls Try.prog 49 #[v] w fun e w' => e = .returned (.int .i64 (sumTo cs cs.length)) ∧ w = w') := Lib.hid fun a b => sumOf_any B v cs w h (counts_sums a b) (fun i x hx => by have := allIn_of b hx; omega)
  obtain ⟨a, cap, rfl, hl, _⟩ := h.at_
  unfold okCounts
  clear h
  generalize allIn cs 0 16 = q at *
  generalize sumTo cs cs.length = z at *
  generalize cs.length = n at *
  unfold maxLen at hl
  by_cases h1 : 1 ≤ n
  · by_cases h2 : n ≤ 8
    · rw [decide_eq_true h1, decide_eq_true h2, Bool.true_and, Bool.true_and]
      cases q
      · go_enter Try.func56, Try.ntmps56
        go_wp2_with (go_at_call 51; (with_reducible refine (hA.out).mono ?_); rintro e w' ⟨rfl, rfl⟩)
        go_ret
        exact ⟨rfl, rfl⟩
      · have hS2 := Lib.hid (hS.out h2 rfl)
        rw [Bool.true_and]
        go_enter Try.func56, Try.ntmps56
        go_wp2_with (first | (go_at_call 51; (with_reducible refine (hA.out).mono ?_); rintro e w' ⟨rfl, rfl⟩) | (go_at_call 49; (with_reducible refine (hS2.out).mono ?_); rintro e w' ⟨rfl, rfl⟩) | (go_at_call 45; (with_reducible refine (isWithin_any _ _ _ _).mono ?_); rintro e w' ⟨rfl, rfl⟩))
        go_ret
        exact ⟨rfl, rfl⟩
    · rw [decide_eq_false h2, Bool.and_false]
      have h3 : 8 < n := by omega
      clear h2
      go_enter Try.func56, Try.ntmps56
      go_wp2_with fail
      go_ret
      exact ⟨rfl, rfl⟩
  · rw [decide_eq_false h1]
    have h3 : n < 1 := by omega
    clear h1
    go_enter Try.func56, Try.ntmps56
    go_wp2_with fail
    go_ret
    exact ⟨rfl, rfl⟩
set_option maxHeartbeats 2000000 in
theorem l04Counts_any (B : Nat) (v : Value) (cs : List Int) (w : World) (h : LstI B w v cs) :
    Calls Try.prog 53 #[v] w fun e w' => e = .returned (.bool (okCounts cs)) ∧ w = w' := by
  have hS : Hid (cs.length ≤ 8 → allIn cs 0 16 = true → Calls Try.prog 54 #[v] w fun e w' => e = .returned (.int .i64 (sumTo cs cs.length)) ∧ w = w') := Lib.hid fun a b => l02Sum_any B v cs 0 w h (counts_sums a b) (fun i x hx => by have := allIn_of b hx; omega)
  obtain ⟨a, cap, rfl, hl, _, _, hc⟩ := h.at_
  have hN : Hid (∀ k, k = cs.length → (∀ i x, i < k → cs[i]? = some x → inB x 0 16 = true) → allIn cs 0 16 = true) := Lib.hid fun k hk hp => by
    unfold allIn
    exact all_upto fun i x hi hx => hp i x (by omega) hx
  have hM : Hid (∀ (i : Nat) (x : Int), cs[i]? = some x → inB x 0 16 = false → okCounts cs = false) := Lib.hid fun i x hx hq => by
    unfold okCounts allIn
    rw [all_not hx hq, Bool.and_false]; rfl
  have hE : Hid (okCounts cs = (decide (1 ≤ cs.length) && decide (cs.length ≤ 8) && allIn cs 0 16 && inB (sumTo cs cs.length) 1 64)) := Lib.hid rfl
  have hC := Lib.hid hc
  clear hc h
  generalize allIn cs 0 16 = q at *
  generalize sumTo cs cs.length = z at *
  generalize cs.length = n at *
  unfold maxLen at hl
  go_enter Try.func53, Try.ntmps53
  go_wp2_with fail
  go_loopw [3] (fun i wr => ∃ k : Nat, k ≤ n ∧ i = .int .i64 k ∧ Hid (∀ i x, i < k → cs[i]? = some x → inB x 0 16 = true) ∧ wr = w) (fun i _ => n - (intOf i).toNat)
  case atStart => exact ⟨0, Nat.zero_le _, rfl, Lib.hid (fun i x hi _ => by omega), rfl⟩
  case round =>
    obtain ⟨k, hk, rfl, hP, rfl⟩ := hrel
    by_cases hlt : k < n
    · obtain ⟨b, o, x, rfl, _, hx, hcell⟩ := hC.out k hlt
      have hXx := Lib.hid hx
      clear hx
      cases hq : inB x 0 16
      · have hF := Lib.hid (hM.out k x hXx.out hq)
        go_wp2_with (go_at_call 47; (with_reducible refine (l00In_any _ _ _ _).mono ?_); rintro e w' ⟨rfl, rfl⟩)
        go_ret
        exact ⟨ret_bool (by rw [hF.out]), rfl⟩
      · have hP2 : Hid (∀ i y, i < k + 1 → cs[i]? = some y → inB y 0 16 = true) := Lib.hid fun i y hi hy => by
          by_cases h1 : i < k
          · exact hP.out i y h1 hy
          · have : i = k := by omega
            subst this
            rw [hXx.out] at hy
            cases hy
            exact hq
        go_wp2_with (go_at_call 47; (with_reducible refine (l00In_any _ _ _ _).mono ?_); rintro e w' ⟨rfl, rfl⟩)
        go_roundw
        case rel => exact ⟨k + 1, by omega, by go_num, hP2, by trivial⟩
        case measure => simp [intOf]; omega
    · obtain rfl : q = true := hN.out k (by omega) hP.out
      by_cases h1 : 1 ≤ n
      · by_cases h2 : n ≤ 8
        · have hS2 := Lib.hid (hS.out h2 rfl)
          have hV := Lib.hid (show okCounts cs = inB z 1 64 by rw [hE.out, decide_eq_true h1, decide_eq_true h2]; rfl)
          have hd1 : decide (1 ≤ (n : Int)) = true := by simp; omega
          have hd2 : decide ((n : Int) ≤ 8) = true := by simp; omega
          clear hS hE hM hN hP
          go_wp2_with (first | (go_at_call 54; (with_reducible refine (hS2.out).mono ?_); rintro e w' ⟨rfl, rfl⟩) | (go_at_call 47; (with_reducible refine (l00In_any _ _ _ _).mono ?_); rintro e w' ⟨rfl, rfl⟩))
          go_ret
          exact ⟨ret_bool (by rw [hV.out]), rfl⟩
        · have hV := Lib.hid (show okCounts cs = false by rw [hE.out, decide_eq_false h2]; simp)
          have hd1 : decide (1 ≤ (n : Int)) = true := by simp; omega
          have hd2 : decide ((n : Int) ≤ 8) = false := by simp; omega
          clear hS hE hM hN hP h2
          go_wp2_with fail
          go_ret
          exact ⟨ret_bool (by rw [hV.out]), rfl⟩
      · have hV := Lib.hid (show okCounts cs = false by rw [hE.out, decide_eq_false h1]; simp)
        have hd1 : decide (1 ≤ (n : Int)) = false := by simp; omega
        clear hS hE hM hN hP h1
        go_wp2_with fail
        go_ret
        exact ⟨ret_bool (by rw [hV.out]), rfl⟩
/-- How far the first i models are behind an even order at the place k. -/
def byL (cs b : List Int) (n k : Int) (i : Nat) : List Int := (List.range i).map (byAt cs b n k)
theorem byL_length (cs b : List Int) (n k : Int) (i : Nat) : (byL cs b n k i).length = i := by simp [byL]
theorem byL_succ (cs b : List Int) (n k : Int) (i : Nat) : byL cs b n k (i + 1) = byL cs b n k i ++ [byAt cs b n k i] := by unfold byL; rw [List.range_succ, List.map_append]; rfl
theorem byL_getD (cs b : List Int) (n k : Int) (m i : Nat) (h : i < m) : (byL cs b n k m).getD i 0 = byAt cs b n k i := by
  unfold byL
  rw [List.getD_eq_getElem?_getD, List.getElem?_map, List.getElem?_range h]; rfl
def byIn (cs b : List Int) (n k : Int) (m i : Nat) : List Int := byL cs b n k i ++ List.replicate (m - i) 0
theorem byIn_length (cs b : List Int) (n k : Int) {m i : Nat} (h : i ≤ m) : (byIn cs b n k m i).length = m := by unfold byIn; rw [List.length_append, byL_length, List.length_replicate]; omega
theorem byIn_step (cs b : List Int) (n k : Int) {m i : Nat} (h : i < m) : (byIn cs b n k m i).set i (byAt cs b n k i) = byIn cs b n k m (i + 1) := by
  obtain ⟨q, hq⟩ : ∃ q, m - i = q + 1 := ⟨m - i - 1, by omega⟩
  unfold byIn
  rw [hq, show m - (i + 1) = q by omega, List.replicate_succ, List.set_append_right _ _ (by rw [byL_length]; exact Nat.le_refl _), byL_length, Nat.sub_self, List.set_cons_zero, byL_succ]
  simp
theorem byIn_full (cs b : List Int) (n k : Int) (m : Nat) : byIn cs b n k m m = byL cs b n k m := by unfold byIn; rw [Nat.sub_self]; simp
theorem byIn_zero (cs b : List Int) (n k : Int) (m : Nat) : byIn cs b n k m 0 = List.replicate m 0 := by unfold byIn byL; simp
set_option maxHeartbeats 4000000 in
theorem behindEven_any (B : Nat) (v1 v2 : Value) (cs b : List Int) (n k : Int) (w : World) (h1 : LstI B w v1 cs) (h2 : LstI B w v2 b) (hl : b.length = cs.length) (h8 : cs.length ≤ 8) (hB : B ≤ w.heap.size)
    (hb : ∀ i, (0 ≤ k * cs.getD i 0 ∧ k * cs.getD i 0 ≤ 1024) ∧ (0 ≤ n * b.getD i 0 ∧ n * b.getD i 0 ≤ 4096)) :
    Calls Try.prog 57 #[v1, v2, .int .i64 n, .int .i64 k] w fun e w' => ∃ v', e = .returned v' ∧ Own w.heap.size w'.heap.size w' v' 2 1 cs.length ((byL cs b n k cs.length).map (Value.int .i64)) ∧ Below w.heap.size w w' := by
  obtain ⟨a1, cap1, rfl, hl1, _, _, hc1⟩ := h1.at_
  obtain ⟨a2, cap2, rfl, hl2, _, _, hc2⟩ := h2.at_
  rw [hl] at hl2 hc2 ⊢
  have hC1 := Lib.hid hc1
  have hC2 := Lib.hid hc2
  have hBd := Lib.hid hb
  have hSt : Hid (∀ i, i < cs.length → (byIn cs b n k cs.length i).set i (byAt cs b n k i) = byIn cs b n k cs.length (i + 1)) := Lib.hid fun i hi => byIn_step cs b n k hi
  have hLn : Hid (∀ i, i ≤ cs.length → (byIn cs b n k cs.length i).length = cs.length) := Lib.hid fun i hi => byIn_length cs b n k hi
  have hFu := Lib.hid (byIn_full cs b n k cs.length)
  have hZ0 := Lib.hid (byIn_zero cs b n k cs.length)
  obtain ⟨i0, hi, hz0, hz1, hz2⟩ := info_parts infoI
  clear hc1 hc2 h1 h2 hb hl
  generalize cs.length = m at *
  unfold maxLen at hl1 hl2
  go_enter Try.func57, Try.ntmps57
  go_wp2_with (at_make; refine wpList_make_full _ rfl _ _ _ rfl w.heap.size _ i0 (.int .i64 0) 1 Try.underlying22 hi hz0 hz1 _ _ _ _ m rfl rfl rfl rfl ?c1 ?c2 ?c3 ?_)
  case c1 => rw [hz2]; omega
  case c2 => unfold maxLen; omega
  case c3 => exact Nat.le_refl _
  intro w2 hown2 hg2
  have hB2 := Lib.hid ((Below.refl w.heap.size w).grown hg2 (Nat.le_refl _) (fun k hk => by cases hk))
  have hO2 := Lib.hid (show w2.ownsRow w.heap.size 2 1 (.slice (some ⟨w.heap.size, 0, none⟩) m m) m ((byIn cs b n k m 0).map (Value.int .i64)) by rw [hZ0.out]; exact zeros_row hown2)
  clear hown2 hg2 hz0 hz1 hz2 hi hZ0
  generalize hgg : w.heap.size = g at *
  have hGG := Lib.hid hgg
  clear hgg
  go_wp2_with fail
  go_loopw [17] (fun ii wr => ∃ (i : Nat), i ≤ m ∧ ii = .int .i64 i ∧ Hid (wr.ownsRow g 2 1 (.slice (some ⟨g, 0, none⟩) m m) m ((byIn cs b n k m i).map (Value.int .i64))) ∧ Hid (Below g w wr)) (fun ii _ => m - (intOf ii).toNat)
  case atStart => exact ⟨0, Nat.zero_le _, rfl, hO2, hB2⟩
  case round =>
    clear hB2 hO2
    obtain ⟨i, hk, rfl, hO, hB⟩ := hrel
    by_cases hlt : i < m
    · obtain ⟨b1, o1, x, rfl, hb1, hx, p0⟩ := hC1.out i hlt
      obtain ⟨b2, o2, y, rfl, hb2, hy, q0⟩ := hC2.out i hlt
      obtain ⟨⟨z1, z2⟩, z3, z4⟩ := hBd.out i
      have hA := Lib.hid (show byAt cs b n k i = k * x - n * y by unfold byAt; rw [getD_of hx, getD_of hy])
      rw [getD_of hx] at z1 z2
      rw [getD_of hy] at z3 z4
      rw [← hB.out.cell (p := ⟨b1, o1 + i, none⟩) (show b1 < g by have := hGG.out; omega)] at p0
      rw [← hB.out.cell (p := ⟨b2, o2 + i, none⟩) (show b2 < g by have := hGG.out; omega)] at q0
      have hw1 : IntKind.i64.wrap (k * x) = k * x := IntWalk.i64_in _ (by omega)
      have hw2 : IntKind.i64.wrap (n * y) = n * y := IntWalk.i64_in _ (by omega)
      have hw3 : IntKind.i64.wrap (k * x - n * y) = k * x - n * y := IntWalk.i64_in _ (by omega)
      have hd : wr.cell? ⟨g, i, none⟩ = some (.int .i64 ((byIn cs b n k m i).getD i 0)) := row_cell hO.out (by rw [hLn.out i hk]; exact hlt)
      have hfr : wr.frozen? ⟨g, i, none⟩ = false := hO.out.frozenAt i
      generalize (byIn cs b n k m i).getD i 0 = dv at *
      have hst := row_set hO.out i (k * x - n * y)
      have hO4 := Lib.hid (show (wr.setCell ⟨g, i, none⟩ (.int .i64 (k * x - n * y))).ownsRow g 2 1 (.slice (some ⟨g, 0, none⟩) m m) m ((byIn cs b n k m (i + 1)).map (Value.int .i64)) by rw [← hSt.out i hlt, hA.out]; exact hst.1)
      have hB4 := Lib.hid (hB.out.setCell (p := ⟨g, i, none⟩) (Nat.le_refl _) (.int .i64 (k * x - n * y)))
      clear hx hy hst hO hB
      go_wp2_with fail
      go_roundw
      case rel => exact ⟨i + 1, by omega, by go_num, hO4, hB4⟩
      case measure => simp [intOf]; omega
    · obtain rfl : m = i := by omega
      have hO5 := Lib.hid (show Own g wr.heap.size wr (.slice (some ⟨g, 0, none⟩) m m) 2 1 m ((byL cs b n k m).map (Value.int .i64)) by rw [← hFu.out]; exact Own.new hO.out (by unfold maxLen; omega))
      clear hO
      go_wp2_with fail
      go_ret
      rw [hGG.out]
      exact ⟨_, rfl, hO5.out, hB.out⟩
end Go.Proofs.Ytfigojmdklaljaa
