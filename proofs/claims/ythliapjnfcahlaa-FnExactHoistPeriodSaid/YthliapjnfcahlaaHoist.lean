/- Contracts: the least period of a hoist, in the program: the whole function. -/
import Derived.Test.YthliapjnfcahlaaHoistImpl
namespace Go.Proofs.Ythliapjnfcahlaa
open Go.RowKit Go.Lst

theorem row_lstI {w : World} {A g n cap : Nat} {l : List Int} (ho : w.ownsRow A 2 1 (.slice (some ⟨g, 0, none⟩) n cap) n (l.map (Value.int .i64))) (hl : l.length = n) (hn : n ≤ 1048576) : LstI w.heap.size w (.slice (some ⟨g, 0, none⟩) n cap) l := by
  subst hl
  exact (Own.new ho (by unfold maxLen; omega)).lstI (Nat.le_refl _)
def bgnI (ss ms : List Int) (i : Nat) : Int := ((bgn ss ms i : Nat) : Int)
theorem fillZ_one {f : Nat → Int} (h : f 0 = 0) {n : Nat} (hn : 1 ≤ n) : fillZ f 1 n = List.replicate n 0 := by
  have e : fillI f 1 = [f 0] := rfl
  unfold fillZ
  rw [e, h]
  obtain ⟨k, rfl⟩ : ∃ k, n = k + 1 := ⟨n - 1, by omega⟩
  rw [List.replicate_succ]; rfl
theorem fillZ_get (f : Nat → Int) {i k n : Nat} (h : i < k) : (fillZ f k n).getD i 0 = f i := by
  unfold fillZ
  rw [List.getD_eq_getElem?_getD, List.getElem?_append_left (by rw [fillI_length]; exact h)]
  unfold fillI
  rw [List.getElem?_map, List.getElem?_range h]; rfl
theorem fillI_get (f : Nat → Int) {i n : Nat} (h : i < n) : (fillI f n)[i]? = some (f i) := by
  unfold fillI
  rw [List.getElem?_map, List.getElem?_range h]; rfl
theorem under_of {ss : List Int} {P : Nat} (h : 1 ≤ ss.length) : allUnder ss P = decide (maxTo ss (ss.length - 1) ≤ (P : Int)) := by
  rw [Bool.eq_iff_iff, decide_eq_true_eq]
  unfold allUnder
  rw [List.all_eq_true]
  constructor
  · intro h1
    have hmax : ∀ k, k < ss.length → maxTo ss k ≤ (P : Int) := fun k => by
      induction k with
      | zero =>
        intro hk
        have e : ss[0]? = some ss[0] := List.getElem?_eq_getElem _
        unfold maxTo
        rw [getD_of e]
        simpa using h1 _ (List.getElem_mem _)
      | succ k ih =>
        intro hk
        have e : ss[k + 1]? = some ss[k + 1] := List.getElem?_eq_getElem _
        have := ih (by omega)
        have h3 : ss[k + 1] ≤ (P : Int) := by simpa using h1 _ (List.getElem_mem _)
        unfold maxTo
        rw [getD_of e]
        omega
    exact hmax _ (by omega)
  · intro h1 x hx
    obtain ⟨i, hi, rfl⟩ := List.mem_iff_getElem.1 hx
    have e : ss[i]? = some ss[i] := List.getElem?_eq_getElem _
    have := maxTo_ge (xs := ss) (k := ss.length - 1) (i := i) (by omega)
    rw [getD_of e] at this
    simp only [decide_eq_true_eq]
    omega

set_option maxHeartbeats 4000000 in
set_option maxRecDepth 100000 in
theorem implHoist_any (B : Nat) (v1 v2 : Value) (ss ms : List Int) (most : Int) (w : World) (h1 : LstI B w v1 ss) (h2 : LstI B w v2 ms) (hB : B ≤ w.heap.size) :
    Calls Try.prog 49 #[v1, v2, .int .i64 most] w (HoistPost ss ms most w) := by
  have hA := Lib.hid (areForHoist_any B v1 v2 ss ms w h1 h2)
  cases hq : canHoist ss ms most
  · have hP := Lib.hid (hpost (w := w) (w' := w) (hoist_no hq) (Below.refl _ _))
    generalize HoistPost ss ms most w = Q at *
    obtain ⟨a1, cap1, rfl, hl1, _⟩ := h1.at_
    obtain ⟨a2, cap2, rfl, hl2, _⟩ := h2.at_
    unfold canHoist at hq
    clear h1 h2
    generalize (okRuns ss && decide (ms.length = ss.length + 1) && allIn ms 1 100) = q1 at *
    generalize ss.length = n at *
    generalize ms.length = m at *
    unfold maxLen at hl1 hl2
    cases q1
    · clear hq
      go_enter Try.func49, Try.ntmps49
      go_wp2_with (go_at_call 86; (with_reducible refine (hA.out).mono ?_); rintro e w' ⟨rfl, rfl⟩)
      first | exact hP.out | (go_ret2; exact hP.out)
    · rw [Bool.true_and] at hq
      go_enter Try.func49, Try.ntmps49
      go_wp2_with (first | (go_at_call 86; (with_reducible refine (hA.out).mono ?_); rintro e w' ⟨rfl, rfl⟩) | (go_at_call 55; refine (isWithin_any _ _ _ _).mono ?_; rintro e w' ⟨rfl, rfl⟩))
      first | exact hP.out | (go_ret2; exact hP.out)
  · obtain ⟨hs, hl, hm, hmo⟩ := canHoist_of hq
    obtain ⟨M, rfl⟩ := Int.eq_ofNat_of_zero_le (show 0 ≤ most by have := (inB_true hmo).1; omega)
    have hM1 := (inB_true hmo).1
    have hM2 := (inB_true hmo).2
    have hA' : (okRuns ss && decide (ms.length = ss.length + 1) && allIn ms 1 100) = true := by rw [hs, hm, decide_eq_true hl]; rfl
    rw [hA'] at hA
    obtain ⟨n1, n12, _⟩ := okRuns_of hs
    have hFound : Hid (∀ (P : Nat) (w' : World), 1 ≤ P → P ≤ M → goodP ss ms P = true → (∀ P', 1 ≤ P' → P' < P → goodP ss ms P' = false) → Below w.heap.size w w' → HoistPost ss ms M w (.returned (.tuple #[.int .i64 P, .bool true])) w') := Lib.hid fun P w' a b c d hb => hpost (hoist_found hq a b c d) hb
    have hNone : Hid (∀ (w' : World), (∀ P, 1 ≤ P → P ≤ M → goodP ss ms P = false) → Below w.heap.size w w' → HoistPost ss ms M w (.returned (.tuple #[.int .i64 0, .bool false])) w') := Lib.hid fun w' a hb => hpost (hoist_none a) hb
    have hSoak : Hid (∀ i, i < ss.length → ss[i]? = some (((ss.getD i 0).toNat : Nat) : Int) ∧ (ss.getD i 0).toNat ≤ 1000) := Lib.hid fun i hi => soak_in hs hi
    have hMov : Hid (∀ i, i < ms.length → ms[i]? = some ((mov ms i : Nat) : Int) ∧ mov ms i ≤ 100) := Lib.hid fun i hi => ⟨(mov_in hm hi).2.2, (mov_in hm hi).2.1⟩
    have hBnd : Hid (∀ i, i ≤ ss.length → bgn ss ms i ≤ 1100 * i) := Lib.hid (bgn_bound hs hm hl)
    have hStep : Hid (∀ i, bgn ss ms (i + 1) = bgn ss ms i + mov ms i + (ss.getD i 0).toNat) := Lib.hid fun i => rfl
    have hMono : Hid (∀ i k, k ≤ i → bgn ss ms k ≤ bgn ss ms i) := Lib.hid (bgn_mono ss ms)
    have hUnder := Lib.hid (fun P => under_of (P := P) n1)
    have hGood : Hid (∀ P, goodP ss ms P = (allUnder ss P && apartAll (bgn ss ms) (mov ms) P ms.length)) := Lib.hid fun P => rfl
    have hMx := Lib.hid (fun w' (hb : Below w.heap.size w w') => slicesMax_any B v1 ss w' (h1.below hb hB) n1)
    have hAp := Lib.hid (fun (w' : World) (v3 : Value) (P : Nat) (hb : Below w.heap.size w w') (h3 : LstI w'.heap.size w' v3 (fillI (bgnI ss ms) ms.length)) (p1 : 1 ≤ P) (p2 : P ≤ 10000) => movesApart_any w'.heap.size v3 v2 (fillI (bgnI ss ms) ms.length) ms (bgn ss ms) P ms.length w' h3 ((h2.below hb hB).mono (Nat.le_trans hB hb.size)) (fillI_length _ _) rfl p1 p2 (fun i hi => ⟨fillI_get _ hi, by have := bgn_bound hs hm hl i (by omega); omega⟩) (fun i hi => ⟨(mov_in hm hi).2.2, (mov_in hm hi).2.1⟩) (bgn_mono ss ms))
    have hZ1 : Hid (fillZ (bgnI ss ms) 1 ms.length = List.replicate ms.length 0) := Lib.hid (fillZ_one rfl (by omega))
    have hGet : Hid (∀ k, (fillZ (bgnI ss ms) (k + 1) ms.length).getD k 0 = ((bgn ss ms k : Nat) : Int)) := Lib.hid fun k => fillZ_get (bgnI ss ms) (Nat.lt_succ_self k)
    have hSet : Hid (∀ k, k + 1 < ms.length → (fillZ (bgnI ss ms) (k + 1) ms.length).set (k + 1) ((bgn ss ms (k + 1) : Nat) : Int) = fillZ (bgnI ss ms) (k + 2) ms.length) := Lib.hid fun k hk => fillZ_set (bgnI ss ms) hk
    have hLen : Hid (∀ k, k ≤ ms.length → (fillZ (bgnI ss ms) k ms.length).length = ms.length) := Lib.hid fun k hk => fillZ_length hk
    have hAll : Hid (fillZ (bgnI ss ms) ms.length ms.length = fillI (bgnI ss ms) ms.length) := Lib.hid (fillZ_all _ _)
    obtain ⟨a1, cap1, rfl, hl1, _, _, hc1⟩ := h1.at_
    obtain ⟨a2, cap2, rfl, hl2, _, _, hc2⟩ := h2.at_
    have hC1 := Lib.hid hc1
    have hC2 := Lib.hid hc2
    have hmx0 := maxTo_bound (ts := ss) (lo := 0) (hi := 1000) (fun i x hx => (okRuns_of hs).2.2 i x hx) (ss.length - 1) (by omega)
    obtain ⟨i0, hi, hz0, hz1, hz2⟩ := info_parts infoI
    generalize HoistPost ss ms M w = Q at *
    clear hc1 hc2 h1 h2 hs hm hA' hq
    rw [hl] at *
    generalize maxTo ss (ss.length - 1) = mx at *
    generalize ss.length = n at *
    unfold maxLen at hl1 hl2
    go_enter Try.func49, Try.ntmps49
    go_wp2_with (first | (go_at_call 86; (with_reducible refine (hA.out).mono ?_); rintro e w' ⟨rfl, rfl⟩) | (go_at_call 55; refine (isWithin_any _ _ _ _).mono ?_; rintro e w' ⟨rfl, rfl⟩) | (at_make; refine wpList_make_full _ rfl _ _ _ rfl w.heap.size _ i0 (.int .i64 0) 1 Try.underlying38 hi hz0 hz1 _ _ _ _ (n + 1) (by rfl) (by rfl) rfl rfl ?c1 ?c2 ?c3 ?_))
    case c1 => rw [hz2]; omega
    case c2 => unfold maxLen; omega
    case c3 => exact Nat.le_refl _
    intro w2 hown2 hg2
    have hB2 := Lib.hid ((Below.refl w.heap.size w).grown hg2 (Nat.le_refl _) (fun k hk => by cases hk))
    have hO2 := Lib.hid (zeros_row hown2)
    clear hown2 hg2 hz0 hz1 hz2 hi
    generalize hgg : w.heap.size = g at *
    have hGG := Lib.hid hgg
    clear hgg hmo
    go_wp2_with fail
    go_loopw [26] (fun ii wr => ∃ (k : Nat) (l : List Int), k ≤ n ∧ ii = .int .i64 k ∧ Hid (l = fillZ (bgnI ss ms) (k + 1) (n + 1)) ∧ Hid (wr.ownsRow g 2 1 (.slice (some ⟨g, 0, none⟩) (n + 1) (n + 1)) (n + 1) (l.map (Value.int .i64))) ∧ Hid (Below g w wr)) (fun ii _ => n - (intOf ii).toNat)
    case atStart => exact ⟨0, _, Nat.zero_le _, rfl, Lib.hid hZ1.out.symm, hO2, hB2⟩
    case round =>
      clear hB2 hO2
      obtain ⟨k, l, hk, rfl, hS, hO, hBb⟩ := hrel
      by_cases hlt : k < n
      · obtain ⟨b1, o1, x, rfl, hb1, hx, p0⟩ := hC1.out k hlt
        obtain ⟨hsk, hsk2⟩ := hSoak.out k hlt
        obtain rfl : x = (((ss.getD k 0).toNat : Nat) : Int) := by rw [hsk] at hx; exact (Option.some.inj hx).symm
        obtain ⟨b2, o2, y, rfl, hb2, hy, q0⟩ := hC2.out k (by omega)
        obtain ⟨hmk, hmk2⟩ := hMov.out k (by omega)
        obtain rfl : y = ((mov ms k : Nat) : Int) := by rw [hmk] at hy; exact (Option.some.inj hy).symm
        have hln := hLen.out (k + 1) (by omega)
        have hgt := hGet.out k
        have hst0 := hSet.out k (by omega)
        have hbd := hBnd.out k hk
        have hstp := hStep.out k
        rw [← hS.out] at hln hgt hst0
        rw [hstp] at hst0
        rw [← hBb.out.cell (p := ⟨b1, o1 + k, none⟩) (show b1 < g by have := hGG.out; omega)] at p0
        rw [← hBb.out.cell (p := ⟨b2, o2 + k, none⟩) (show b2 < g by have := hGG.out; omega)] at q0
        have hd : wr.cell? ⟨g, k, none⟩ = some (.int .i64 ((bgn ss ms k : Nat) : Int)) := by rw [row_cell hO.out (by omega), hgt]
        have hdn : wr.cell? ⟨g, k + 1, none⟩ = some (.int .i64 (l.getD (k + 1) 0)) := by rw [row_cell hO.out (by omega)]
        have hfr : wr.frozen? ⟨g, k + 1, none⟩ = false := hO.out.frozenAt (k + 1)
        generalize l.getD (k + 1) 0 = z0 at *
        generalize bgn ss ms k = bk at *
        generalize mov ms k = mk at *
        generalize (ss.getD k 0).toNat = sk at *
        have hw0 : IntKind.i64.wrap ((k : Int) + 1) = (k : Int) + 1 := IntWalk.i64_in _ (by omega)
        have hw1 : IntKind.i64.wrap ((bk : Int) + (mk : Int)) = (bk : Int) + (mk : Int) := IntWalk.i64_in _ (by omega)
        have hw2 : IntKind.i64.wrap ((bk : Int) + (mk : Int) + (sk : Int)) = (bk : Int) + (mk : Int) + (sk : Int) := IntWalk.i64_in _ (by omega)
        have hcast : ((bk + mk + sk : Nat) : Int) = (bk : Int) + (mk : Int) + (sk : Int) := by omega
        rw [hcast] at hst0
        have hS3 := Lib.hid hst0
        have hk1 : (k : Int) < (n : Int) + 1 := by omega
        have hk2 : (k : Int) + 1 < (n : Int) + 1 := by omega
        have hk3 : (0 : Int) ≤ (k : Int) + 1 := by omega
        have hk4 : ((k : Int) + 1).toNat = k + 1 := by omega
        have hk5 : k < n := hlt
        clear hx hy hsk hmk hgt hst0 hln hstp hcast
        go_wp2_with fail

        go_still_tail 15, (by kernel_rfl)
        change wpList _ _ _ _ _ wr.drew
        have hO3 := show wr.drew.ownsRow _ _ _ _ _ _ from hO.out.drew
        have hB3 := hBb.out.drew
        have hd2 : wr.drew.cell? ⟨g, k + 1, none⟩ = some (.int .i64 z0) := hdn
        have hfr2 : wr.drew.frozen? ⟨g, k + 1, none⟩ = false := hfr
        generalize wr.drew = w5 at *
        have hst := row_set hO3 (k + 1) ((bk : Int) + (mk : Int) + (sk : Int))
        have hO4 := Lib.hid hst.1
        have hB4 := Lib.hid (hB3.setCell (p := ⟨g, k + 1, none⟩) (Nat.le_refl _) (.int .i64 ((bk : Int) + (mk : Int) + (sk : Int))))
        clear hst hO3 hB3 hO hBb p0 q0 hd hfr hw1 hw2
        go_wp2_with fail
        go_roundw
        case rel => exact ⟨k + 1, _, by omega, by go_num, hS3, hO4, hB4⟩
        case measure => simp [intOf]; omega
      · obtain rfl : n = k := by omega
        have hS' : l = fillI (bgnI ss ms) (n + 1) := by rw [hS.out]; exact hAll.out
        have hL5 := row_lstI hO.out (by rw [hS.out]; exact hLen.out _ (Nat.le_refl _)) (by omega)
        rw [hS'] at hL5
        have hMxw := Lib.hid (hMx.out wr hBb.out)
        have hApw := Lib.hid (fun P => hAp.out wr _ P hBb.out hL5)
        clear hO hL5 hS hS' hMx hAp hZ1 hGet hSet hLen hAll
        obtain ⟨lo, rfl⟩ := Int.eq_ofNat_of_zero_le hmx0.1
        by_cases hmm : 1 < lo
        · have hd1 : decide ((1 : Int) < (lo : Int)) = true := decide_eq_true (by omega)
          have hd2 : (1 : Int) < (lo : Int) := by omega
          have hLow : ∀ P', 1 ≤ P' → P' < lo → goodP ss ms P' = false := fun P' _ hlt => by
            rw [hGood.out P', hUnder.out P', decide_eq_false (by omega), Bool.false_and]
          by_cases hlm : lo ≤ M + 1
          case neg =>
            have hR := Lib.hid (hNone.out _ (fun P' a b => hLow P' a (by omega)) hBb.out)
            have hcle : ¬ (lo : Int) ≤ (M : Int) := by omega
            go_wp2_with (go_at_call 87; (with_reducible refine (hMxw.out).mono ?_); rintro e w' ⟨rfl, rfl⟩)
            go_loopw [11] (fun pv wr' => pv = .int .i64 lo ∧ wr' = wr) (fun _ _ => 0)
            case atStart => exact ⟨rfl, rfl⟩
            case round =>
              obtain ⟨rfl, rfl⟩ := hrel
              go_wp2_with fail
              first | exact hR.out | (go_ret2; exact hR.out)
          go_wp2_with (go_at_call 87; (with_reducible refine (hMxw.out).mono ?_); rintro e w' ⟨rfl, rfl⟩)
          go_loopw [11] (fun pv wr' => ∃ P : Nat, lo ≤ P ∧ P ≤ M + 1 ∧ pv = .int .i64 P ∧ Hid (∀ P', 1 ≤ P' → P' < P → goodP ss ms P' = false) ∧ wr' = wr) (fun pv _ => M + 1 - (intOf pv).toNat)
          case atStart => exact ⟨lo, Nat.le_refl _, by omega, rfl, Lib.hid hLow, rfl⟩
          case round =>
            clear hLow
            obtain ⟨P, hP0, hP1, rfl, hBad, rfl⟩ := hrel
            by_cases hle : P ≤ M
            · have hApP := Lib.hid (hApw.out P (by omega) (by omega))
              have hU : allUnder ss P = true := by rw [hUnder.out P]; exact decide_eq_true (by omega)
              have hG : goodP ss ms P = apartAll (bgn ss ms) (mov ms) P (n + 1) := by rw [hGood.out P, hU, Bool.true_and]
              have hcle : (P : Int) ≤ (M : Int) := by omega
              cases hq : apartAll (bgn ss ms) (mov ms) P (n + 1)
              · rw [hq] at hApP hG
                have hBad2 : Hid (∀ P', 1 ≤ P' → P' < P + 1 → goodP ss ms P' = false) := Lib.hid fun P' a b => by
                  by_cases e : P' = P
                  · subst e; exact hG
                  · exact hBad.out P' a (by omega)
                have hw5 : IntKind.i64.wrap ((P : Int) + 1) = (P : Int) + 1 := IntWalk.i64_in _ (by omega)
                clear hq hG hU
                go_wp2_with (go_at_call 88; (with_reducible refine (hApP.out).mono ?_); rintro e w' ⟨rfl, rfl⟩)
                go_roundw
                case rel => exact ⟨P + 1, by omega, by omega, by go_num, hBad2, by trivial⟩
                case measure => simp [intOf]; omega
              · rw [hq] at hApP hG
                have hR := Lib.hid (hFound.out P _ (by omega) hle hG hBad.out hBb.out)
                clear hq hG hU
                go_wp2_with (go_at_call 88; (with_reducible refine (hApP.out).mono ?_); rintro e w' ⟨rfl, rfl⟩)
                first | exact hR.out | (go_ret2; exact hR.out)
            · have hR := Lib.hid (hNone.out _ (fun P' a b => hBad.out P' a (by omega)) hBb.out)
              have hcle : ¬ (P : Int) ≤ (M : Int) := by omega
              go_wp2_with fail
              first | exact hR.out | (go_ret2; exact hR.out)
        · have hd1 : decide ((1 : Int) < (lo : Int)) = false := decide_eq_false (by omega)
          have hd2 : ¬ (1 : Int) < (lo : Int) := by omega
          have hLow : ∀ P', 1 ≤ P' → P' < 1 → goodP ss ms P' = false := fun P' a b => by omega
          go_wp2_with (go_at_call 87; (with_reducible refine (hMxw.out).mono ?_); rintro e w' ⟨rfl, rfl⟩)
          go_loopw [11] (fun pv wr' => ∃ P : Nat, 1 ≤ P ∧ P ≤ M + 1 ∧ pv = .int .i64 P ∧ Hid (∀ P', 1 ≤ P' → P' < P → goodP ss ms P' = false) ∧ wr' = wr) (fun pv _ => M + 1 - (intOf pv).toNat)
          case atStart => exact ⟨1, Nat.le_refl _, by omega, rfl, Lib.hid hLow, rfl⟩
          case round =>
            clear hLow
            obtain ⟨P, hP0, hP1, rfl, hBad, rfl⟩ := hrel
            by_cases hle : P ≤ M
            · have hApP := Lib.hid (hApw.out P (by omega) (by omega))
              have hU : allUnder ss P = true := by rw [hUnder.out P]; exact decide_eq_true (by omega)
              have hG : goodP ss ms P = apartAll (bgn ss ms) (mov ms) P (n + 1) := by rw [hGood.out P, hU, Bool.true_and]
              have hcle : (P : Int) ≤ (M : Int) := by omega
              cases hq : apartAll (bgn ss ms) (mov ms) P (n + 1)
              · rw [hq] at hApP hG
                have hBad2 : Hid (∀ P', 1 ≤ P' → P' < P + 1 → goodP ss ms P' = false) := Lib.hid fun P' a b => by
                  by_cases e : P' = P
                  · subst e; exact hG
                  · exact hBad.out P' a (by omega)
                have hw5 : IntKind.i64.wrap ((P : Int) + 1) = (P : Int) + 1 := IntWalk.i64_in _ (by omega)
                clear hq hG hU
                go_wp2_with (go_at_call 88; (with_reducible refine (hApP.out).mono ?_); rintro e w' ⟨rfl, rfl⟩)
                go_roundw
                case rel => exact ⟨P + 1, by omega, by omega, by go_num, hBad2, by trivial⟩
                case measure => simp [intOf]; omega
              · rw [hq] at hApP hG
                have hR := Lib.hid (hFound.out P _ (by omega) hle hG hBad.out hBb.out)
                clear hq hG hU
                go_wp2_with (go_at_call 88; (with_reducible refine (hApP.out).mono ?_); rintro e w' ⟨rfl, rfl⟩)
                first | exact hR.out | (go_ret2; exact hR.out)
            · have hR := Lib.hid (hNone.out _ (fun P' a b => hBad.out P' a (by omega)) hBb.out)
              have hcle : ¬ (P : Int) ≤ (M : Int) := by omega
              go_wp2_with fail
              first | exact hR.out | (go_ret2; exact hR.out)
end Go.Proofs.Ythliapjnfcahlaa
