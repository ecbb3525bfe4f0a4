/- Contracts: the most talks at once, and when; the program's and the model's, alike. -/
import Derived.Test.YtehobcmjjcmfnaaPlacesT
import Derived.Test.YtehobcmjjcmfnaaMostPure
import Derived.Test.YtehobcmjjcmfnaaTalksSpec
import Derived.Deep.RegionHeld3
namespace Go.Proofs.Ytehobcmjjcmfnaa
open Go.RowKit Go.Lst Srt Go.Shelf Most

theorem talks_of {xs : List Int} (h : talksOk xs = true) : 2 ≤ xs.length ∧ xs.length ≤ 64 ∧ xs.length % 2 = 0 ∧ (∀ i, i < xs.length → 0 ≤ xs.getD i 0 ∧ xs.getD i 0 ≤ 10000) ∧ ∀ k, 2 * k + 1 < xs.length → xs.getD (2 * k) 0 < xs.getD (2 * k + 1) 0 := by
  unfold talksOk at h
  simp only [Bool.and_eq_true, decide_eq_true_eq] at h
  obtain ⟨⟨⟨⟨q1, q2⟩, q3⟩, q4⟩, q5⟩ := h
  refine ⟨q1, q2, q3, fun i hi => ?_, fun k hk => ?_⟩
  · have e : xs[i]? = some xs[i] := List.getElem?_eq_getElem _
    rw [getD_of e]
    exact allIn_of q4 e
  · unfold risePairs pairsL pairsTo at q5
    rw [List.all_eq_true] at q5
    have := q5 (pairAt xs k) (List.mem_map.2 ⟨k, List.mem_range.2 (by omega), rfl⟩)
    exact of_decide_eq_true this
def beginK (xs : List Int) (x : Int) : Int := xs.getD (2 * x.toNat) 0
set_option maxHeartbeats 1000000 in
theorem compareBegins_any (a0 a1 b0 b1 : Int) (w : World) : Calls Try.prog 52 #[.agg #[.int .i64 a0, .int .i64 a1], .agg #[.int .i64 b0, .int .i64 b1]] w fun e w' => e = .returned (.int .i64 (cmpV a0 b0)) ∧ Below w.heap.size w w' := by
  have hC := Lib.hid (fun w' => compareI_any a0 b0 w')
  have hB := Lib.hid (below_alloc (below_alloc (Below.refl w.heap.size w) (.cells #[.int .i64 a0, .int .i64 a1] 71)) (.cells #[.int .i64 b0, .int .i64 b1] 71))
  generalize cmpV a0 b0 = z at *
  go_enter Try.func52, Try.ntmps52
  go_wp2_with (go_at_call 35; (with_reducible refine (hC.out _).mono ?_); rintro e w' ⟨rfl, rfl⟩)
  go_ret
  exact ⟨rfl, hB.out⟩
set_option maxHeartbeats 1000000 in
theorem talkMeets_any (a0 a1 b0 b1 : Int) (w : World) : Calls Try.prog 53 #[.agg #[.int .i64 a0, .int .i64 a1], .agg #[.int .i64 b0, .int .i64 b1]] w fun e w' => e = .returned (.bool (decide (a0 < b1) && decide (b0 < a1))) ∧ Below w.heap.size w w' := by
  have hB := Lib.hid (below_alloc (below_alloc (Below.refl w.heap.size w) (.cells #[.int .i64 a0, .int .i64 a1] 71)) (.cells #[.int .i64 b0, .int .i64 b1] 71))
  by_cases h1 : a0 < b1
  · have d1 : decide (a0 < b1) = true := decide_eq_true h1
    rw [d1, Bool.true_and]
    go_enter Try.func53, Try.ntmps53
    go_wp2_with fail
    go_ret
    exact ⟨rfl, hB.out⟩
  · have d1 : decide (a0 < b1) = false := decide_eq_false h1
    rw [d1, Bool.false_and]
    go_enter Try.func53, Try.ntmps53
    go_wp2_with fail
    go_ret
    exact ⟨rfl, hB.out⟩
set_option maxHeartbeats 8000000 in
set_option maxRecDepth 100000 in
theorem implMostAtOnce_any (B : Nat) (v : Value) (xs : List Int) (w : World) (h : LstI B w v xs) (hB : B ≤ w.heap.size) :
    Calls Try.prog 24 #[v] w fun e w' => e = .returned (if talksOk xs then .tuple #[.int .i64 ((foundTo xs (xs.length / 2) (xs.length / 2)).1 : Int), .int .i64 (foundTo xs (xs.length / 2) (xs.length / 2)).2, .bool true] else .tuple #[.int .i64 0, .int .i64 0, .bool false]) ∧ Below w.heap.size w w' := by
  have hT := Lib.hid (talksOf_any B v xs w h hB)
  obtain ⟨a, cap, rfl, hl, hcap, hcm, _⟩ := h.at_
  clear h
  cases hq : talksOk xs
  · rw [hq] at hT
    rw [if_neg (by simp)]
    clear hq
    generalize xs.length = n at *
    go_enter Try.func24, Try.ntmps24
    go_wp2_with fail
    refine hT.out.mono ?_
    rintro e w1 ⟨hx, hb⟩
    rcases hx with ⟨_, rfl⟩ | ⟨h0, _⟩
    · have hB1 := Lib.hid hb
      clear hb hT
      go_wp2_with fail
      go_ret3
      exact ⟨rfl, hB1.out⟩
    · cases h0
  · rw [if_pos rfl]
    obtain ⟨q1, q2, q3, q4, q5⟩ := talks_of hq
    rw [hq] at hT
    clear hq
    obtain ⟨n, hn⟩ : ∃ n, n = xs.length / 2 := ⟨_, rfl⟩
    rw [← hn] at hT ⊢
    have hEnds : Hid (∀ k, k < n → 0 ≤ xs.getD (2 * k) 0 ∧ xs.getD (2 * k) 0 ≤ 10000 ∧ xs.getD (2 * k) 0 < xs.getD (2 * k + 1) 0 ∧ xs.getD (2 * k + 1) 0 ≤ 10000) := Lib.hid fun k hk => ⟨(q4 _ (by omega)).1, (q4 _ (by omega)).2, q5 k (by omega), (q4 _ (by omega)).2⟩
    have hFin : Hid (∀ (f : Nat → Int) (M : Nat) (T : Int), Srt.Done (ltK (beginK xs)) n f → Most.Found (fun i => xs.getD (2 * i) 0) (fun i => cntTo xs (xs.getD (2 * i) 0) n) (fun j => ∃ l, l < n ∧ f l = (j : Int)) n M T → M = (foundTo xs n n).1 ∧ T = (foundTo xs n n).2) := Lib.hid fun f M T hd hf => by
      have hm := foundTo_is xs n (fun k hk => q5 k (by omega)) n (Nat.le_refl _)
      rcases hf with ⟨e, _⟩ | ⟨_, hf⟩
      · omega
      rcases hm with ⟨e, _⟩ | ⟨_, hm⟩
      · omega
      exact (hf.congr (fun j => ⟨fun ⟨l, hl, e⟩ => by have := hd.1.low l hl; omega, fun hj => hd.1.all j hj⟩)).one hm
    have hNx : Hid (∀ (f : Nat → Int) (k p M : Nat) (T : Int), Srt.Done (ltK (beginK xs)) n f → k < n → f k = (p : Int) → Most.Found (fun i => xs.getD (2 * i) 0) (fun i => cntTo xs (xs.getD (2 * i) 0) n) (fun j => ∃ l, l < k ∧ f l = (j : Int)) k M T →
        Most.Found (fun i => xs.getD (2 * i) 0) (fun i => cntTo xs (xs.getD (2 * i) 0) n) (fun j => ∃ l, l < k + 1 ∧ f l = (j : Int)) (k + 1) (if M < cntTo xs (xs.getD (2 * p) 0) n then cntTo xs (xs.getD (2 * p) 0) n else M) (if M < cntTo xs (xs.getD (2 * p) 0) n then xs.getD (2 * p) 0 else T)) := Lib.hid fun f k p M T hd hk hfk hf => by
      have hpn : p < n := by have := hd.1.low k hk; omega
      have h1 := found_next (i := p) hf (cntTo_pos xs _ p (Int.le_refl _) (q5 p (by omega)) n hpn) (fun e j ⟨l, hl, _⟩ => by omega) (fun j ⟨l, hl, e⟩ => by
        have h2 := hd.2 l k (Nat.zero_le _) hl hk
        rw [e, hfk] at h2
        unfold ltK beginK at h2
        rw [Int.toNat_natCast, Int.toNat_natCast] at h2
        simp only [Bool.or_eq_true, Bool.and_eq_true, decide_eq_true_eq] at h2
        show xs.getD (2 * j) 0 ≤ xs.getD (2 * p) 0
        omega)
      rcases h1 with ⟨e, _⟩ | ⟨e, h1⟩
      · omega
      · refine .inr ⟨e, h1.congr fun j => ⟨fun hj => ?_, fun ⟨l, hl, e⟩ => ?_⟩⟩
        · rcases hj with ⟨l, hl, e⟩ | rfl
          · exact ⟨l, by omega, e⟩
          · exact ⟨k, by omega, hfk⟩
        · by_cases c : l = k
          · subst c; right; omega
          · exact .inl ⟨l, by omega, e⟩
    have hCl := Lib.hid (cntTo_le xs)
    have hPl : Hid (∀ w1 v', Below w.heap.size w w1 → w1.ownsRow w.heap.size 71 2 v' n (xs.map (Value.int .i64)) → ∃ g c, v' = .slice (some ⟨g, 0, none⟩) n c ∧ g < w1.heap.size ∧ n ≤ c ∧ c ≤ maxLen ∧ (∀ k j, k < n → j < 2 → w1.cell? ⟨g, k * 2 + j, none⟩ = some (.int .i64 (xs.getD (2 * k + j) 0))) ∧
        Calls Try.prog 51 #[v', .func (.func 52) #[] #[]] w1 fun e w' => ∃ g f, e = .returned (.slice (some ⟨g, 0, none⟩) n n) ∧ w1.heap.size ≤ g ∧ w'.ownsRow w1.heap.size 2 1 (.slice (some ⟨g, 0, none⟩) n n) n (cellsF n f) ∧ Srt.Done (ltK (beginK xs)) n f ∧ Below w1.heap.size w1 w') := Lib.hid fun w1 v' hb ho => by
      have hlt := ho.lt
      rcases ho.2 with ⟨_, h0⟩ | ⟨g, c, cur, rfl, hA, hg, hc1, hc2, _⟩
      · omega
      have hcell : ∀ k j, k < n → j < 2 → w1.cell? ⟨g, k * 2 + j, none⟩ = some (.int .i64 (xs.getD (2 * k + j) 0)) := fun k j hk hj => by
        rw [ho.cellAt (k * 2 + j) (by omega), List.getElem?_map, show k * 2 + j = 2 * k + j by omega, List.getElem?_eq_getElem (show 2 * k + j < xs.length by omega)]
        rw [List.getD_eq_getElem?_getD, List.getElem?_eq_getElem (show 2 * k + j < xs.length by omega)]; rfl
      refine ⟨g, c, rfl, (hlt g rfl).2, by omega, hc2, hcell, ?_⟩
      exact placesT_any 52 g 0 c n (fun k j => xs.getD (2 * k + j) 0) (fun x y => cmpV (xs.getD (2 * x) 0) (xs.getD (2 * y) 0)) (ltK (beginK xs)) w1 (hlt g rfl).2 (fun k j hk hj => by rw [Nat.zero_add]; exact hcell k j hk hj) (by omega) hc2 (by omega) (by omega) (totK _ _)
        (enters_of Try.func52 (by kernel_rfl) rfl) (fun x y _ _ w' => compareBegins_any _ _ _ _ w')
        (fun x y hxy hy => by
          rw [cmpV_neg, ltK_later _ (by omega)]
          unfold beginK
          rw [Int.toNat_natCast, Int.toNat_natCast])
    have n32 : n ≤ 32 := by omega
    have n1 : 1 ≤ n := by omega
    clear q1 q3 q4 q5
    generalize ltK (beginK xs) = lt at *
    generalize hM : (foundTo xs n n).1 = RM at *
    generalize hT2 : (foundTo xs n n).2 = RT at *
    clear hM hT2 hn
    go_enter Try.func24, Try.ntmps24
    go_wp2_with fail
    refine hT.out.mono ?_
    rintro e w1 ⟨hx, hb⟩
    rcases hx with ⟨h0, _⟩ | ⟨_, v', rfl, ho⟩
    · cases h0
    obtain ⟨g, c, rfl, hg, hc1, hc2, hcl, hcall⟩ := hPl.out w1 v' hb ho
    have hB1 := Lib.hid hb
    have hCells := Lib.hid hcl
    have hCall := Lib.hid hcall
    have hGg := Lib.hid hg
    unfold maxLen at hc2
    clear hb ho hcl hcall hT hPl hg
    go_wp2_with (go_at_call 51; (with_reducible refine hCall.out.mono ?_); rintro e w2 ⟨g2, f, rfl, hg2, ho2, hd2, hb2⟩; have hO2 := Lib.hid ho2; have hD2 := Lib.hid hd2; have hBb := Lib.hid hb2; have hG2 := Lib.hid hg2; clear ho2 hd2 hb2 hg2)
    have hB2 := Lib.hid (below_on hB1.out (Nat.le_refl _) hBb.out)
    have hG2s := Lib.hid (hO2.out.lt g2 rfl).2
    -- what a world that is as w2 was below its size holds
    have hPc : Hid (∀ W k, Below w2.heap.size w2 W → k < n → W.cell? ⟨g2, k, none⟩ = some (.int .i64 (f k))) := Lib.hid fun W k hW hk => by
      rw [hW.cell (p := ⟨g2, k, none⟩) (show g2 < w2.heap.size from hG2s.out), hO2.out.cellAt k (by omega)]
      exact cellsF_at f hk
    have hTc : Hid (∀ W k j, Below w2.heap.size w2 W → k < n → j < 2 → W.cell? ⟨g, k * 2 + j, none⟩ = some (.int .i64 (xs.getD (2 * k + j) 0))) := Lib.hid fun W k j hW hk hj => by
      rw [hW.cell (p := ⟨g, k * 2 + j, none⟩) (show g < w2.heap.size by have := hGg.out; have := hBb.out.size; omega), hBb.out.cell (p := ⟨g, k * 2 + j, none⟩) (show g < w1.heap.size from hGg.out)]
      exact hCells.out k j hk hj
    have hFl : Hid (∀ k, k < n → ∃ p : Nat, p < n ∧ f k = (p : Int)) := Lib.hid fun k hk => by
      have := hD2.out.1.low k hk
      exact ⟨(f k).toNat, by omega, by omega⟩
    go_loopw [7, 8, 25] (fun mv tv iv wr => ∃ (k M : Nat) (T : Int), k ≤ n ∧ M ≤ 1024 ∧ iv = .int .i64 k ∧ mv = .int .i64 (M : Int) ∧ tv = .int .i64 T ∧ Hid (Most.Found (fun i => xs.getD (2 * i) 0) (fun i => cntTo xs (xs.getD (2 * i) 0) n) (fun j => ∃ l, l < k ∧ f l = (j : Int)) k M T) ∧ Hid (Below w2.heap.size w2 wr)) (fun _ _ iv _ => n - (intOf iv).toNat)
    case atStart => exact ⟨0, 0, 0, Nat.zero_le _, by omega, rfl, rfl, rfl, Lib.hid (.inl ⟨rfl, rfl, rfl⟩), Lib.hid (Below.refl _ _)⟩
    case round =>
      obtain ⟨k, M, T, hk, hM1, rfl, rfl, rfl, hF, hBw⟩ := hrel
      by_cases hlt : k < n
      · obtain ⟨p, hp, hfp⟩ := hFl.out k hlt
        have c0 := hPc.out wr k hBw.out hlt
        rw [hfp] at c0
        obtain ⟨e1, e2, e3, e4⟩ := hEnds.out p hp
        have hN := Lib.hid (hNx.out f k p M T hD2.out hlt hfp hF.out)
        have hS0 : Hid (∀ w', Below wr.heap.size wr w' → w'.cell? ⟨g, p * 2, none⟩ = some (.int .i64 (xs.getD (2 * p) 0)) ∧ Below wr.heap.size wr w') := Lib.hid fun w' hb => ⟨by
          have := hTc.out w' p 0 (below_on hBw.out (Nat.le_refl _) hb) hp (by omega)
          rwa [Nat.add_zero, Nat.add_zero] at this, hb⟩
        have hR0 := Below.refl wr.heap.size wr
        obtain ⟨c1, -⟩ := hS0.out wr hR0
        have hTj : Hid (∀ wj j, Below w2.heap.size w2 wj → j < n → wj.cell? ⟨g, j * 2, none⟩ = some (.int .i64 (xs.getD (2 * j) 0)) ∧ wj.cell? ⟨g, j * 2 + 1, none⟩ = some (.int .i64 (xs.getD (2 * j + 1) 0))) := Lib.hid fun wj j hb hj => by
          have h0 := hTc.out wj j 0 hb hj (by omega)
          have h1 := hTc.out wj j 1 hb hj (by omega)
          rw [Nat.add_zero, Nat.add_zero] at h0
          exact ⟨h0, h1⟩
        have hC1 := Lib.hid (fun j => hCl.out (xs.getD (2 * p) 0) j)
        have hCS : Hid (∀ j, cntTo xs (xs.getD (2 * p) 0) (j + 1) = cntTo xs (xs.getD (2 * p) 0) j + (if decide (xs.getD (2 * p) 0 < xs.getD (2 * j + 1) 0) && decide (xs.getD (2 * j) 0 < xs.getD (2 * p) 0 + 1) then 1 else 0)) := Lib.hid fun j => by
          show _ + (if decide (xs.getD (2 * j) 0 ≤ xs.getD (2 * p) 0) && decide (xs.getD (2 * p) 0 < xs.getD (2 * j + 1) 0) then 1 else 0) = _
          rw [Bool.and_comm, show decide (xs.getD (2 * j) 0 ≤ xs.getD (2 * p) 0) = decide (xs.getD (2 * j) 0 < xs.getD (2 * p) 0 + 1) from by congr 1; exact propext ⟨fun h => by omega, fun h => by omega⟩]
        have hC0 : Hid (cntTo xs (xs.getD (2 * p) 0) 0 = 0) := Lib.hid rfl
        clear hfp
        generalize cntTo xs (xs.getD (2 * p) 0) = C at *
        generalize xs.getD (2 * p) 0 = t at *
        have hd : (k : Int) < (n : Int) := by omega
        have l1 : (p : Int) < (n : Int) := by omega
        have hwt : IntKind.i64.wrap (t + 1) = t + 1 := IntWalk.i64_in _ (by omega)
        go_wp2_with fail
        go_region_held3 (fun w' => w'.cell? ⟨g, p * 2, none⟩ = some (.int .i64 t) ∧ Below wr.heap.size wr w') ((first | exact hS0.out _ hR0 | exact hS0.out _ hR0.drew | exact hS0.out _ (below_alloc hR0 _) | exact hS0.out _ (below_alloc hR0 _).drew | exact hS0.out _ (below_alloc hR0.drew _))) (fail)
        have Y3 := Lib.hid (show Whole (wr.alloc (.cells #[.int .i64 t, .int .i64 (t + 1)] 71)).drew wr.heap.size 71 #[.int .i64 t, .int .i64 (t + 1)] from (Whole.made wr 71 #[.int .i64 t, .int .i64 (t + 1)] rfl).draws 1)
        have B3 := Lib.hid (show Below w2.heap.size w2 (wr.alloc (.cells #[.int .i64 t, .int .i64 (t + 1)] 71)).drew from (hBw.out.alloc hBw.out.size _).drew)
        generalize World.drew _ = w3 at *
        generalize wr.heap.size = gm at *
        clear hS0 hR0 c0 c1 hBw hF
        generalize wr = wo at *
        go_wp2_with fail
        go_loopw [12, 43] (fun cv jv wr => ∃ j : Nat, j ≤ n ∧ jv = .int .i64 j ∧ cv = .int .i64 (C j : Nat) ∧ Hid (Below w3.heap.size w3 wr)) (fun _ jv _ => n - (intOf jv).toNat)
        case atStart => exact ⟨0, Nat.zero_le _, rfl, by rw [hC0.out]; rfl, Lib.hid (Below.refl _ _)⟩
        case round =>
          obtain ⟨j, hj, rfl, rfl, hBj⟩ := hrel
          have cj := hC1.out j
          by_cases hlj : j < n
          · have B4 := Lib.hid (below_on B3.out (Nat.le_refl _) hBj.out)
            obtain ⟨t0, t1⟩ := hTj.out wr j B4.out hlj
            have Sj := Lib.hid (hCS.out j)
            have hMt := Lib.hid (fun w' => talkMeets_any t (t + 1) (xs.getD (2 * j) 0) (xs.getD (2 * j + 1) 0) w')
            generalize (decide (t < xs.getD (2 * j + 1) 0) && decide (xs.getD (2 * j) 0 < t + 1)) = q at *
            generalize xs.getD (2 * j) 0 = b0 at *
            generalize xs.getD (2 * j + 1) 0 = b1 at *
            have Y4 := (Y3.out.kept hBj.out).more (.cells #[.int .i64 b0, .int .i64 b1] 71)
            have y0 : (wr.alloc (.cells #[.int .i64 b0, .int .i64 b1] 71)).cell? ⟨gm, 0, none⟩ = some (.int .i64 t) := Y4.at_ (i := 0) rfl
            have y1 : (wr.alloc (.cells #[.int .i64 b0, .int .i64 b1] 71)).cell? ⟨gm, 1, none⟩ = some (.int .i64 (t + 1)) := Y4.at_ (i := 1) rfl
            have z0 := (Whole.made wr 71 #[.int .i64 b0, .int .i64 b1] rfl).at_ (i := 0) rfl
            have z1 := (Whole.made wr 71 #[.int .i64 b0, .int .i64 b1] rfl).at_ (i := 1) rfl
            clear Y4
            have hdj : (j : Int) < (n : Int) := by omega
            have B5 := Lib.hid (hBj.out.alloc hBj.out.size (.cells #[.int .i64 b0, .int .i64 b1] 71))
            generalize hcj : C j = cn at *
            cases q
            · have Sq := Lib.hid (show C (j + 1) = cn from Sj.out)
              go_wp2_with (go_at_call 53; (with_reducible refine (hMt.out _).mono ?_); rintro e w' ⟨rfl, hb⟩; have B6 := Lib.hid (below_on B5.out (Nat.le_refl _) hb); clear hb)
              go_roundw
              case rel => exact ⟨j + 1, by omega, by go_num, by rw [Sq.out], B6⟩
              case measure => simp [intOf]; omega
            · have Sq := Lib.hid (show C (j + 1) = cn + 1 from Sj.out)
              go_wp2_with (go_at_call 53; (with_reducible refine (hMt.out _).mono ?_); rintro e w' ⟨rfl, hb⟩; have B6 := Lib.hid (below_on B5.out (Nat.le_refl _) hb); clear hb)
              go_roundw
              case rel => exact ⟨j + 1, by omega, by go_num, by rw [Sq.out]; go_num, B6⟩
              case measure => simp [intOf]; omega
          · obtain rfl : j = n := by omega
            have B4 := Lib.hid (below_on B3.out (Nat.le_refl _) hBj.out)
            have y0 : wr.cell? ⟨gm, 0, none⟩ = some (.int .i64 t) := (Y3.out.kept hBj.out).at_ (i := 0) rfl
            generalize C j = cn at *
            by_cases hgt : M < cn
            · rw [if_pos hgt, if_pos hgt] at hN
              have dg : decide ((M : Int) < (cn : Int)) = true := decide_eq_true (by omega)
              go_wp2_with fail
              go_quiet (fail)
              go_wp2_with fail
              go_roundw
              case rel => exact ⟨k + 1, cn, t, by omega, by omega, by go_num, rfl, rfl, hN, Lib.hid (below_drewN B4.out _)⟩
              case measure => simp [intOf]; omega
            · rw [if_neg hgt, if_neg hgt] at hN
              have dg : decide ((M : Int) < (cn : Int)) = false := decide_eq_false (by omega)
              go_wp2_with fail
              go_roundw
              case rel => exact ⟨k + 1, M, T, by omega, by omega, by go_num, rfl, rfl, hN, B4⟩
              case measure => simp [intOf]; omega
      · obtain rfl : k = n := by omega
        obtain ⟨rfl, rfl⟩ := hFin.out f M T hD2.out hF.out
        have B4 := Lib.hid (below_on hB2.out (Nat.le_refl _) hBw.out)
        go_wp2_with fail
        go_ret3
        exact ⟨rfl, B4.out⟩
set_option maxHeartbeats 8000000 in
set_option maxRecDepth 100000 in
theorem specMostAtOnce_any (B : Nat) (v : Value) (xs : List Int) (w : World) (h : LstI B w v xs) (hB : B ≤ w.heap.size) :
    Calls Try.prog 23 #[v] w fun e w' => e = .returned (if talksOk xs then .tuple #[.int .i64 ((foundTo xs (xs.length / 2) (xs.length / 2)).1 : Int), .int .i64 (foundTo xs (xs.length / 2) (xs.length / 2)).2, .bool true] else .tuple #[.int .i64 0, .int .i64 0, .bool false]) ∧ Below w.heap.size w w' := by
  have hT := Lib.hid (l07Talks_any B v xs w h)
  obtain ⟨a, cap, rfl, hl, hcap, hcm, hc⟩ := h.at_
  clear h
  cases hq : talksOk xs
  · rw [hq] at hT
    rw [if_neg (by simp)]
    clear hq hc
    generalize xs.length = n at *
    go_enter Try.func23, Try.ntmps23
    go_wp2_with (go_at_call 49; (with_reducible refine hT.out.mono ?_); rintro e w' ⟨m, rfl, rfl⟩)
    go_ret3
    exact ⟨rfl, below_drewN (Below.refl _ _) _⟩
  · rw [if_pos rfl]
    obtain ⟨q1, q2, q3, q4, q5⟩ := talks_of hq
    rw [hq] at hT
    clear hq
    obtain ⟨n, hn⟩ : ∃ n, n = xs.length / 2 := ⟨_, rfl⟩
    rw [← hn]
    have hlen : xs.length = 2 * n := by omega
    obtain ⟨b, o, x0, rfl, hb, -⟩ := hc 0 (by omega)
    have hCells : Hid (∀ d k, k < n → (w.drewN d).cell? ⟨b, o + 2 * k, none⟩ = some (.int .i64 (xs.getD (2 * k) 0)) ∧ (w.drewN d).cell? ⟨b, o + (2 * k + 1), none⟩ = some (.int .i64 (xs.getD (2 * k + 1) 0))) := Lib.hid fun d k hk => by
      obtain ⟨b', o', x, he, _, hx, c⟩ := hc (2 * k) (by omega)
      injection he with he
      injection he with e1 e2 _
      subst e1 e2
      obtain ⟨b', o', y, he, _, hy, c'⟩ := hc (2 * k + 1) (by omega)
      injection he with he
      injection he with e1 e2 _
      subst e1 e2
      rw [getD_of hx, getD_of hy, World.cell?_drewN, World.cell?_drewN]
      exact ⟨c, c'⟩
    have hCl := Lib.hid (cntTo_le xs)
    have hSt : Hid (∀ k, foundTo xs n (k + 1) = if (foundTo xs n k).1 < cntTo xs (xs.getD (2 * k) 0) n ∨ (cntTo xs (xs.getD (2 * k) 0) n = (foundTo xs n k).1 ∧ xs.getD (2 * k) 0 < (foundTo xs n k).2) then (cntTo xs (xs.getD (2 * k) 0) n, xs.getD (2 * k) 0) else foundTo xs n k) := Lib.hid fun k => rfl
    have hZ : Hid (foundTo xs n 0 = (0, 0)) := Lib.hid rfl
    have hBd : Hid (∀ k, (foundTo xs n k).1 ≤ 1024) := Lib.hid fun k => by
      induction k with
      | zero => exact Nat.zero_le _
      | succ k ih =>
        unfold foundTo
        simp only
        have := cntTo_le xs (xs.getD (2 * k) 0) n
        split
        · show cntTo xs _ n ≤ 1024; omega
        · exact ih
    have n32 : n ≤ 32 := by omega
    have n1 : 1 ≤ n := by omega
    generalize hm : xs.length = m at *
    have hM := Lib.hid hlen
    clear q1 q2 q3 q4 q5 hc hn hm hb hlen
    have m64 : m ≤ 64 := by have := hM.out; omega
    unfold maxLen at hl hcm
    generalize foundTo xs n = F at *
    go_enter Try.func23, Try.ntmps23
    go_wp2_with (go_at_call 49; (with_reducible refine hT.out.mono ?_); rintro e w' ⟨d0, rfl, rfl⟩)
    go_loopw [5, 6, 7] (fun mv tv iv wr => ∃ (k s d : Nat), k ≤ n ∧ iv = .int .i64 (s : Int) ∧ Hid (s = 2 * k) ∧ mv = .int .i64 ((F k).1 : Nat) ∧ tv = .int .i64 (F k).2 ∧ wr = w.drewN d) (fun _ _ iv _ => m - (intOf iv).toNat)
    case atStart => exact ⟨0, 0, d0, Nat.zero_le _, rfl, Lib.hid rfl, by rw [hZ.out]; rfl, by rw [hZ.out], rfl⟩
    case round =>
      obtain ⟨k, s, d, hk, rfl, hS, rfl, rfl, rfl⟩ := hrel
      by_cases hlt : k < n
      · have hds : (s : Int) < (m : Int) := by have := hS.out; have := hM.out; omega
        obtain ⟨c0, -⟩ := hCells.out d k hlt
        have hC1 := Lib.hid (fun j => hCl.out (xs.getD (2 * k) 0) j)
        have hCS : Hid (∀ j, cntTo xs (xs.getD (2 * k) 0) (j + 1) = cntTo xs (xs.getD (2 * k) 0) j + (if decide (xs.getD (2 * j) 0 ≤ xs.getD (2 * k) 0) && decide (xs.getD (2 * k) 0 < xs.getD (2 * j + 1) 0) then 1 else 0)) := Lib.hid fun j => rfl
        have hC0 : Hid (cntTo xs (xs.getD (2 * k) 0) 0 = 0) := Lib.hid rfl
        have hStk := Lib.hid (hSt.out k)
        have hFb := hBd.out k
        generalize cntTo xs (xs.getD (2 * k) 0) = C at *
        generalize xs.getD (2 * k) 0 = t at *
        rw [← hS.out] at c0
        have hKk := Lib.hid hlt
        generalize hF1 : F k = Fk at *
        have hFk := Lib.hid hF1
        obtain ⟨M, T⟩ := Fk
        simp only at hFb ⊢
        clear hF1
        go_wp2_with fail
        go_loopw [9, 10] (fun cv jv wj => ∃ (j q d' : Nat), j ≤ n ∧ jv = .int .i64 (q : Int) ∧ Hid (q = 2 * j) ∧ cv = .int .i64 (C j : Nat) ∧ wj = w.drewN d') (fun _ jv _ => m - (intOf jv).toNat)
        case atStart => exact ⟨0, 0, d, Nat.zero_le _, rfl, Lib.hid rfl, by rw [hC0.out]; rfl, rfl⟩
        case round =>
          obtain ⟨j, q, d', hj, rfl, hQ, rfl, rfl⟩ := hrel
          have cj := hC1.out j
          by_cases hlj : j < n
          · obtain ⟨t0, t1⟩ := hCells.out d' j hlj
            have Sj := Lib.hid (hCS.out j)
            generalize xs.getD (2 * j) 0 = b0 at *
            generalize xs.getD (2 * j + 1) 0 = b1 at *
            rw [← hQ.out] at t0 t1
            have hdj : (q : Int) < (m : Int) := by have := hQ.out; have := hM.out; omega
            have hdj2 : (q : Int) + 1 < (m : Int) := by have := hQ.out; have := hM.out; omega
            have j3 : (0 : Int) ≤ (q : Int) + 1 := by omega
            have j4 : ((q : Int) + 1).toNat = q + 1 := by omega
            have j5 : IntKind.i64.wrap ((q : Int) + 1) = (q : Int) + 1 := IntWalk.i64_in _ (by omega)
            have hJj := Lib.hid hlj
            clear hlj
            generalize hcj : C j = cn at *
            cases e1 : decide (b0 ≤ t) <;> cases e2 : decide (t < b1)
            all_goals
              first
              | have Sq := Lib.hid (show C (j + 1) = cn + 1 by have := Sj.out; rw [e1, e2] at this; exact this)
              | have Sq := Lib.hid (show C (j + 1) = cn by have := Sj.out; rw [e1] at this; exact this)
              | have Sq := Lib.hid (show C (j + 1) = cn by have := Sj.out; rw [e1, e2] at this; exact this)
              go_wp2_with fail
              go_roundw
              case rel => exact ⟨j + 1, q + 2, _, by have := hJj.out; omega, by go_num, Lib.hid (by have := hQ.out; omega), by first | (rw [Sq.out]; done) | (rw [Sq.out]; go_num), rfl⟩
              case measure => simp [intOf]; omega
          · obtain rfl : j = n := by omega
            have hdj : ¬ (q : Int) < (m : Int) := by have := hQ.out; have := hM.out; omega
            have hdj2 : decide ((q : Int) < (m : Int)) = false := decide_eq_false hdj
            generalize C j = cn at *
            have hStk2 := hStk.out
            by_cases g1 : M < cn
            · rw [if_pos (.inl g1)] at hStk2
              have d1 : decide ((M : Int) < (cn : Int)) = true := decide_eq_true (by omega)
              have hS2 := Lib.hid hStk2
              clear hStk2 hStk
              go_wp2_with fail
              go_roundw
              case rel => exact ⟨k + 1, s + 2, _, by have := hKk.out; omega, by go_num, Lib.hid (by have := hS.out; omega), by rw [hS2.out], by rw [hS2.out], rfl⟩
              case measure => simp [intOf]; omega
            · have d1 : decide ((M : Int) < (cn : Int)) = false := decide_eq_false (by omega)
              by_cases g2 : cn = M
              · have d2 : ((cn : Int) == (M : Int)) = true := by rw [beq_iff_eq]; omega
                by_cases g3 : t < T
                · rw [if_pos (.inr ⟨g2, g3⟩)] at hStk2
                  have d3 : decide (t < T) = true := decide_eq_true g3
                  have hS2 := Lib.hid hStk2
                  have g4 := Lib.hid g2
                  clear hStk2 hStk g2
                  go_wp2_with fail
                  go_roundw
                  case rel => exact ⟨k + 1, s + 2, _, by have := hKk.out; omega, by go_num, Lib.hid (by have := hS.out; omega), by rw [hS2.out], by rw [hS2.out], rfl⟩
                  case measure => simp [intOf]; omega
                · rw [if_neg (by rintro (q | ⟨_, q⟩); exact g1 q; exact g3 q)] at hStk2
                  have d3 : decide (t < T) = false := decide_eq_false g3
                  have hS2 := Lib.hid hStk2
                  have g4 := Lib.hid g2
                  clear hStk2 hStk g2
                  go_wp2_with fail
                  go_roundw
                  case rel => exact ⟨k + 1, s + 2, _, by have := hKk.out; omega, by go_num, Lib.hid (by have := hS.out; omega), by rw [hS2.out], by rw [hS2.out], rfl⟩
                  case measure => simp [intOf]; omega
              · rw [if_neg (by rintro (q | ⟨q, _⟩); exact g1 q; exact g2 q)] at hStk2
                have d2 : ((cn : Int) == (M : Int)) = false := by rw [beq_eq_false_iff_ne]; omega
                have hS2 := Lib.hid hStk2
                clear hStk2 hStk
                go_wp2_with fail
                go_roundw
                case rel => exact ⟨k + 1, s + 2, _, by have := hKk.out; omega, by go_num, Lib.hid (by have := hS.out; omega), by rw [hS2.out], by rw [hS2.out], rfl⟩
                case measure => simp [intOf]; omega
      · obtain rfl : k = n := by omega
        have hdj : ¬ (s : Int) < (m : Int) := by have := hS.out; have := hM.out; omega
        have hdj2 : decide ((s : Int) < (m : Int)) = false := decide_eq_false hdj
        go_wp2_with fail
        go_ret3
        exact ⟨rfl, below_drewN (Below.refl _ _) _⟩
theorem mostAtOnce_both (xs : List Int) (_ : ∀ x ∈ xs, (Lit.int .i64 x).wf = true) : ∃ (r0 r1 : Int) (r2 : Bool),
    (∀ (B : Nat) (v : Value) (w : World), LstI B w v xs → B ≤ w.heap.size → Calls Try.prog 23 #[v] w fun e w' => e = .returned (.tuple #[.int .i64 r0, .int .i64 r1, .bool r2]) ∧ Below w.heap.size w w') ∧
    (∀ (B : Nat) (v : Value) (w : World), LstI B w v xs → B ≤ w.heap.size → Calls Try.prog 24 #[v] w fun e w' => e = .returned (.tuple #[.int .i64 r0, .int .i64 r1, .bool r2]) ∧ Below w.heap.size w w') := by
  cases h : talksOk xs
  · refine ⟨0, 0, false, fun B v w hv hB => ?_, fun B v w hv hB => ?_⟩
    · have := specMostAtOnce_any B v xs w hv hB
      rw [h] at this; exact this
    · have := implMostAtOnce_any B v xs w hv hB
      rw [h] at this; exact this
  · refine ⟨((foundTo xs (xs.length / 2) (xs.length / 2)).1 : Int), (foundTo xs (xs.length / 2) (xs.length / 2)).2, true, fun B v w hv hB => ?_, fun B v w hv hB => ?_⟩
    · have := specMostAtOnce_any B v xs w hv hB
      rw [h] at this; exact this
    · have := implMostAtOnce_any B v xs w hv hB
      rw [h] at this; exact this
end Go.Proofs.Ytehobcmjjcmfnaa
