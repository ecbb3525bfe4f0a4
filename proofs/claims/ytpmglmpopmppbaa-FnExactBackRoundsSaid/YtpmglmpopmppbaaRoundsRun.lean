/- Contracts: which games are rounds; the program's side. -/
import Derived.Test.YtpmglmpopmppbaaGameKey
import Derived.Test.YtpmglmpopmppbaaCircle
import Derived.Test.YtpmglmpopmppbaaRoundsSpec
namespace Go.Proofs.Ytpmglmpopmppbaa
open Go.RowKit Go.Lst Go.Shelf Go.Plan Go.Maps

attribute [local go_sem] Oper.semAt_some

theorem ownsMap_below {H : Type} {P : Program} {k : TypeId} {R : Value → Option (DataW H × List MemPlace)} {W W' : World} {b n B : Nat} {D : DataW H} (h : W.ownsMap P k R b n D) (hb : Below B W W') (hB : b < B) : W'.ownsMap P k R b n D := by
  obtain ⟨es, clock, h1, F, hs, hD⟩ := h
  exact ⟨es, clock, (hb.block b hB).trans h1, F, hs, hD⟩
theorem nodup_snoc {l : List (Int × Int)} {x : Int × Int} (h : l.Nodup) (hx : l.contains x = false) : (l ++ [x]).Nodup := by
  rw [List.nodup_append]
  refine ⟨h, by simp, fun a ha b hb e => ?_⟩
  rw [List.mem_singleton] at hb
  subst hb e
  have := List.contains_iff_mem.2 ha
  rw [hx] at this
  cases this
theorem nodup_no {l : List (Int × Int)} {x : Int × Int} (hx : l.contains x = true) : ¬ (l ++ [x]).Nodup := fun h => by
  rw [List.nodup_append] at h
  exact h.2.2 x (List.contains_iff_mem.1 hx) x (by simp) rfl
theorem areTeams_is {q : Bool} (T : Int) (h : teamsOk T = q) (w : World) : Calls Try.prog 48 #[.int .i64 T] w fun e w' => e = .returned (.bool q) ∧ w = w' := by
  rw [← h]; exact areTeams_any T w
theorem isOrder_is {q : Bool} (B : Nat) (v : Value) (xs : List Int) (n : Int) (w : World) (h : LstI B w v xs) (hB : B ≤ w.heap.size) (hwf : ∀ x ∈ xs, (Lit.int .i64 x).wf = true) (hq : isOrder xs n = q) :
    Calls Try.prog 52 #[v, .int .i64 n] w fun e w' => e = .returned (.bool q) ∧ Below w.heap.size w w' := by
  rw [← hq]; exact implIsOrder_any B v xs n w h hB hwf
set_option maxHeartbeats 8000000 in
set_option maxRecDepth 100000 in
theorem areRounds_run (B b o cap t r : Nat) (xs : List Int) (w : World) (h : LstI B w (.slice (some ⟨b, o, none⟩) (r * t) cap) xs) (hB : B ≤ w.heap.size) (hwf : ∀ x ∈ xs, (Lit.int .i64 x).wf = true)
    (hq : teamsOk t = true) (hn : xs.length = r * t) (ht1 : 2 ≤ t) (ht2 : t ≤ 16) (he : t % 2 = 0) (hr1 : 1 ≤ r) (hr2 : r ≤ 2 * t - 2) :
    Calls Try.prog 22 #[.int .i64 t, .slice (some ⟨b, o, none⟩) (r * t) cap] w fun x w' => x = .returned (.bool (rowsIn t xs r && decide (pairsL xs).Nodup)) ∧ Below w.heap.size w w' := by
  have hTe := Lib.hid (fun w' => areTeams_is (q := true) (t : Int) hq w')
  have hcap : r * t ≤ cap ∧ cap ≤ maxLen := by
    obtain ⟨a', c', hv, _, e1, e2, _⟩ := h
    injection hv with q1 q2 q3
    subst q3
    rw [hn] at e1
    exact ⟨e1, e2⟩
  have hRo := Lib.hid (fun w' => rowsOf_any b o t r cap w' (by omega) ht2 (by omega) hcap.1 hcap.2)
  have hOrd : Hid (∀ (w' : World) (k : Nat) (q : Bool), Below w.heap.size w w' → k < r → isOrder (rowOf xs t k) t = q → Calls Try.prog 52 #[.slice (some ⟨b, o + k * t, none⟩) t t, .int .i64 t] w' fun e w'' => e = .returned (.bool q) ∧ Below w'.heap.size w' w'') := Lib.hid fun w' k q hb hk hqq => by
    refine isOrder_is B _ (rowOf xs t k) t w' (lstI_part (h.below hb hB) (k * t) t t (row_fit hk) (Nat.le_refl _) (by unfold maxLen; omega)) (Nat.le_trans hB hb.size) (fun x hx => hwf x ?_) hqq
    unfold rowOf at hx
    exact List.mem_of_mem_drop (List.mem_of_mem_take hx)
  have hSu := Lib.hid (rowsIn_succ t xs)
  have hNo : Hid (∀ k, k < r → isOrder (rowOf xs t k) t = false → rowsIn t xs r = false) := Lib.hid fun k hk hf => rowsIn_no hf hk
  have hLw := Lib.hid h
  have hXn := Lib.hid hn
  have hP := Lib.hid (fun n w' a' cap' => pairsOf_any a' n cap' w')
  have hEv : Hid (xs.length % 2 = 0) := Lib.hid (by
    rw [hn]
    obtain ⟨u, hu⟩ : ∃ u, t = 2 * u := ⟨t / 2, by omega⟩
    rw [hu, ← Nat.mul_assoc, Nat.mul_comm r 2, Nat.mul_assoc, Nat.mul_mod_right])
  have hWf : Hid (∀ p ∈ pairsL xs, (Lit.int .i64 p.1).wf = true ∧ (Lit.int .i64 p.2).wf = true) := Lib.hid fun p hp => ⟨hwf _ (pair_mem hp).1, hwf _ (pair_mem hp).2⟩
  have hL1 : 1 ≤ r * t := Nat.mul_pos (by omega) (by omega)
  have hL2 : r * t ≤ (2 * t - 2) * t := Nat.mul_le_mul_right t hr2
  have hL3 : (2 * t - 2) * t ≤ 480 := Nat.mul_le_mul (show 2 * t - 2 ≤ 30 by omega) ht2
  have hmm := @run_makeMap Try.prog
  obtain ⟨L, hL⟩ : ∃ L, L = r * t := ⟨_, rfl⟩
  obtain ⟨X, hX⟩ : ∃ X, X = (2 * t - 2) * t := ⟨_, rfl⟩
  have x1 : ((2 * (t : Int) - 2) * (t : Int)) = (X : Int) := by rw [hX, Int.natCast_mul]; congr 1; omega
  have x2 : (L : Int) % (t : Int) = 0 := by rw [hL, (modB (r * t) t).1, Nat.mul_mod_left]; rfl
  have x3 : (L : Int).tmod (t : Int) = 0 := by rw [hL, (modB (r * t) t).2, Nat.mul_mod_left]; rfl
  rw [← hL, ← hX] at hL2
  rw [← hX] at hL3
  rw [← hL] at hL1
  have x4 : ((L : Int) == 0) = false := by rw [beq_eq_false_iff_ne]; omega
  have x5 : decide ((X : Int) < (L : Int)) = false := decide_eq_false (by omega)
  have x6 : ((t : Int) == 0) = false := by rw [beq_eq_false_iff_ne]; omega
  have x7 : ¬ (t : Int) = 0 := by omega
  have x8 : ¬ t = 0 := by omega
  have x9 : IntKind.i64.wrap (2 * (t : Int)) = 2 * (t : Int) := IntWalk.i64_in _ (by omega)
  have y1 : IntKind.i64.wrap (2 * (t : Int) - 2) = 2 * (t : Int) - 2 := IntWalk.i64_in _ (by omega)
  have y2 : IntKind.i64.wrap (X : Int) = (X : Int) := IntWalk.i64_in _ (by omega)
  have y3 : ¬ (X : Int) < (L : Int) := by omega
  have hLr := Lib.hid hL
  rw [← hL] at hRo hLw hXn ⊢
  clear h hn hX hL hcap hwf
  have bR := Boxed.new w 4 (.bool false)
  have hBR := Lib.hid bR
  have hb1 := Lib.hid (below_alloc (Below.refl w.heap.size w) (.cells #[.bool false] 4))
  clear bR
  refine (callsIn_wide (n := 5)).1 ?_
  have h1 : 1 ≤ 5 := by omega
  have h4 : 1 ≤ 5 - 1 := by omega
  refine callsIn_of_wp_marks Try.func22 rfl trivial ?_ rfl
  simp only [Try.ntmps22, List.size_toArray, List.length_cons, List.length_nil, Nat.reduceAdd, Nat.reduceSub, Array.replicate_succ, Array.replicate_zero, List.push_toArray, List.append_toArray, List.nil_append, List.cons_append]
  gi_wp2_with (first | (refine ⟨trivial, ?_⟩; gi_at_call 48; (with_reducible refine (callsIn_wide.2 (hTe.out _)).mono ?_); rintro e' w' ⟨rfl, rfl⟩) | (refine ⟨trivial, ?_⟩; gi_at_call 51; (with_reducible refine (callsIn_wide.2 (hRo.out _)).mono ?_); rintro e' w2 ⟨v2, rfl, hO2, hb2⟩))
  have hWB := Lib.hid (below_on hb1.out (Nat.le_refl _) hb2)
  have hBR2 := Lib.hid (boxed_below hBR.out hb2 hBR.out.lt)
  obtain ⟨g, capg, cur, rfl, hg1, hgb, hcur⟩ : ∃ (g capg : Nat) (cur : Array Value), v2 = .slice (some ⟨g, 0, none⟩) r capg ∧ w.heap.size < g ∧ w2.heap[g]? = some (.cells cur 22 (0, 0)) ∧ ∀ k, k < r → cur[k]? = some (rowV b o t k) := by
    rcases hO2.1.2 with ⟨rfl, h9⟩ | ⟨g, capg, cur, rfl, hg1, hgb, hg2⟩
    · omega
    · refine ⟨g, capg, cur, rfl, by simp at hg1; omega, hgb, fun k hk => ?_⟩
      have e1 := rowsL_get b o t r k hk
      rw [← hg2.2.2.2, List.getElem?_take, if_pos (by omega), Array.getElem?_toList] at e1
      exact e1
  clear hO2 hb2
  have hGb := Lib.hid hgb
  have hCu := Lib.hid hcur
  clear hgb hcur
  have hh2 : (Builtin.len_ #[50] 3 #[Value.slice (some ⟨g, 0, none⟩) r capg]).run Try.prog w2 = .ok (.int .i64 r) w2 := by simp [go_sem]
  simp only [hh2, Result.andThen]
  clear hh2
  gi_wp2
  gi_loopw [39] (fun i wr => ∃ k : Nat, k ≤ r ∧ i = .int .i64 k ∧ Hid (rowsIn t xs k = true) ∧ Hid (wr.heap[g]? = some (.cells cur 22 (0, 0))) ∧ Hid (Boxed wr w.heap.size 4 (.bool false)) ∧ Hid (Below w.heap.size w wr)) (fun i _ => r - (intOf i).toNat)
  case atStart => exact ⟨0, Nat.zero_le _, rfl, Lib.hid rfl, hGb, hBR2, hWB⟩
  case round =>
    clear hGb hBR2 hWB
    obtain ⟨k, hk, rfl, hP1, hG, hBx, hB1⟩ := hrel
    by_cases hlt : k < r
    · have cr : wr.cell? ⟨g, k, none⟩ = some (rowV b o t k) := (cell_of_row wr g k cur _ (0, 0) hG.out).trans (hCu.out k hlt)
      unfold rowV at cr
      have c1 := hBx.out.cell
      have f1 := hBx.out.frozen
      have hSz : g < wr.heap.size := (Array.getElem?_eq_some_iff.1 hG.out).1
      cases hqo : isOrder (rowOf xs t k) t
      · have hck := Lib.hid (hOrd.out wr k false hB1.out hlt hqo)
        have hF := Lib.hid (show (rowsIn t xs r && decide (pairsL xs).Nodup) = false by rw [hNo.out k hlt hqo, Bool.false_and])
        gi_wp2_with (refine ⟨trivial, ?_⟩; gi_at_call 52; (with_reducible refine (callsIn_wide.2 hck.out).mono ?_); rintro e' w5 ⟨rfl, hb5⟩; have hB5 := Lib.hid (below_on hB1.out (Nat.le_refl _) hb5); have hBx5 := Lib.hid (boxed_below hBx.out hb5 hBx.out.lt); have c5 := hBx5.out.cell; have f5 := hBx5.out.frozen; clear hb5)
        have e5 := (hBx5.out.set (.bool false)).cell
        exact ⟨.bool false, by simp [results, Try.f22, go_sem, e5], by rw [hF.out], hB5.out.setCell (p := ⟨w.heap.size, 0, none⟩) (Nat.le_refl _) _⟩
      · have hck := Lib.hid (hOrd.out wr k true hB1.out hlt hqo)
        have hP2 := Lib.hid (show rowsIn t xs (k + 1) = true by rw [hSu.out, hP1.out, hqo]; rfl)
        gi_wp2_with (refine ⟨trivial, ?_⟩; gi_at_call 52; (with_reducible refine (callsIn_wide.2 hck.out).mono ?_); rintro e' w5 ⟨rfl, hb5⟩; have hB5 := Lib.hid (below_on hB1.out (Nat.le_refl _) hb5); have hBx5 := Lib.hid (boxed_below hBx.out hb5 hBx.out.lt); have hG5 := Lib.hid ((hb5.block g hSz).trans hG.out); clear hb5)
        go_roundw
        case rel => exact ⟨k + 1, by omega, by go_num, hP2, hG5, hBx5, hB5⟩
        case measure => simp [intOf]; omega
    · have hRi := Lib.hid (show rowsIn t xs r = true by rw [show r = k by omega]; exact hP1.out)
      gi_wp2_with (refine ⟨trivial, ?_⟩; gi_at_call 53; (with_reducible refine (callsIn_wide.2 (hP.out _ _ _ _)).mono ?_); rintro e' w' ⟨rfl, rfl⟩)
      have hxs : xs.length % 2 = 0 := hEv.out
      have hxs2 : xs.length ≤ 2000 := by rw [hXn.out]; omega
      have hlt0 : w.heap.size < wr.heap.size := hBx.out.lt
      have q1 := ((hBx.out.alloc (.map #[] 0)).alloc (.cells #[.map (some wr.heap.size)] 53)).alloc (.cells #[.slice (some ⟨b, o, none⟩) L cap] 22)
      have q2 := (Boxed.new (wr.alloc (.map #[] 0)) 53 (.map (some wr.heap.size))).alloc (.cells #[.slice (some ⟨b, o, none⟩) L cap] 22)
      have q3 := Boxed.new ((wr.alloc (.map #[] 0)).alloc (.cells #[.map (some wr.heap.size)] 53)) 22 (.slice (some ⟨b, o, none⟩) L cap)
      have q4 := ((World.ownsMap_made (H := Unit) wr Try.prog 58 (plainElem Try.prog 4)).alloc (.cells #[.map (some wr.heap.size)] 53)).alloc (.cells #[.slice (some ⟨b, o, none⟩) L cap] 22)
      have hBel : Below w.heap.size w (((wr.alloc (.map #[] 0)).alloc (.cells #[.map (some wr.heap.size)] 53)).alloc (.cells #[.slice (some ⟨b, o, none⟩) L cap] 22)) := ((hB1.out.alloc hB1.out.size _).alloc (by simp; omega) _).alloc (by simp; omega) _
      have z1 : wr.heap.size + 1 + 1 < (((wr.alloc (.map #[] 0)).alloc (.cells #[.map (some wr.heap.size)] 53)).alloc (.cells #[.slice (some ⟨b, o, none⟩) L cap] 22)).heap.size := by simp
      rw [World.size_alloc] at q2
      rw [World.size_alloc, World.size_alloc] at q3
      have hcB := q3.cell
      have hzB : (zeroValue 4).run Try.prog = fun W => .ok (.bool false) W := by
        funext W; simp [zeroValue, go_sem, Try.t4]
      have hLen : xs.length ≤ 480 := by rw [hXn.out]; omega
      generalize ((wr.alloc _).alloc _).alloc _ = W0 at *
      generalize wr.heap.size = M at *
      have hLW : LstI w.heap.size W0 (.slice (some ⟨b, o, none⟩) L cap) xs := (hLw.out.below hBel hB).mono hB
      clear hBx hB1 q3 hb1 hBR hTe hRo hOrd hSu hNo hP
      refine wpIn_rangeFunc_ownG rfl h1 (gf := 73) (lb := #[.pointer (some ⟨M + 1 + 1, 0, none⟩)]) rfl trivial (enters_of Try.func73 (by kernel_rfl) rfl)
        (pairs_stops (5 - 1) (M + 1 + 1) w.heap.size (by omega) _ xs W0 (by omega) (by omega) hcB hLW hxs hxs2) KeptA.t (KeptA.b (by omega)) (Below.refl _ _) (fun _ => rfl)
        (fun (pre : List (PairIn xs)) (W : World) => (pre.map (·.1)).Nodup ∧ (Boxed W w.heap.size 4 (.bool false) ∧ Boxed W (M + 1) 53 (.map (some M)) ∧ ∃ D, W.ownsMap Try.prog 58 (plainElem (H := Unit) Try.prog 4) M pre.length D ∧ Played D (pre.map (·.1))) ∧ Below w.heap.size w W ∧ W0.heap.size ≤ W.heap.size)
        (fun (c : Code) (pre : List (PairIn xs)) (W : World) => c = .ret ∧ ¬ (pre.map (·.1)).Nodup ∧ Boxed W w.heap.size 4 (.bool false) ∧ Below w.heap.size w W ∧ W0.heap.size ≤ W.heap.size)
        (ownFrom_of_below (fun s W h => h.2.2.2) fun s W W' h hb => ⟨h.1, ⟨boxed_below h.2.1.1 hb (by omega), boxed_below h.2.1.2.1 hb (by omega), by
          obtain ⟨D, hD1, hD2⟩ := h.2.1.2.2
          exact ⟨D, ownsMap_below hD1 hb (by omega), hD2⟩⟩, h.2.2.1.trans (hb.mono (by omega)), Nat.le_trans h.2.2.2 hb.size⟩)
        (fun c => ownFrom_of_below (fun s W h => h.2.2.2.2) (by intro s W W' h hb; exact ⟨h.1, h.2.1, boxed_below h.2.2.1 hb (by omega), h.2.2.2.1.trans (hb.mono (by omega)), Nat.le_trans h.2.2.2.2 hb.size⟩))
        ⟨List.nodup_nil, ⟨q1, q2, _, q4, played_none⟩, hBel, Nat.le_refl _⟩
        (fun x => { tmps := #[.int .i64 t, .slice (some ⟨b, o, none⟩) L cap, undef, undef, .pointer (some ⟨w.heap.size, 0, none⟩), undef, u6, .pointer (some ⟨M + 1, 0, none⟩), .int .i64 x.1.1, .int .i64 x.1.2, .int .i64 t, .bool true, .bool false, .bool false, .slice (some ⟨b, o, none⟩) L cap, .int .i64 L, .bool false, .bool false, .bool false, .slice (some ⟨b, o, none⟩) L cap, .int .i64 L, .int .i64 t, .int .i64 0, .bool false, .bool false, .bool false, .slice (some ⟨b, o, none⟩) L cap, .int .i64 L, .int .i64 t, .int .i64 (2 * t), .int .i64 (2 * t - 2), .int .i64 t, .int .i64 X, .bool false, .bool false, .slice (some ⟨b, o, none⟩) L cap, .int .i64 t, .slice (some ⟨g, 0, none⟩) r capg, .int .i64 r, .int .i64 k, .bool false, u41, u42, u43, u44, u45, u46, u47, .map (some M), .slice (some ⟨b, o, none⟩) L cap, .func (.func 73) #[] #[.pointer (some ⟨M + 1 + 1, 0, none⟩)], .int .i64 x.1.1, .int .i64 x.1.2, undef, undef, undef, undef, undef, undef, undef, undef, undef], defers := [] }) ?assign ?body ?done ?stop
      case assign =>
        intro l x W K hK
        gi_wp2
        exact hK
      case body =>
        rintro l pre ⟨⟨pa, pb⟩, hx⟩ W ⟨hn, ⟨b1, b2, D, hown, hpl⟩, hbw, hsw⟩ hlt
        obtain ⟨wa, wb⟩ := hWf.out _ hx
        dsimp only at wa wb
        have hkey := keyG_is pa pb wa wb
        obtain ⟨v, ps, hrun, hv⟩ := hown.lookup lawGame Try.underlying53 (congrFun hzB W) (plainElem_bool Try.underlying4 false) hkey
        rw [hpl pa pb wa wb] at hv
        obtain rfl := bool_elem hv
        clear hv
        have c2 := b2.cell
        cases hq : (pre.map (·.1)).contains (pa, pb)
        · rw [hq] at hrun
          have hng := nodup_snoc hn hq
          have hEnd := Lib.hid (And.intro hng (And.intro b1 (And.intro b2 (And.intro hpl hbw))))
          clear hng b1 b2 hpl hbw hn hq
          gi_wp2_with (gi_at_mapUpdate; refine wpListIn_mapUpdate_own _ rfl _ _ _ 53 rfl 58 4 lawGame Try.underlying53 _ M pre.length _ rfl hown (by unfold maxLen; omega) _ _ _ rfl rfl hkey _ [] (plainElem_bool Try.underlying4 true) ?_; intro w1 hown1 hgrow1)
          obtain ⟨hng, b1, b2, hpl, hbw⟩ := hEnd.out
          have hwi : Within w.heap.size W0.heap.size W w1 := Within.grown hgrow1 (by omega) (fun k e => by cases e; omega)
          refine ⟨hwi.from, hwi.kept, by rw [List.map_append]; exact hng, ⟨(hgrow1.block _ b1.lt (by simp; omega)).trans b1, (hgrow1.block _ b2.lt (by simp)).trans b2, _, by rw [List.length_append]; exact hown1, ?_⟩, hbw.trans hwi.1, Nat.le_trans hsw hwi.1.size⟩
          rw [List.map_append]
          exact hpl.put hown.isMap wa wb
        · rw [hq] at hrun
          have hng := nodup_no hq
          have hEnd := Lib.hid (And.intro hng (And.intro b1 hbw))
          have c1 := b1.cell
          have f1 := b1.frozen
          clear hng b1 hpl hbw hn hq
          gi_wp2
          obtain ⟨hng, b1, hbw⟩ := hEnd.out
          have hwi : Within w.heap.size W0.heap.size W (W.setCell ⟨w.heap.size, 0, none⟩ (.bool false)) := (Within.refl _ _ W).set (p := ⟨w.heap.size, 0, none⟩) (Nat.le_refl _) (show w.heap.size < W0.heap.size by omega) _
          exact ⟨hwi.from, rfl, by rw [List.map_append]; exact hng, b1.set _, hbw.trans hwi.1, Nat.le_trans hsw hwi.1.size⟩
      case done =>
        rintro D ys W hD hys ⟨hn, ⟨b1, _⟩, hbw, hsw⟩ hK
        have c1 := b1.cell
        have f1 := b1.frozen
        have hys2 : ys.map (·.1) = pairsL xs := hys
        rw [hys2] at hn
        gi_wp2
        have hK2 := (KeepsOthers.setCell W ⟨w.heap.size, 0, none⟩ (.bool true)).same D _ hK rfl
        have e1 := cell_put (.deferred none) (b1.set (.bool true)).cell hK2 rfl
        refine ⟨by simp, .inl ⟨_, _, rfl, run_takeDeferred hK2, ?_⟩⟩
        refine ⟨.bool true, ?_, by rw [hRi.out, decide_eq_true hn]; rfl, ?_⟩
        · simp [results, Try.f22, go_sem, e1]
        · exact (hbw.setCell (p := ⟨w.heap.size, 0, none⟩) (Nat.le_refl _) _).trans (belowK_b (w := W0) (by omega) _ D _ _ hD hK2 rfl rfl)
      case stop =>
        rintro D c pre W hD hpre ⟨rfl, hn, b1, hbw, hsw⟩ hK
        have c1 := b1.cell
        have hn2 : ¬ (pairsL xs).Nodup := fun h => hn (h.sublist (List.IsPrefix.sublist hpre))
        gi_wp2
        have e1 := cell_put (.deferred none) c1 hK rfl
        refine ⟨by simp, .inl ⟨_, _, rfl, run_takeDeferred hK, ?_⟩⟩
        refine ⟨.bool false, ?_, by rw [decide_eq_false hn2, Bool.and_false], ?_⟩
        · simp [results, Try.f22, go_sem, e1]
        · exact hbw.trans (belowK_b (w := W0) (by omega) _ D _ _ hD hK rfl rfl)
set_option maxHeartbeats 4000000 in
set_option maxRecDepth 100000 in
theorem areRounds_no (a : Option Addr) (T : Int) (n cap : Nat) (w : World) (hl : n ≤ maxLen) (hq : (teamsOk T && sizeOk T n) = false) :
    Calls Try.prog 22 #[.int .i64 T, .slice a n cap] w fun x w' => x = .returned (.bool false) ∧ Below w.heap.size w w' := by
  unfold maxLen at hl
  have hb1 := Lib.hid (below_alloc (Below.refl w.heap.size w) (.cells #[.bool false] 4))
  have bR := Boxed.new w 4 (.bool false)
  have c1 := bR.cell
  have f1 := bR.frozen
  clear bR
  cases ht : teamsOk T
  · have hTe := Lib.hid (fun w' => areTeams_is _ ht w')
    clear hq ht
    go_enter Try.func22, Try.ntmps22
    go_wp2_with (go_at_call 48; (with_reducible refine (hTe.out _).mono ?_); rintro e' w' ⟨rfl, rfl⟩)
    exact bodyPost_ret (v := .bool false) (by simp [results, Try.results22, go_sem, c1]) rfl ⟨rfl, hb1.out⟩
  · have hTe := Lib.hid (fun w' => areTeams_is _ ht w')
    obtain ⟨t1, t2, t3⟩ := teams_in ht
    obtain ⟨t, rfl⟩ : ∃ t : Nat, T = (t : Int) := ⟨T.toNat, by omega⟩
    rw [ht, sizeOk_iff (by omega) (by omega), Bool.true_and] at hq
    clear ht
    have x6 : ((t : Int) == 0) = false := by rw [beq_eq_false_iff_ne]; omega
    have x7 : ¬ (t : Int) = 0 := by omega
    have x8 : ¬ t = 0 := by omega
    by_cases h0 : n = 0
    · have x4 : ((n : Int) == 0) = true := by rw [beq_iff_eq]; omega
      clear hq
      subst h0
      go_enter Try.func22, Try.ntmps22
      go_wp2_with (go_at_call 48; (with_reducible refine (hTe.out _).mono ?_); rintro e' w' ⟨rfl, rfl⟩)
      exact bodyPost_ret (v := .bool false) (by simp [results, Try.results22, go_sem, c1]) rfl ⟨rfl, hb1.out⟩
    · have x4 : ((n : Int) == 0) = false := by rw [beq_eq_false_iff_ne]; omega
      by_cases hm : n % t = 0
      · have x2 : (n : Int) % (t : Int) = 0 := by rw [(modB n t).1, hm]; rfl
        have x3 : (n : Int).tmod (t : Int) = 0 := by rw [(modB n t).2, hm]; rfl
        have hgt : (2 * t - 2) * t < n := by
          rw [decide_eq_true h0, decide_eq_true hm, Bool.true_and, Bool.true_and] at hq
          have := of_decide_eq_false hq
          omega
        clear hq
        have hX2 : (2 * t - 2) * t ≤ 480 := Nat.mul_le_mul (show 2 * t - 2 ≤ 30 by omega) (show t ≤ 16 by omega)
        obtain ⟨X, hX⟩ : ∃ X, X = (2 * t - 2) * t := ⟨_, rfl⟩
        have x1 : ((2 * (t : Int) - 2) * (t : Int)) = (X : Int) := by rw [hX, Int.natCast_mul]; congr 1; omega
        rw [← hX] at hgt hX2
        have x5 : decide ((X : Int) < (n : Int)) = true := decide_eq_true (by omega)
        have x9 : IntKind.i64.wrap (2 * (t : Int)) = 2 * (t : Int) := IntWalk.i64_in _ (by omega)
        have y1 : IntKind.i64.wrap (2 * (t : Int) - 2) = 2 * (t : Int) - 2 := IntWalk.i64_in _ (by omega)
        have y2 : IntKind.i64.wrap (X : Int) = (X : Int) := IntWalk.i64_in _ (by omega)
        have y3 : (X : Int) < (n : Int) := by omega
        clear hX
        go_enter Try.func22, Try.ntmps22
        go_wp2_with (go_at_call 48; (with_reducible refine (hTe.out _).mono ?_); rintro e' w' ⟨rfl, rfl⟩)
        exact bodyPost_ret (v := .bool false) (by simp [results, Try.results22, go_sem, c1]) rfl ⟨rfl, hb1.out⟩
      · obtain ⟨m, hm2⟩ : ∃ m, m = n % t := ⟨_, rfl⟩
        have x2 : (n : Int) % (t : Int) = (m : Int) := by rw [(modB n t).1, hm2]
        have x3 : (n : Int).tmod (t : Int) = (m : Int) := by rw [(modB n t).2, hm2]
        have hmt : m < t := by rw [hm2]; exact Nat.mod_lt _ (by omega)
        rw [← hm2] at hm
        clear hm2 hq
        have x5 : ((m : Int) != 0) = true := by rw [bne_iff_ne]; omega
        have x9 : ((m : Int) == 0) = false := by rw [beq_eq_false_iff_ne]; omega
        have y1 : IntKind.i64.wrap (m : Int) = (m : Int) := IntWalk.i64_in _ (by omega)
        have y2 : ¬ (m : Int) = 0 := by omega
        go_enter Try.func22, Try.ntmps22
        go_wp2_with (go_at_call 48; (with_reducible refine (hTe.out _).mono ?_); rintro e' w' ⟨rfl, rfl⟩)
        exact bodyPost_ret (v := .bool false) (by simp [results, Try.results22, go_sem, c1]) rfl ⟨rfl, hb1.out⟩

theorem implAreRounds_any (B : Nat) (v : Value) (xs : List Int) (T : Int) (w : World) (h : LstI B w v xs) (hB : B ≤ w.heap.size) (hwf : ∀ x ∈ xs, (Lit.int .i64 x).wf = true) :
    Calls Try.prog 22 #[.int .i64 T, v] w fun x w' => x = .returned (.bool (roundsOk T xs)) ∧ Below w.heap.size w w' := by
  cases hq : (teamsOk T && sizeOk T xs.length)
  · have hr : roundsOk T xs = false := by unfold roundsOk; rw [hq]; rfl
    rw [hr]
    obtain ⟨a, cap, rfl, h1, h2, h3, _⟩ := h.at_
    exact areRounds_no a T xs.length cap w h1 hq
  · have hr : roundsOk T xs = (rowsIn T.toNat xs (xs.length / T.toNat) && decide (pairsL xs).Nodup) := by unfold roundsOk; rw [hq, Bool.true_and]
    rw [hr]
    rw [Bool.and_eq_true] at hq
    obtain ⟨ht, hs⟩ := hq
    obtain ⟨t1, t2, t3⟩ := teams_in ht
    obtain ⟨t, rfl⟩ : ∃ t : Nat, T = (t : Int) := ⟨T.toNat, by omega⟩
    rw [sizeOk_iff (by omega) (by omega)] at hs
    simp only [Bool.and_eq_true, decide_eq_true_eq] at hs
    obtain ⟨⟨s1, s2⟩, s3⟩ := hs
    obtain ⟨r, hr⟩ : ∃ r, xs.length = r * t := ⟨xs.length / t, by rw [Nat.mul_comm, Nat.mul_div_cancel' (Nat.dvd_of_mod_eq_zero s2)]⟩
    obtain ⟨a, cap, rfl, _⟩ := h.at_
    obtain ⟨b, o, rfl, hb⟩ := lstI_block h (by omega)
    rw [Int.toNat_natCast]
    have hr1 : 1 ≤ r := by
      rcases Nat.eq_zero_or_pos r with e | e
      · subst e; rw [Nat.zero_mul] at hr; exact absurd hr s1
      · exact e
    have hr2 : r ≤ 2 * t - 2 := Nat.le_of_mul_le_mul_right (hr ▸ s3) (by omega)
    rw [show xs.length / t = r by rw [hr, Nat.mul_div_cancel _ (by omega)]]
    rw [hr] at h ⊢
    exact areRounds_run B b o cap t r xs w h hB hwf ht hr (by omega) (by omega) (by omega) hr1 hr2
theorem areRounds_both (x0 : Int) (x1 : List Int) (_ : (Lit.int .i64 x0).wf = true) (hw1 : ∀ y ∈ x1, (Lit.int .i64 y).wf = true) : ∃ r0 : Bool,
    (∀ (B : Nat) (v1 : Value) (w : World), LstI B w v1 x1 → B ≤ w.heap.size → Calls Try.prog 20 #[.int .i64 x0, v1] w fun e w' => e = .returned (.bool r0) ∧ Below w.heap.size w w') ∧
    (∀ (B : Nat) (v1 : Value) (w : World), LstI B w v1 x1 → B ≤ w.heap.size → Calls Try.prog 22 #[.int .i64 x0, v1] w fun e w' => e = .returned (.bool r0) ∧ Below w.heap.size w w') :=
  ⟨roundsOk x0 x1, fun B v1 w h _ => (specAreRounds_any B v1 x1 x0 w h).mono fun _ _ hr => hr.below, fun B v1 w h hB => implAreRounds_any B v1 x1 x0 w h hB hw1⟩
end Go.Proofs.Ytpmglmpopmppbaa
