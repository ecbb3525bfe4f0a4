/- How long vehicles move without trips: the model's walk. No condition. -/
import Derived.Test.YtmnogipmpojoaaaIdlePure
import Derived.StillTailTactics
namespace Go.Proofs.Ytmnogipmpojoaaa
open Go.RowKit Go.Lst Srt Go.Plan

theorem allIn_no {vs : List Int} {lo hi : Int} {k : Nat} {x : Int} (hx : vs[k]? = some x) (h : inB x lo hi = false) : allIn vs lo hi = false := all_not hx h
theorem can_no3 {xs : List TripD} {ms vs : List Int} (h : ¬ vs.length = xs.length) : idleYes xs ms vs = false := by unfold idleYes idleCan; rw [decide_eq_false h]; simp
theorem can_no4 {xs : List TripD} {ms vs : List Int} (h : allIn vs 0 23 = false) : idleYes xs ms vs = false := by unfold idleYes idleCan; rw [h]; simp
theorem can_no1 {xs : List TripD} {ms vs : List Int} (h : areTrips xs = false) : idleYes xs ms vs = false := by unfold idleYes idleCan; rw [h]; simp
theorem can_no2 {xs : List TripD} {ms vs : List Int} (h : okMoves ms = false) : idleYes xs ms vs = false := by unfold idleYes idleCan; rw [h]; simp
theorem ret_quiet_at {P : Program} {f : FuncId} {args : Array Value} {w : World} {v : Value} (h : ∀ j, Calls P f args (w.drewN j) (Ret v (w.drewN j))) (a x : Nat) : Calls P f args (w.drewN (a + x)) fun e w'' => e = .returned v ∧ ∃ n, w'' = w.drewN (a + n) :=
  (h (a + x)).mono fun e w'' ⟨m, h1, h2⟩ => ⟨h1, x + m, by rw [h2]; simp [Nat.add_assoc]⟩
set_option maxHeartbeats 8000000 in
set_option maxRecDepth 100000 in
theorem specIdle_any (B : Nat) (v1 v2 v3 : Value) (xs : List TripD) (ms vs : List Int) (w : World) (h1 : LstTrip B w v1 xs) (h2 : LstI B w v2 ms) (h3 : LstI B w v3 vs) (hB : B ≤ w.heap.size) :
    Calls Try.prog 5 #[v1, v2, v3] w (IdlePost xs ms vs w) := by
  have hA := Lib.hid (l06Trips_any B v1 xs w h1 hB)
  have hMv := Lib.hid (fun w1 (hb : Below w.heap.size w w1) => l06Moves_any B v2 ms w1 (h2.below hb hB))
  have hNo : Hid (idleYes xs ms vs = false → ∀ w', Below w.heap.size w w' → IdlePost xs ms vs w (.returned (.tuple #[.int .i64 0, .bool false])) w') := Lib.hid fun h w' hb => idle_no h hb
  have h1' := Lib.hid h1
  have h2' := Lib.hid h2
  obtain ⟨a1, cap1, rfl, hl, _, _, hc⟩ := h1.at_
  obtain ⟨a2, cap2, rfl, hl2, _, _, hc2⟩ := h2.at_
  obtain ⟨a3, cap3, rfl, hl3, _, _, hc3⟩ := h3.at_
  clear h1 h2 h3
  cases e1 : areTrips xs
  · rw [e1] at hA
    have hR := Lib.hid (hNo.out (can_no1 e1))
    clear hMv hNo e1 hc hc2 hc3 h1' h2'
    generalize IdlePost xs ms vs w = Q at *
    generalize xs.length = n at *
    generalize ms.length = m at *
    generalize vs.length = nv at *
    unfold maxLen at hl hl2 hl3
    go_enter Try.func5, Try.ntmps5
    go_wp2_with (go_at_call 11; (with_reducible refine (hA.out).mono ?_); rintro e w1 ⟨rfl, hb1⟩; have hB1 := Lib.hid hb1; clear hb1)
    first | exact hR.out _ hB1.out | (go_ret2; exact hR.out _ hB1.out)
  rw [e1] at hA
  cases e2 : okMoves ms
  · rw [e2] at hMv
    have hR := Lib.hid (hNo.out (can_no2 e2))
    clear hNo e1 e2 hc hc2 hc3 h1' h2'
    generalize IdlePost xs ms vs w = Q at *
    generalize xs.length = n at *
    generalize ms.length = m at *
    generalize vs.length = nv at *
    unfold maxLen at hl hl2 hl3
    go_enter Try.func5, Try.ntmps5
    go_wp2_with (first | (go_at_call 11; (with_reducible refine (hA.out).mono ?_); rintro e w1 ⟨rfl, hb1⟩; have hB1 := Lib.hid hb1; clear hb1) | (go_at_call 12; (with_reducible refine (hMv.out w1 hB1.out).mono ?_); rintro e w2 ⟨j2, rfl, rfl⟩; have hB2 := Lib.hid (Lst.Below.drewN hB1.out j2)))
    first | exact hR.out _ hB2.out | (go_ret2; exact hR.out _ hB2.out)
  rw [e2] at hMv
  by_cases e3 : vs.length = xs.length
  rotate_left
  · have hR := Lib.hid (hNo.out (can_no3 e3))
    have hne : ((vs.length : Int) != (xs.length : Int)) = true := by rw [bne_iff_ne]; omega
    have hne2 : ¬ (vs.length : Int) = (xs.length : Int) := by omega
    have hne3 : ((vs.length : Int) == (xs.length : Int)) = false := by rw [beq_eq_false_iff_ne]; omega
    clear hNo e1 e2 hc hc2 hc3 h1' h2' e3
    generalize IdlePost xs ms vs w = Q at *
    generalize xs.length = n at *
    generalize ms.length = m at *
    generalize vs.length = nv at *
    unfold maxLen at hl hl2 hl3
    go_enter Try.func5, Try.ntmps5
    go_wp2_with (first | (go_at_call 11; (with_reducible refine (hA.out).mono ?_); rintro e w1 ⟨rfl, hb1⟩; have hB1 := Lib.hid hb1; clear hb1) | (go_at_call 12; (with_reducible refine (hMv.out w1 hB1.out).mono ?_); rintro e w2 ⟨j2, rfl, rfl⟩; have hB2 := Lib.hid (Lst.Below.drewN hB1.out j2)))
    first | exact hR.out _ hB2.out | (go_ret2; exact hR.out _ hB2.out)
  obtain ⟨n1, n24, hok⟩ := areTrips_of e1
  have hl64 := (okMoves_of e2).1
  obtain ⟨b1, o1, x0, rfl, hb1B, _⟩ := hc 0 (by omega)
  obtain ⟨b2, o2, x2, rfl, hb2B, _⟩ := hc2 0 (by omega)
  obtain ⟨b3, o3, x3, rfl, hb3B, _⟩ := hc3 0 (by omega)
  have hT : Hid (∀ W k, Below w.heap.size w W → k < xs.length → W.cell? ⟨b1, o1 + k * 4, none⟩ = some (.int .i64 (xs.getD k default).Start) ∧ W.cell? ⟨b1, o1 + k * 4 + 2, none⟩ = some (.int .i64 (xs.getD k default).From) ∧ W.cell? ⟨b1, o1 + k * 4 + 3, none⟩ = some (.int .i64 (xs.getD k default).To)) := Lib.hid fun W k hW hk => by
    obtain ⟨b', o', x, he, _, hx, r0, _, r2, r3⟩ := hc k hk
    injection he with he
    injection he with q1 q2 _
    subst q1 q2
    rw [getTr_of hx]
    have hbw : b1 < w.heap.size := by omega
    exact ⟨(hW.cell (p := ⟨b1, o1 + k * 4, none⟩) hbw).trans r0, (hW.cell (p := ⟨b1, o1 + k * 4 + 2, none⟩) hbw).trans r2, (hW.cell (p := ⟨b1, o1 + k * 4 + 3, none⟩) hbw).trans r3⟩
  have hM : Hid (∀ W k, Below w.heap.size w W → k < ms.length → W.cell? ⟨b2, o2 + k, none⟩ = some (.int .i64 (ms.getD k 0))) := Lib.hid fun W k hW hk => by
    obtain ⟨b', o', x, he, _, hx, r0⟩ := hc2 k hk
    injection he with he
    injection he with q1 q2 _
    subst q1 q2
    rw [getD_of hx]
    exact (hW.cell (p := ⟨b2, o2 + k, none⟩) (show b2 < w.heap.size by omega)).trans r0
  have hV : Hid (∀ W k, Below w.heap.size w W → k < vs.length → W.cell? ⟨b3, o3 + k, none⟩ = some (.int .i64 (vs.getD k 0))) := Lib.hid fun W k hW hk => by
    obtain ⟨b', o', x, he, _, hx, r0⟩ := hc3 k hk
    injection he with he
    injection he with q1 q2 _
    subst q1 q2
    rw [getD_of hx]
    exact (hW.cell (p := ⟨b3, o3 + k, none⟩) (show b3 < w.heap.size by omega)).trans r0
  have hVno : Hid (∀ k, k < vs.length → inB (vs.getD k 0) 0 23 = false → ∀ w', Below w.heap.size w w' → IdlePost xs ms vs w (.returned (.tuple #[.int .i64 0, .bool false])) w') := Lib.hid fun k hk hf => hNo.out (can_no4 (allIn_no (List.getElem?_eq_getElem hk) (by rw [← getD_of (List.getElem?_eq_getElem hk)]; exact hf)))
  have hCan : Hid ((∀ k, k < vs.length → inB (vs.getD k 0) 0 23 = true) → idleCan xs ms vs = true) := Lib.hid fun hp => by
    unfold idleCan
    rw [e1, e2, decide_eq_true e3]
    simp only [Bool.true_and]
    refine List.all_eq_true.2 fun x hx => ?_
    obtain ⟨k, hk⟩ := List.mem_iff_getElem?.1 hx
    have := hp k (List.getElem?_eq_some_iff.1 hk).1
    rw [getD_of hk] at this
    exact this
  have hOn : Hid (∀ k, idleCan xs ms vs = true → k ≤ xs.length → idleOk (vehAt xs vs) (fun a b => folT ms (trAt xs a) (trAt xs b)) k = false → ∀ w', Below w.heap.size w w' → IdlePost xs ms vs w (.returned (.tuple #[.int .i64 0, .bool false])) w') := Lib.hid fun k hcan hk hf => hNo.out (by unfold idleYes; rw [hcan, idleOk_no hf hk]; rfl)
  have hYe : Hid (idleCan xs ms vs = true → idleOk (vehAt xs vs) (fun a b => folT ms (trAt xs a) (trAt xs b)) xs.length = true → ∀ w', Below w.heap.size w w' → IdlePost xs ms vs w (.returned (.tuple #[.int .i64 (idleSum (vehAt xs vs) (fun a b => moveOf ms (trAt xs a) (trAt xs b)) xs.length), .bool true])) w') := Lib.hid fun hcan hf w' hb => idle_yes (by unfold idleYes; rw [hcan, hf]; rfl) hb
  have hFol : Hid (∀ a b W, Below w.heap.size w W → a < xs.length → b < xs.length → Calls Try.prog 14 #[.slice (some ⟨b1, o1, none⟩) xs.length cap1, .slice (some ⟨b2, o2, none⟩) ms.length cap2, .int .i64 (startF xs a : Nat), .int .i64 (startF xs b : Nat)] W (Ret (.bool (folT ms (trAt xs a) (trAt xs b))) W)) := Lib.hid fun a b W hW ha hb => by
    have ga := (start_low xs a ha).2
    have gb := (start_low xs b hb).2
    have := l06Follows_any B (some ⟨b1, o1, none⟩) (some ⟨b2, o2, none⟩) cap1 cap2 xs ms (startF xs a) (startF xs b) _ _ W (h1'.out.below hW hB) (h2'.out.below hW hB) (List.getElem?_eq_getElem ga) (List.getElem?_eq_getElem gb) e1 e2
    rw [← getTr_of (List.getElem?_eq_getElem ga), ← getTr_of (List.getElem?_eq_getElem gb)] at this
    exact this
  have hOk : Hid (∀ k, k < xs.length → (0 ≤ (xs.getD k default).From ∧ (xs.getD k default).From ≤ 7) ∧ (0 ≤ (xs.getD k default).To ∧ (xs.getD k default).To ≤ 7)) := Lib.hid fun k hk => by
    have hx := List.getElem?_eq_getElem hk
    have := okTrip_of (hok k _ hx)
    rw [getTr_of hx]
    exact ⟨this.2.2.2.1, this.2.2.2.2⟩
  have hMb : Hid (∀ a b, a < xs.length → b < xs.length → 0 ≤ moveOf ms (trAt xs a) (trAt xs b) ∧ moveOf ms (trAt xs a) (trAt xs b) ≤ 1000) := Lib.hid fun a b ha hb => by
    have ga := (start_low xs a ha).2
    have gb := (start_low xs b hb).2
    exact move_in e2 (hOk.out _ ga).2 (hOk.out _ gb).1
  have hLow := Lib.hid (start_low xs)
  have hSb : Hid (∀ k, k ≤ xs.length → 0 ≤ idleSum (vehAt xs vs) (fun a b => moveOf ms (trAt xs a) (trAt xs b)) k ∧ idleSum (vehAt xs vs) (fun a b => moveOf ms (trAt xs a) (trAt xs b)) k ≤ 1000 * k) := Lib.hid (idleSum_in hMb.out)
  have hVb : Hid (∀ k, k < xs.length → vehAt xs vs k = vs.getD (startF xs k) 0) := Lib.hid fun k _ => rfl
  have hMv2 : Hid (∀ a b, moveOf ms (trAt xs a) (trAt xs b) = ms.getD ((xs.getD (startF xs a) default).To * 8 + (xs.getD (startF xs b) default).From).toNat 0) := Lib.hid fun a b => rfl
  -- the sorted beginning
  have hLt : Hid (∀ x y : Nat, x < y → ltK (startK xs) (y : Int) (x : Int) = decide ((xs.getD y default).Start < (xs.getD x default).Start)) := Lib.hid fun x y h => by
    rw [ltK_later _ (by omega)]
    unfold startK
    rw [Int.toNat_natCast, Int.toNat_natCast]
  have hFx : Hid (∀ i, Srt.insTo (ltK (startK xs)) i i = (i : Int) ∧ ∀ k, k < i → ∃ q : Nat, q < i ∧ Srt.insTo (ltK (startK xs)) i k = (q : Int)) := Lib.hid fun i => by
    have hr := (Srt.sorted_to (totK xs.length (startK xs)) i).1
    refine ⟨hr.out i (.inr (Nat.le_refl _)), fun k hk => ?_⟩
    obtain ⟨l, _, l2, e⟩ := hr.from' k (Nat.zero_le _) hk
    exact ⟨l, l2, e⟩
  have hNext : Hid (∀ i, Srt.insTo (ltK (startK xs)) (i + 1) = toLeft (Srt.insTo (ltK (startK xs)) i) i (Srt.insC (ltK (startK xs)) (Srt.insTo (ltK (startK xs)) i) i i)) := Lib.hid fun i => rfl
  have hEq := Lib.hid e3
  obtain ⟨i0, hi, hz0, hz1, hz2⟩ := info_parts infoI
  generalize hQ : IdlePost xs ms vs w = Q at *
  generalize hlt : ltK (startK xs) = lt at *
  generalize hOkF : idleOk (vehAt xs vs) (fun a b => folT ms (trAt xs a) (trAt xs b)) = okF at *
  have hOkS : Hid (∀ b, okF (b + 1) = (okF b && (decide (prevTo (vehAt xs vs) (vehAt xs vs b) b < 0) || folT ms (trAt xs (prevTo (vehAt xs vs) (vehAt xs vs b) b).toNat) (trAt xs b)))) := Lib.hid fun b => by rw [← hOkF]; rfl
  have hOk0 : Hid (okF 0 = true) := Lib.hid (by rw [← hOkF]; rfl)
  generalize hSuF : idleSum (vehAt xs vs) (fun a b => moveOf ms (trAt xs a) (trAt xs b)) = suF at *
  have hSuS : Hid (∀ b, suF (b + 1) = suF b + if prevTo (vehAt xs vs) (vehAt xs vs b) b < 0 then 0 else moveOf ms (trAt xs (prevTo (vehAt xs vs) (vehAt xs vs b) b).toNat) (trAt xs b)) := Lib.hid fun b => by rw [← hSuF]; rfl
  have hSu0 : Hid (suF 0 = 0) := Lib.hid (by rw [← hSuF]; rfl)
  clear hQ hlt hc hc2 hc3 e1 e2 e3 hok hOkF hSuF hNo h1' h2'
  rw [hl64] at hl2 hM hMv hFol
  generalize hvn : vs.length = nv at *
  obtain rfl : nv = xs.length := hEq.out
  generalize hnn : xs.length = n at *
  unfold maxLen at hl hl2 hl3
  clear hEq hvn hnn
  go_enter Try.func5, Try.ntmps5
  go_wp2_with (first | (go_at_call 11; (with_reducible refine (hA.out).mono ?_); rintro e w1 ⟨rfl, hb1⟩; have hB1 := Lib.hid hb1; clear hb1) | (go_at_call 12; (with_reducible refine (hMv.out w1 hB1.out).mono ?_); rintro e w2 ⟨j2, rfl, rfl⟩; have hB2 := Lib.hid (Lst.Below.drewN hB1.out j2); generalize w1.drewN j2 = w2 at *))
  have hO0 := Lib.hid (show (w2.alloc (Obj.cells #[] 2)).ownsRow w2.heap.size 2 1 (.slice (some ⟨w2.heap.size, 0, none⟩) 0 0) 0 (cellsF 0 (Srt.insTo lt 0)) from World.ownsRow_lit w2 #[] 0 (Nat.le_refl _) (Nat.zero_le _) rfl)
  have hB0 := Lib.hid (below_alloc (Below.refl w2.heap.size w2) (.cells #[] 2))
  have hW2 := Lib.hid hB2.out.size
  clear hMv hA hB1
  go_loopw [8, 9] (fun ov iv wr => ∃ i : Nat, i ≤ n ∧ iv = .int .i64 i ∧ Hid (∀ k, k < i → inB (vs.getD k 0) 0 23 = true) ∧ Hid (wr.ownsRow w2.heap.size 2 1 ov i (cellsF i (Srt.insTo lt i))) ∧ Hid (Below w2.heap.size w2 wr)) (fun _ iv _ => n - (intOf iv).toNat)
  case atStart => exact ⟨0, Nat.zero_le _, rfl, Lib.hid (fun k hk => by omega), hO0, hB0⟩
  case round =>
    clear hO0 hB0
    obtain ⟨i, hi24, rfl, hP, hO, hBw⟩ := hrel
    have hBg := Lib.hid (hB2.out.trans (hBw.out.mono hW2.out))
    by_cases hlt : i < n
    · have hd : (i : Int) < (n : Int) := by omega
      have hsz := Lib.hid hBw.out.size
      have cv := hV.out wr i hBg.out hlt
      cases hq : inB (vs.getD i 0) 0 23
      · have hR := Lib.hid (hVno.out i hlt hq wr hBg.out)
        generalize vs.getD i 0 = vi at *
        go_wp2_with (go_at_call 13; refine (l00In_is _ _ _ ‹_› _).mono ?_; rintro e w' ⟨rfl, rfl⟩)
        first | exact hR.out | (go_ret2; exact hR.out)
      have hP2 : Hid (∀ k, k < i + 1 → inB (vs.getD k 0) 0 23 = true) := Lib.hid fun k hk => by
        by_cases h1 : k < i
        · exact hP.out k h1
        · rw [show k = i by omega]; exact hq
      generalize vs.getD i 0 = vi at *
      go_wp2_with (first | (go_at_call 13; refine (l00In_is _ _ _ ‹_› _).mono ?_; rintro e w' ⟨rfl, rfl⟩) | (at_builtin; refine wpList_append_own _ rfl _ _ _ rfl w2.heap.size 2 i0 (.int .i64 0) 1 8 Try.underlying23 hi hz0 hz1 hz2 rfl (by decide) _ i _ rfl (hO.out.alloc _) ⟨wr.heap.size, 0, none⟩ 1 1 [.int .i64 (i : Int)] rfl rfl (news1 wr _ _) (one_int _) (by unfold maxLen; omega) (by omega) (by rw [World.size_alloc]; have := hsz.out; omega) ?_; intro v8 w8 hown8 hgrow8 hnil8; have hB8 := Lib.hid ((hBw.out.alloc hsz.out (.cells #[.int .i64 (i : Int)] 2)).grown hgrow8 (by rw [World.size_alloc]; have := hsz.out; omega) (fun g hg => (hO.out.lt g hg).1)); have hO8 := Lib.hid (show w8.ownsRow w2.heap.size 2 1 v8 (i + 1) (cellsF (i + 1) (Srt.insTo lt i)) by rw [cellsF_snoc, (hFx.out i).1]; exact hown8); clear hown8 hgrow8 hnil8))
      obtain ⟨g, c, rfl, hg1, hg2, hc1, hc2⟩ := row_openL hO8.out (by omega)
      unfold maxLen at hc2
      have hGe := Lib.hid hg1
      have hR8 := Lib.hid (show Row w2.heap.size g (i + 1) c w8 w8 (toLeft (Srt.insTo lt i) i i) from ⟨by rw [toLeft_zero]; exact hO8.out, grown_refl _ _⟩)
      clear hg2 cv
      go_loopw [10] (fun kv wk => ∃ k : Nat, k ≤ i ∧ kv = .int .i64 k ∧ Hid (Srt.insC lt (Srt.insTo lt i) i k = Srt.insC lt (Srt.insTo lt i) i i) ∧ Hid (Row w2.heap.size g (i + 1) c w8 wk (toLeft (Srt.insTo lt i) i k))) (fun kv _ => (intOf kv).toNat)
      case atStart => exact ⟨i, Nat.le_refl _, rfl, Lib.hid rfl, hR8⟩
      case round =>
        clear hR8
        obtain ⟨k, hki, rfl, hI, hRk⟩ := hrel
        have hBk := Lib.hid (hB8.out.grown hRk.out.kept hB8.out.size (fun q e => by injection e with e; rw [← e]; exact hGe.out))
        have hBh := Lib.hid (hB2.out.trans (hBk.out.mono hW2.out))
        by_cases hk0 : 0 < k
        · obtain ⟨f0, fl⟩ := hFx.out i
          obtain ⟨q, hq, hfq⟩ := fl (k - 1) (by omega)
          have c1 := hRk.out.cell (k := k) (by omega)
          have c2 := hRk.out.cell (k := k - 1) (by omega)
          have f1 := hRk.out.frozen k
          have f2 := hRk.out.frozen (k - 1)
          have v1 : toLeft (Srt.insTo lt i) i k k = (i : Int) := by unfold toLeft; rw [if_pos rfl]; exact f0
          have v2 : toLeft (Srt.insTo lt i) i k (k - 1) = (q : Int) := by unfold toLeft; rw [if_neg (by omega), if_neg (by omega)]; exact hfq
          rw [v1] at c1
          rw [v2] at c2
          have t1 := (hT.out wr i hBh.out (by omega)).1
          have t2 := (hT.out wr q hBh.out (by omega)).1
          have hLq := hLt.out q i hq
          have hRm := Lib.hid (fun dm => hRk.out.drewN dm)
          have hS := Lib.hid (fun dm => (by
            have h2 := (hRk.out.drewN dm).set k (toLeft (Srt.insTo lt i) i k (k - 1))
            have h3 := h2.set (k - 1) (toLeft (Srt.insTo lt i) i k k)
            rw [swap_upd] at h3
            have h4 := toLeft_step (Srt.insTo lt i) i (k - 1) (by omega)
            rw [show k - 1 + 1 = k by omega] at h4
            rw [h4, v1, v2] at h3
            exact h3 : Row w2.heap.size g (i + 1) c w8 (((wr.drewN dm).setCell ⟨g, k, none⟩ (.int .i64 (q : Int))).setCell ⟨g, k - 1, none⟩ (.int .i64 (i : Int))) (toLeft (Srt.insTo lt i) i (k - 1))))
          have hIn : Hid (Srt.insC lt (Srt.insTo lt i) i k = if lt (i : Int) (q : Int) then Srt.insC lt (Srt.insTo lt i) i (k - 1) else k) := Lib.hid (by
            obtain ⟨k', rfl⟩ : ∃ k', k = k' + 1 := ⟨k - 1, by omega⟩
            show (if lt (Srt.insTo lt i i) (Srt.insTo lt i k') then _ else _) = _
            rw [f0, show Srt.insTo lt i k' = (q : Int) from hfq]; rfl)
          rw [hLq] at hIn
          clear f0 fl hfq v1 v2 hLq
          generalize (xs.getD i default).Start = ti at *
          generalize (xs.getD q default).Start = tq at *
          have l1 : (i : Int) < (n : Int) := by omega
          have l2 : (q : Int) < (n : Int) := by omega
          have l3 : (k : Int) < ((i + 1 : Nat) : Int) := by omega
          have l4 : (k : Int) - 1 < ((i + 1 : Nat) : Int) := by omega
          have z1 : (0 : Int) ≤ (k : Int) - 1 := by omega
          have t3 : ((k : Int) - 1).toNat = k - 1 := by omega
          have hwk : IntKind.i64.wrap ((k : Int) - 1) = (k : Int) - 1 := IntWalk.i64_in _ (by omega)
          have hdk : (0 : Int) < (k : Int) := by omega
          have hdk2 : decide ((0 : Int) < (k : Int)) = true := decide_eq_true hdk
          generalize hi1 : i + 1 = i1 at *
          by_cases hgt : ti < tq
          · have hg1' : decide (ti < tq) = true := decide_eq_true hgt
            have hI2 := Lib.hid (show Srt.insC lt (Srt.insTo lt i) i (k - 1) = Srt.insC lt (Srt.insTo lt i) i i by
              have := hIn.out
              rw [hg1', if_pos rfl] at this
              rw [← this]; exact hI.out)
            have hK1 := Lib.hid (show k - 1 < i1 ∧ k < i1 by omega)
            have hi2 := Lib.hid hi1
            clear hI hIn hi1
            go_wp2_with fail
            go_quiet (fail)
            go_wp2_with fail
            go_roundw
            case rel => exact ⟨k - 1, by omega, by go_num, hI2, Lib.hid (hS.out _)⟩
            case measure => simp [intOf]; omega
          · have hg1' : decide (ti < tq) = false := decide_eq_false hgt
            have hfin := Lib.hid (show toLeft (Srt.insTo lt i) i k = Srt.insTo lt i1 by
              rw [← hi1, hNext.out i]
              have := hIn.out
              rw [hg1', if_neg (by simp)] at this
              rw [← hI.out, this])
            have hi2 := Lib.hid hi1
            clear hI hIn hi1
            go_wp2_with fail
            go_quiet (fail)
            go_wp2_with fail
            go_roundw
            case rel => exact ⟨i1, by have := hi2.out; omega, by have := hi2.out; go_num, hP2, Lib.hid (by rw [← hfin.out]; exact (hRm.out _).own), Lib.hid (below_drewN hBk.out _)⟩
            case measure => simp [intOf]; have := hi2.out; omega
        · obtain rfl : k = 0 := by omega
          have hfin := Lib.hid (show toLeft (Srt.insTo lt i) i 0 = Srt.insTo lt (i + 1) by
            rw [hNext.out i, ← hI.out]; rfl)
          have hdk2 : decide ((0 : Int) < ((0 : Nat) : Int)) = false := by decide
          have hRm := Lib.hid (fun dm => hRk.out.drewN dm)
          go_wp2_with fail
          go_quiet (fail)
          go_wp2_with fail
          go_roundw
          case rel => exact ⟨i + 1, by omega, by go_num, hP2, Lib.hid (by rw [← hfin.out]; exact (hRm.out _).own), Lib.hid (below_drewN hBk.out _)⟩
          case measure => simp [intOf]; omega
    · obtain rfl : n = i := by omega
      have hcan := hCan.out hP.out
      have hOn2 := Lib.hid (fun k hk hf w' hb => hOn.out k hcan hk hf w' hb)
      have hYe2 := Lib.hid (fun hf w' hb => hYe.out hcan hf w' hb)
      obtain ⟨g, c, rfl, hg1, hg2, hc1, hc2⟩ := row_openL hO.out n1
      unfold maxLen at hc2
      have hR0 := Lib.hid (show Row w2.heap.size g n c wr wr (Srt.insTo lt n) from ⟨hO.out, grown_refl _ _⟩)
      have hb0 := Lib.hid (show prevTo (vehAt xs vs) (vehAt xs vs 0) 0 < 0 by simp [prevTo])
      have hOk1 := Lib.hid (show okF 1 = true by rw [hOkS.out 0, hOk0.out, decide_eq_true hb0.out]; rfl)
      have hSu1 := Lib.hid (show suF 1 = 0 by rw [hSuS.out 0, hSu0.out, if_pos hb0.out]; rfl)
      have hBw1 := Lib.hid hBw.out
      clear hP hO hBw hVno hCan hOn hYe hFx hNext hLt hBg hcan hOk0 hSu0 hb0
      generalize wr = wr0 at *
      go_wp2_with fail
      go_loopw [12, 13] (fun sv bv wq => ∃ b : Nat, 1 ≤ b ∧ b ≤ n ∧ bv = .int .i64 b ∧ sv = .int .i64 (suF b) ∧ Hid (okF b = true) ∧ Hid (Row w2.heap.size g n c wr0 wq (Srt.insTo lt n)) ∧ Hid (Below w2.heap.size w2 wq)) (fun _ bv _ => n - (intOf bv).toNat)
      case atStart => exact ⟨1, Nat.le_refl _, n1, by first | rfl | go_num, by rw [hSu1.out], hOk1, hR0, hBw1⟩
      case round =>
        clear hR0 hBw1 hOk1 hSu1
        obtain ⟨b, hb1, hbn, rfl, rfl, hOb, hRq, hBq⟩ := hrel
        have hSb1 := hSb.out b hbn
        by_cases hlt : b < n
        · have hd : (b : Int) < (n : Int) := by omega
          have hgb := (hLow.out b hlt).2
          have hwb : IntKind.i64.wrap ((b : Int) - 1) = (b : Int) - 1 := IntWalk.i64_in _ (by omega)
          go_wp2_with fail
          go_loopw [14] (fun av wp => ∃ p : Nat, p ≤ b ∧ av = .int .i64 ((p : Int) - 1) ∧ Hid (prevTo (vehAt xs vs) (vehAt xs vs b) p = prevTo (vehAt xs vs) (vehAt xs vs b) b) ∧ Hid (Row w2.heap.size g n c wr0 wp (Srt.insTo lt n)) ∧ Hid (Below w2.heap.size w2 wp)) (fun av _ => (intOf av + 1).toNat)
          case atStart => exact ⟨b, Nat.le_refl _, by first | rfl | go_num, Lib.hid rfl, hRq, hBq⟩
          case round =>
            clear hRq hBq
            obtain ⟨p, hpb, rfl, hI, hRq, hBq⟩ := hrel
            by_cases hp0 : p = 0
            · subst hp0
              have hneg := Lib.hid (show prevTo (vehAt xs vs) (vehAt xs vs b) b < 0 by rw [← hI.out]; simp [prevTo])
              have hS2 := Lib.hid (show suF (b + 1) = suF b by rw [hSuS.out b, if_pos hneg.out]; omega)
              have hO2 := Lib.hid (show okF (b + 1) = true by rw [hOkS.out b, hOb.out, decide_eq_true hneg.out]; rfl)
              have hRm := Lib.hid (fun dm => hRq.out.drewN dm)
              go_wp2_with fail
              go_quiet (fail)
              go_wp2_with fail
              go_roundw
              case rel => exact ⟨b + 1, by omega, by omega, by go_num, by rw [hS2.out], hO2, Lib.hid (hRm.out _), Lib.hid (below_drewN hBq.out _)⟩
              case measure => simp [intOf]; omega
            · obtain ⟨k, rfl⟩ : ∃ k, p = k + 1 := ⟨p - 1, by omega⟩
              have ek : ((k + 1 : Nat) : Int) - 1 = (k : Int) := by omega
              rw [ek]
              obtain ⟨lk1, lk2⟩ := hLow.out k (by omega)
              obtain ⟨lb1, lb2⟩ := hLow.out b hlt
              have hBh := Lib.hid (hB2.out.trans (hBq.out.mono hW2.out))
              have c1 := hRq.out.cell (k := k) (by omega)
              have c2 := hRq.out.cell (k := b) hlt
              rw [lk1] at c1
              rw [lb1] at c2
              have t1 := hV.out wr (startF xs k) hBh.out lk2
              have t2 := hV.out wr (startF xs b) hBh.out lb2
              have hPk : prevTo (vehAt xs vs) (vehAt xs vs b) (k + 1) = if vs.getD (startF xs k) 0 = vehAt xs vs b then (k : Int) else prevTo (vehAt xs vs) (vehAt xs vs b) k := rfl
              have hI0 := hI.out
              rw [hPk] at hI0
              have hvb : vehAt xs vs b = vs.getD (startF xs b) 0 := rfl
              have hFq := Lib.hid (fun dm => hFol.out k b (wr.drewN dm) (below_drewN hBh.out dm) (by omega) hlt)
              have m1 := (hT.out wr (startF xs k) hBh.out lk2).2.2
              have m2 := (hT.out wr (startF xs b) hBh.out lb2).2.1
              obtain ⟨_, u1, u2⟩ := hOk.out _ lk2
              obtain ⟨⟨u3, u4⟩, _⟩ := hOk.out _ lb2
              have hMo : moveOf ms (trAt xs k) (trAt xs b) = ms.getD ((xs.getD (startF xs k) default).To * 8 + (xs.getD (startF xs b) default).From).toNat 0 := rfl
              have hMx := hMb.out k b (by omega) hlt
              have hSk := hSuS.out b
              have hOk2 := hOkS.out b
              rw [hOb.out, Bool.true_and] at hOk2
              obtain ⟨tI, htI⟩ : ∃ t : Nat, (xs.getD (startF xs k) default).To = t := ⟨_, (Int.toNat_of_nonneg u1).symm⟩
              obtain ⟨fI, hfI⟩ : ∃ t : Nat, (xs.getD (startF xs b) default).From = t := ⟨_, (Int.toNat_of_nonneg u3).symm⟩
              rw [htI] at m1 u1 u2 hMo
              rw [hfI] at m2 u3 u4 hMo
              rw [show ((tI : Int) * 8 + (fI : Int)).toNat = tI * 8 + fI by omega] at hMo
              have m3 := hM.out wr (tI * 8 + fI) hBh.out (by omega)
              rw [← hMo] at m3
              rw [← Nat.add_assoc] at m3
              have hVV := Lib.hid hvb
              have hRm := Lib.hid (fun dm => hRq.out.drewN dm)
              have hwk : IntKind.i64.wrap ((k : Int) - 1) = (k : Int) - 1 := IntWalk.i64_in _ (by omega)
              have lq1 : (startF xs k : Int) < (n : Int) := by omega
              have lq2 : (startF xs b : Int) < (n : Int) := by omega
              have lq3 : (k : Int) < (n : Int) := by omega
              have ge1 : decide ((0 : Int) ≤ (k : Int)) = true := decide_eq_true (by omega)
              have ge2 : ¬ (k : Int) < 0 := by omega
              rw [hvb] at hI0
              clear hPk hvb htI hfI hMo lk1 lb1
              generalize startF xs k = fa at *
              generalize startF xs b = fb at *
              generalize vs.getD fa 0 = va at *
              generalize vs.getD fb 0 = vb at *
              by_cases hv : va = vb
              · rw [if_pos hv] at hI0
                have hPv := Lib.hid hI0
                have hvd : (va != vb) = false := by rw [hv]; simp
                have hvd2 : (va == vb) = true := by rw [hv]; simp
                have hOk3 : okF (b + 1) = folT ms (trAt xs k) (trAt xs b) := by
                  rw [hOk2, hVV.out, ← hI0, decide_eq_false (by omega), Bool.false_or, Int.toNat_natCast]
                have hSk3 : suF (b + 1) = suF b + moveOf ms (trAt xs k) (trAt xs b) := by
                  rw [hSk, hVV.out, ← hI0, if_neg (by omega), Int.toNat_natCast]
                clear hSk hOk2 hI0
                subst hv
                generalize folT ms (trAt xs k) (trAt xs b) = q at *
                generalize moveOf ms (trAt xs k) (trAt xs b) = mv at *
                cases q
                · have hR := Lib.hid (hOn2.out (b + 1) (by omega) hOk3)
                  clear hOk3 hSk3
                  go_wp2_with fail
                  go_quiet (fail)
                  go_wp2_with fail
                  go_quiet ((go_at_call 14; exact ret_quiet_at hFq.out _ _))
                  go_wp2_with fail
                  first | exact hR.out _ (Lst.Below.drewN (Lst.Below.drewN hBh.out _) _) | (go_ret2; exact hR.out _ (Lst.Below.drewN (Lst.Below.drewN hBh.out _) _))
                · have hO2 := Lib.hid hOk3
                  have hS2 := Lib.hid hSk3
                  have w1 : IntKind.i64.wrap ((tI : Int) * 8) = ((tI * 8 : Nat) : Int) := by rw [IntWalk.i64_in _ (by omega)]; omega
                  have w2' : IntKind.i64.wrap (((tI * 8 : Nat) : Int) + (fI : Int)) = ((tI * 8 + fI : Nat) : Int) := by rw [IntWalk.i64_in _ (by omega)]; omega
                  have w3 : IntKind.i64.wrap (suF b + mv) = suF b + mv := IntWalk.i64_in _ (by omega)
                  have lq4 : ((tI * 8 + fI : Nat) : Int) < 64 := by omega
                  clear hOk3 hSk3
                  rw [Nat.add_assoc] at m3
                  generalize hid8 : tI * 8 = t8 at *
                  generalize hix : t8 + fI = ix at *
                  clear hid8 hix
                  go_wp2_with fail
                  go_quiet (fail)
                  go_wp2_with fail
                  go_quiet ((go_at_call 14; exact ret_quiet_at hFq.out _ _))
                  go_wp2_with fail
                  go_quiet (fail)
                  go_wp2_with fail
                  go_roundw
                  case rel => exact ⟨b + 1, by omega, by omega, by go_num, by rw [hS2.out], hO2, Lib.hid (hRm.out _), Lib.hid (below_drewN hBq.out _)⟩
                  case measure => simp [intOf]; omega
              · rw [if_neg hv] at hI0
                have hI2 := Lib.hid (show prevTo (vehAt xs vs) (vehAt xs vs b) k = prevTo (vehAt xs vs) (vehAt xs vs b) b by rw [hVV.out]; exact hI0)
                have hvd : (va != vb) = true := by rw [bne_iff_ne]; exact hv
                have hvd2 : (va == vb) = false := by rw [beq_eq_false_iff_ne]; exact hv
                clear hI0 hSk hOk2
                go_wp2_with fail
                go_quiet (fail)
                go_wp2_with fail
                go_roundw
                case rel => exact ⟨k, by omega, by first | rfl | go_num, hI2, Lib.hid (hRm.out _), Lib.hid (below_drewN hBq.out _)⟩
                case measure => (simp [intOf] <;> omega)
        · obtain rfl : n = b := by omega
          have hR := Lib.hid (hYe2.out hOb.out wr (hB2.out.trans (hBq.out.mono hW2.out)))
          go_wp2_with fail
          first | exact hR.out | (go_ret2; exact hR.out)
end Go.Proofs.Ytmnogipmpojoaaa
