/- A longest way through tasks: the program's walk. No condition. -/
import Derived.Test.YtfnpbhplnlfnmaaWayImpl
namespace Go.Proofs.Ytfnpbhplnlfnmaa
open Go.RowKit Go.Lst Srt

def endF (xs : List TaskD) (k : Nat) : Int := (early xs).getD k 0 + (xs.getD k default).Time
def atI (w : World) (g : Nat) : Nat := match w.cell? ⟨g, 0, none⟩ with
  | some (.int _ x) => x.toNat
  | _ => 0
set_option maxHeartbeats 8000000 in
set_option maxRecDepth 100000 in
theorem implWay_any (B : Nat) (v : Value) (xs : List TaskD) (w : World) (h : LstTask B w v xs) (hB : B ≤ w.heap.size) : Calls Try.prog 8 #[v] w (ListPost (wayRes xs) (areTasks xs) w) := by
  have hA := Lib.hid (implEarlyStarts_any B v xs w h hB)
  have hL := Lib.hid h
  obtain ⟨a, cap, rfl, hl, _⟩ := h
  obtain ⟨i0, hi, hz0, hz1, hz2⟩ := info_parts infoI
  cases hq : areTasks xs
  · have hP := Lib.hid (fun w' hb => list_no (w := w) (w' := w') hq (wayRes_no hq) hb)
    have hQ := Lib.hid (fun w' e hp => earlyPost_no (w := w) (w' := w') (e := e) hq hp)
    rw [hq] at hP
    generalize ListPost (wayRes xs) _ w = POST at *
    clear hq
    go_enter Try.func8, Try.ntmps8
    go_wp2_with fail
    refine (hA.out).mono ?_
    intro e w1 hp
    rcases hQ.out _ _ hp with ⟨rfl, hb1⟩ | ⟨v1, rfl, ⟨a1, n1, c1, rfl⟩, hb1⟩
    · have hB1 := Lib.hid (hb1.alloc hb1.size (.cells #[.slice none 0 0] 24))
      clear hb1 hp
      go_wp2_with fail
      first | exact hP.out _ hB1.out | (go_ret2; exact hP.out _ hB1.out)
    · have hB1 := Lib.hid (hb1.alloc hb1.size (.cells #[.slice a1 n1 c1] 24))
      clear hb1 hp
      go_wp2_with fail
      first | exact hP.out _ hB1.out | (go_ret2; exact hP.out _ hB1.out)
  · have hFt := Lib.hid (areTasks_fit hq)
    have hP : Hid (∀ (w' : World) (v : Value), Own w.heap.size w'.heap.size w' v 2 1 (wayL xs).length ((wayL xs).map (Value.int .i64)) → Below w.heap.size w w' → ListPost (wayRes xs) true w (.returned (.tuple #[v, .bool true])) w') := Lib.hid fun w' v ho hb => ⟨v, rfl, by rw [wayRes_yes hq]; exact ho, hb⟩
    have hQ := Lib.hid (fun w' e hp => earlyPost_yes (w := w) (w' := w') (e := e) hq hp)
    have n1 : 1 ≤ xs.length := (areTasks_iff.1 hq).some_
    have hm : xs.length ≤ 16 := hFt.out.most
    generalize ListPost (wayRes xs) true w = POST at *
    clear hq
    have hEn := Lib.hid (early_length xs)
    have hBe := Lib.hid (early_bound hFt.out)
    have hEb := endOf_bound hFt.out
    have hWl := wayAt_lt hFt.out n1
    have hFst := Lib.hid (fstP_is (endsP xs) xs.length)
    have hW0 : Hid (wayR xs xs.length (wayAt xs) [(wayAt xs : Int)] = wayL xs) := Lib.hid rfl
    unfold maxLen at hl
    go_enter Try.func8, Try.ntmps8
    go_wp2_with fail
    refine (hA.out).mono ?_
    intro e w1 hp
    obtain ⟨v1, rfl, ho1, hb1⟩ := hQ.out _ _ hp
    have hB1 := Lib.hid hb1
    have hO1 := Lib.hid ho1
    obtain ⟨a1, c1, rfl⟩ := own_slice_n ho1
    clear ho1 hb1 hp
    rw [early_length]
    have hLT := Lib.hid (hL.out.below hB1.out hB)
    have hLs := Lib.hid (show LstI w1.heap.size w1 (.slice a1 xs.length c1) (early xs) by have := hO1.out; rw [early_length] at this; rw [← early_length xs] at this ⊢; exact this.lstI (Nat.le_refl _))
    have hBW := Nat.le_trans hB hB1.out.size
    have hB2 := Lib.hid ((Below.refl w1.heap.size w1).alloc (Nat.le_refl _) (.cells #[.slice a1 xs.length c1] 24))
    have hX4 := Lib.hid (Whole.made w1 24 #[.slice a1 xs.length c1] (b := w1.heap.size) rfl)
    generalize hw1a : w1.alloc (.cells #[.slice a1 xs.length c1] 24) = w1a at *
    have hsz1 := Lib.hid (show w1a.heap.size = w1.heap.size + 1 by rw [← hw1a]; simp)
    have hW1a := Lib.hid hw1a
    clear hw1a
    have hnn : xs.length = xs.length := rfl
    generalize hn : xs.length = n at *
    have hN := Lib.hid hn
    clear hn hnn
    go_wp2_with (at_make; rw [hW1a.out]; refine wpList_make_full _ rfl _ _ _ rfl w1a.heap.size _ i0 (.int .i64 0) 1 Try.underlying24 hi hz0 hz1 _ _ _ _ n rfl rfl rfl rfl ?c1 ?c2 ?c3 ?_)
    case c1 => first | (rw [hz2]; omega) | omega
    case c2 => unfold maxLen; omega
    try case c3 => exact Nat.le_refl _
    intro w2 hown0 hg0
    have hB3 := Lib.hid (hB2.out.grown hg0 hB2.out.size (fun k hk => by cases hk))
    have hs2 : w1a.heap.size < w2.heap.size := (hown0.lt _ rfl).2
    have hX4a := Lib.hid (hX4.out.kept ((Below.refl _ _).grown hg0 (Nat.le_refl _) (fun k hk => by cases hk)))
    have hO := Lib.hid (show w2.ownsRow w1a.heap.size 2 1 (.slice (some ⟨w1a.heap.size, 0, none⟩) n n) n ((fillTo (List.replicate n 0) (endF xs) 0).map (Value.int .i64)) from zeros_own' hown0)
    clear hown0 hg0 hX4
    have hLC : Hid (∀ (wr : World) (k : Nat) (x : TaskD), Below w1.heap.size w1 wr → xs[k]? = some x → _) := Lib.hid fun wr k x (hb : Below w1.heap.size w1 wr) (hx : xs[k]? = some x) => least_cells ((hLT.out.mono hBW).below hb (Nat.le_refl _)) ((show LstI w1.heap.size w1 (.slice a1 n c1) (early xs) from hLs.out).below hb (Nat.le_refl _)) hFt.out hx (by rw [hEn.out, hN.out]; exact Nat.le_refl _) (hBe.out.mono (by omega) (by omega))
    have hRE : Hid (∀ (wr : World), Below w1.heap.size w1 wr → ∀ k, k < n → ∃ b o, a1 = some ⟨b, o, none⟩ ∧ wr.cell? ⟨b, o + k, none⟩ = some (.int .i64 ((early xs).getD k 0))) := Lib.hid fun wr hb k hk => by
      obtain ⟨a', c', hv, _, _, _, hc⟩ := ((show LstI w1.heap.size w1 (.slice a1 n c1) (early xs) from hLs.out).below hb (Nat.le_refl _)).at_
      injection hv with q1 q2 q3
      subst q1
      obtain ⟨b', o', x', he, _, hx', hcell⟩ := hc k (by rw [hEn.out]; exact hk)
      exact ⟨b', o', he, by rw [getD_some hx']; exact hcell⟩
    have hTm : Hid (∀ (wr : World), Below w1.heap.size w1 wr → ∀ k, k < n → ∃ b o, a = some ⟨b, o, none⟩ ∧ wr.cell? ⟨b, o + k * 4, none⟩ = some (.int .i64 (xs.getD k default).Time) ∧ wr.cell? ⟨b, o + k * 4 + 1, none⟩ = some (.int .i64 (xs.getD k default).Needs) ∧ 0 ≤ (xs.getD k default).Time ∧ (xs.getD k default).Time ≤ 1000) := Lib.hid fun wr hb k hk => by
      obtain ⟨a', c', hv, _, _, _, hc⟩ := ((hLT.out.mono hBW).below hb (Nat.le_refl _)).at_
      injection hv with q1 q2 q3
      subst q1
      obtain ⟨b', o', x', vb, vl, he, _, hx', r0, r1, _⟩ := hc k (by first | exact hk | (rw [hN.out]; exact hk))
      rw [getD_some hx']
      exact ⟨b', o', he, r0, r1, hFt.out.time k _ hx'⟩
    have hX4b := Lib.hid (hX4a.out.more (.cells #[.slice (some ⟨w1a.heap.size, 0, none⟩) n n] 24))
    have hX7 := Lib.hid (Whole.made w2 24 #[.slice (some ⟨w1a.heap.size, 0, none⟩) n n] (b := w2.heap.size) rfl)
    have c4 := hX4b.out.at_ (i := 0) rfl
    have c7 := hX7.out.at_ (i := 0) rfl
    have hO2 := Lib.hid (hO.out.alloc (.cells #[.slice (some ⟨w1a.heap.size, 0, none⟩) n n] 24))
    have hB4 := Lib.hid (hB3.out.alloc hB3.out.size (.cells #[.slice (some ⟨w1a.heap.size, 0, none⟩) n n] 24))
    have hs7 : w2.heap.size < (w2.alloc (.cells #[.slice (some ⟨w1a.heap.size, 0, none⟩) n n] 24)).heap.size := by simp
    have hLen : Hid (∀ k, (fillTo (List.replicate n 0) (endF xs) k).length = n) := Lib.hid fun k => by rw [fillTo_length]; simp
    have hStep : Hid (∀ k, fillTo (List.replicate n 0) (endF xs) (k + 1) = (fillTo (List.replicate n 0) (endF xs) k).set k (endF xs k)) := Lib.hid fun _ => rfl
    have hFill : Hid (fillTo (List.replicate n 0) (endF xs) n = fill (endF xs) n) := Lib.hid (fillTo_all (by simp))
    have hEf : Hid (∀ k, endF xs k = (early xs).getD k 0 + (xs.getD k default).Time) := Lib.hid fun _ => rfl
    clear hO hX4a hB3 hB2
    go_wp2_with fail
    generalize w2.alloc (.cells #[.slice (some ⟨w1a.heap.size, 0, none⟩) n n] 24) = w3 at *
    have hp7 : w1a.heap.size < w2.heap.size := hs2
    clear c4 c7
    have hg1 := hsz1.out
    generalize w2.heap.size = p7 at *
    generalize w1a.heap.size = ge at *
    subst hg1
    generalize hp4 : w1.heap.size = p4 at *
    have hP4 := Lib.hid hp4
    clear hp4
    go_loopw [27] (fun iv wr => ∃ k : Nat, k ≤ n ∧ iv = .int .i64 k ∧ Hid (wr.ownsRow (p4 + 1) 2 1 (.slice (some ⟨p4 + 1, 0, none⟩) n n) n ((fillTo (List.replicate n 0) (endF xs) k).map (Value.int .i64))) ∧ Hid (Whole wr p4 24 #[.slice a1 n c1]) ∧ Hid (Whole wr p7 24 #[.slice (some ⟨p4 + 1, 0, none⟩) n n]) ∧ Hid (Below p4 w1 wr) ∧ p7 < wr.heap.size) (fun iv _ => n - (intOf iv).toNat)
    case atStart => exact ⟨0, Nat.zero_le _, rfl, hO2, hX4b, hX7, hB4, hs7⟩
    case round =>
      clear hO2 hX4b hX7 hB4 hs7
      obtain ⟨k, hk, rfl, hOk, hX4, hX7, hBk, hs7⟩ := hrel
      by_cases hlt : k < n
      · obtain ⟨b2, o2, rfl, ce⟩ := hRE.out wr hBk.out k hlt
        obtain ⟨b1, o1, rfl, ct, _, t0, t1⟩ := hTm.out wr hBk.out k hlt
        have he := hBe.out k
        have hef := hEf.out k
        have hsp := hStep.out k
        have hln := hLen.out k
        have c7 := hX7.out.at_ (i := 0) rfl
        have q1 : (k : Int) < (n : Int) := by omega
        generalize (early xs).getD k 0 = ek at *
        generalize (xs.getD k default).Time = tk at *
        have y1 : IntKind.i64.wrap (ek + tk) = ek + tk := IntWalk.i64_in _ (by omega)
        rw [hef] at hsp
        have hfr : wr.frozen? ⟨p4 + 1, k, none⟩ = false := hOk.out.frozenAt k
        obtain ⟨u0, hu0⟩ : ∃ u, wr.cell? ⟨p4 + 1, k, none⟩ = some u := ⟨_, (hOk.out.cellAt k (by omega)).trans (List.getElem?_eq_getElem (by rw [List.length_map]; omega))⟩
        go_wp2_with fail
        go_still_tail 10, (by kernel_rfl)
        change wpList _ _ _ _ _ wr.drew
        have hst := (show wr.drew.ownsRow (p4 + 1) 2 1 (.slice (some ⟨p4 + 1, 0, none⟩) n n) n ((fillTo (List.replicate n 0) (endF xs) k).map (Value.int .i64)) from hOk.out).stored k (.int .i64 (ek + tk))
        rw [← List.map_set, ← hsp] at hst
        have hO5 := Lib.hid hst.1
        have hB5 := Lib.hid ((show Below p4 w1 wr.drew from hBk.out.drew).setCell (p := ⟨p4 + 1, k, none⟩) (Nat.le_succ _) (.int .i64 (ek + tk)))
        have hX4c := Lib.hid ((show Whole wr.drew p4 24 #[.slice (some ⟨b2, o2, none⟩) n c1] from hX4.out).apart (p := ⟨p4 + 1, k, none⟩) (show p4 ≠ p4 + 1 by omega) (.int .i64 (ek + tk)))
        have hX7c := Lib.hid ((show Whole wr.drew p7 24 #[.slice (some ⟨p4 + 1, 0, none⟩) n n] from hX7.out).apart (p := ⟨p4 + 1, k, none⟩) (show p7 ≠ p4 + 1 by omega) (.int .i64 (ek + tk)))
        have hu1 : wr.drew.cell? ⟨p4 + 1, k, none⟩ = some u0 := hu0
        have hf1 : wr.drew.frozen? ⟨p4 + 1, k, none⟩ = false := hfr
        have hs8 : p7 < (wr.drew.setCell ⟨p4 + 1, k, none⟩ (.int .i64 (ek + tk))).heap.size := by have := hst.2.size; exact Nat.lt_of_lt_of_le hs7 this
        clear hst hOk hBk hX4 hX7 ce ct c7 hu0 hfr hef hsp
        generalize wr.drew = wd at *
        go_wp2_with fail
        go_roundw
        case rel => exact ⟨k + 1, by omega, by go_num, hO5, hX4c, hX7c, hB5, hs8⟩
        case measure => simp [intOf]; omega
      · obtain rfl : n = k := by omega
        have hOe := hOk.out
        rw [hFill.out] at hOe
        have hLE : LstI wr.heap.size wr (.slice (some ⟨p4 + 1, 0, none⟩) n n) (fill (endF xs) n) := by
          have h2 : Own (p4 + 1) wr.heap.size wr (.slice (some ⟨p4 + 1, 0, none⟩) n n) 2 1 (fill (endF xs) n).length ((fill (endF xs) n).map (Value.int .i64)) := by rw [fill_length]; exact Own.new hOe (by unfold maxLen; omega)
          exact h2.lstI (Nat.le_refl _)
        have hEc0 : Hid (∀ k, k < n → wr.cell? ⟨p4 + 1, k, none⟩ = some (.int .i64 (endF xs k))) := Lib.hid fun k hk => (hOe.cellAt k (by omega)).trans (by rw [List.getElem?_map, getD_get (by rw [fill_length]; exact hk), fill_get, if_pos hk]; rfl)
        have hep : ∀ k, endsP xs k = decide (endF xs k = endOf xs (early xs)) := fun _ => rfl
        have hrr : (fill (endF xs) n)[wayAt xs]? = some (endOf xs (early xs)) := by
          rw [getD_get (by rw [fill_length]; exact hWl), fill_get, if_pos hWl]
          have := hFst.out.2.2 (show fstP (endsP xs) n < n from by have := hWl; unfold wayAt at this; rw [hN.out] at this; exact this)
          rw [hep] at this
          have e2 : wayAt xs = fstP (endsP xs) n := by unfold wayAt; rw [hN.out]
          rw [e2, of_decide_eq_true this]
        have hIx := Lib.hid (indexW_any wr.heap.size _ (fill (endF xs) n) (endOf xs (early xs)) (wayAt xs) wr hLE hrr (fun j y hj hy => by
          have e2 : wayAt xs = fstP (endsP xs) n := by unfold wayAt; rw [hN.out]
          have hjl : j < n := by omega
          rw [getD_get (by rw [fill_length]; exact hjl), fill_get, if_pos hjl] at hy
          have h5 := hFst.out.2.1 j (by rw [← e2]; exact hj)
          rw [hep] at h5
          rw [beq_eq_false_iff_ne]
          intro he
          rw [he] at h5
          injection hy with hy
          rw [hy] at h5
          simp at h5))
        have c7 := hX7.out.at_ (i := 0) rfl
        clear hLE hrr hep hOe hFill hStep hLen hEf hFst
        have hs10 := hs7
        generalize hwo : wr = wo at *
        clear hwo
        have hOE := Lib.hid (show Below wo.heap.size wo wo from Below.refl _ _)
        have hX10 := Lib.hid ((Whole.made wo 2 #[.int .i64 (wayAt xs : Int)] (b := wo.heap.size) rfl).more (.cells #[.int .i64 (wayAt xs : Int)] 2))
        have hW10 := Lib.hid (show ((wo.alloc (.cells #[.int .i64 (wayAt xs : Int)] 2)).alloc (.cells #[.int .i64 (wayAt xs : Int)] 2)).ownsRow (wo.heap.size + 1) 2 1 (.slice (some ⟨wo.heap.size + 1, 0, none⟩) 1 1) [(wayAt xs : Int)].length ([(wayAt xs : Int)].reverse.map (Value.int .i64)) from by
          have := World.ownsRow_lit (base := wo.heap.size + 1) (e := 2) (size := 1) (wo.alloc (.cells #[.int .i64 (wayAt xs : Int)] 2)) #[.int .i64 (wayAt xs : Int)] 1 (by simp) (by unfold maxLen; omega) rfl
          rw [World.size_alloc] at this
          exact this)
        have hB10 := Lib.hid (below_alloc (below_alloc (Below.refl wo.heap.size wo) (.cells #[.int .i64 (wayAt xs : Int)] 2)) (.cells #[.int .i64 (wayAt xs : Int)] 2))
        have hW00 := Lib.hid hW0.out
        clear hW0
        generalize wayAt xs = r0 at *
        go_wp2_with (go_at_call 23; (with_reducible refine hIx.out.mono ?_); rintro e w' ⟨rfl, rfl⟩)
        have hNx : Hid (∀ i x, xs[i]? = some x → 0 < (early xs).getD i 0 → tellN xs i < x.Before.length ∧ (nextW xs i : Int) = bAt x (tellN xs i) ∧ nextW xs i < i) := Lib.hid fun i x hx h0 => ⟨tell_lt hFt.out hx h0, next_is hFt.out hx h0⟩
        have hSt : Hid (∀ f i acc, (early xs).getD i 0 ≤ 0 → wayR xs f i acc = acc) := Lib.hid fun f i acc h => wayR_stop (by omega)
        have hSp : Hid (∀ f i acc, 0 < (early xs).getD i 0 → wayR xs (f + 1) i acc = wayR xs f (nextW xs i) ((nextW xs i : Int) :: acc)) := Lib.hid fun f i acc h => wayR_step h
        have hTl : Hid (∀ i x, xs[i]? = some x → tellN xs i = fstP (tellP xs i) x.Before.length ∧ (∀ j, tellP xs i j = decide (termAt xs (early xs) x j = (early xs).getD i 0))) := Lib.hid fun i x hx => ⟨by unfold tellN; rw [getD_some hx], fun j => by unfold tellP; rw [getD_some hx]⟩
        have hXn : Hid (∀ i, i < n → ∃ x, xs[i]? = some x) := Lib.hid fun i hi => ⟨_, List.getElem?_eq_getElem (by rw [hN.out]; exact hi)⟩
        have hEc : Hid (∀ W, Below wo.heap.size wo W → ∀ k, k < n → W.cell? ⟨p4 + 1, k, none⟩ = some (.int .i64 (endF xs k))) := Lib.hid fun W hW k hk => by
          rw [hW.cell (p := ⟨p4 + 1, k, none⟩) (show p4 + 1 < wo.heap.size by omega)]
          exact hEc0.out k hk
        have hX4w : Hid (∀ W, Below wo.heap.size wo W → Whole W p4 24 #[.slice a1 n c1] ∧ Whole W p7 24 #[.slice (some ⟨p4 + 1, 0, none⟩) n n]) := Lib.hid fun W hW => ⟨hX4.out.kept hW, hX7.out.kept hW⟩
        have hBo : Hid (∀ W, Below wo.heap.size wo W → Below p4 w1 W) := Lib.hid fun W hW => hBk.out.trans (hW.mono (by omega))
        clear hX4 hX7 hOk c7 hIx hOE
        have hp10 := hs10
        have hsA : wo.heap.size < ((wo.alloc (.cells #[.int .i64 (r0 : Int)] 2)).alloc (.cells #[.int .i64 (r0 : Int)] 2)).heap.size := by simp; omega
        generalize hpp : wo.heap.size = p10 at *
        clear hpp
        go_loopw [11] (fun ov wq => ∃ (i f : Nat) (acc : List Int), i < n ∧ i ≤ f ∧ f + acc.length ≤ n + 1 ∧ 1 ≤ acc.length ∧ Hid (wayR xs f i acc = wayL xs) ∧ Hid (wq.ownsRow (p10 + 1) 2 1 ov acc.length (acc.reverse.map (Value.int .i64))) ∧ Hid (Whole wq p10 2 #[.int .i64 (i : Int)]) ∧ Hid (Below p10 wo wq) ∧ p10 < wq.heap.size) (fun _ wq => atI wq p10)
        case atStart => exact ⟨r0, n, [(r0 : Int)], hWl, by omega, by simp, by simp, hW00, hW10, hX10, hB10, hsA⟩
        case round =>
          clear hW00 hW10 hX10 hB10 hsA
          obtain ⟨i, f, acc, hin, hif, hfa, ha1, hW, hO, hX10, hBq, hsq⟩ := hrel
          have hBp := Lib.hid (hBo.out wr hBq.out)
          obtain ⟨hX4, hX7⟩ := hX4w.out wr hBq.out
          have c4 := hX4.at_ (i := 0) rfl
          have c10 := hX10.out.at_ (i := 0) rfl
          obtain ⟨b2, o2, rfl, ce⟩ := hRE.out wr hBp.out i hin
          obtain ⟨x, hx⟩ := hXn.out i hin
          have hq1 : (i : Int) < (n : Int) := by omega
          by_cases h0 : 0 < (early xs).getD i 0
          · obtain ⟨g1, g2, g3⟩ := hNx.out i x hx h0
            obtain ⟨tl0, tl1⟩ := hTl.out i x hx
            obtain ⟨b1, o1, rfl, ct, cn, _, _⟩ := hTm.out wr hBp.out i hin
            obtain ⟨b1', o1', c1', b2', o2', c2', ab, al, cb, cl, hv1, hv2, hbb1, hbb2, _, _, r2, r3, hm16, hJ⟩ := hLC.out wr i x hBp.out hx
            injection hv1 with q1 q2 q3
            injection q1 with q1
            injection q1 with e1 e2 _
            subst e1 e2 q3
            clear q2
            injection hv2 with q1 q2 q3
            injection q1 with q1
            injection q1 with e1 e2 _
            subst e1 e2 q3
            clear q2
            obtain ⟨f', rfl⟩ : ∃ f', f = f' + 1 := ⟨f - 1, by omega⟩
            have hWn := Lib.hid ((hSp.out f' i acc h0).symm.trans hW.out)
            have hgd : decide (0 < (early xs).getD i 0) = true := decide_eq_true h0
            have hei := hBe.out i
            obtain ⟨bb, ob, bl, ol, bn, s0, t0, l0, rfl, rfl, _, _, hbn1, hbn2, _, kB, kL, kS, kT, kterm, _, _, _, _, _, _, kbq⟩ := hJ (tellN xs i) g1
            rw [← g2] at kbq
            have hbx : (bn : Int) = (nextW xs i : Int) := kbq.symm
            -- what the closure says, in whatever drawn world behind the new block
            have hTell : Hid (∀ (tm nd : Int) j, j < x.Before.length → ∀ dm, Calls Try.prog 24 #[.int .i64 (j : Int), .pointer (some ⟨p7, 0, none⟩), .pointer (some ⟨wr.heap.size, 0, none⟩), .pointer (some ⟨p4, 0, none⟩), .pointer (some ⟨p10, 0, none⟩)] ((wr.alloc (.cells #[.int .i64 tm, .int .i64 nd, .slice (some ⟨bb, ob, none⟩) x.Before.length cb, .slice (some ⟨bl, ol, none⟩) x.Before.length cl] 44)).drewN dm) (Ret (.bool (tellP xs i j)) ((wr.alloc (.cells #[.int .i64 tm, .int .i64 nd, .slice (some ⟨bb, ob, none⟩) x.Before.length cb, .slice (some ⟨bl, ol, none⟩) x.Before.length cl] 44)).drewN dm))) := Lib.hid fun tm nd j hj dm => by
              obtain ⟨bb', ob', bl', ol', bj, s, t, l, hb1, hb2, hbb, hbl, hj1, hj2, _, k1, k3, k4, k5, kt, ks0, ks1, kt0, kt1, kl0, kl1, kb⟩ := hJ j hj
              injection hb1 with hb1
              injection hb1 with e1 e2 _
              injection hb2 with hb2
              injection hb2 with e3 e4 _
              subst e1 e2 e3 e4
              have hbA := below_alloc (Below.refl wr.heap.size wr) (.cells #[.int .i64 tm, .int .i64 nd, .slice (some ⟨bb, ob, none⟩) x.Before.length cb, .slice (some ⟨bl, ol, none⟩) x.Before.length cl] 44)
              have hYb := Whole.made wr 44 #[.int .i64 tm, .int .i64 nd, .slice (some ⟨bb, ob, none⟩) x.Before.length cb, .slice (some ⟨bl, ol, none⟩) x.Before.length cl] (b := wr.heap.size) rfl
              have hlt4 := hP4.out
              have hBa := hBq.out.alloc (Nat.le_of_lt hsq) (.cells #[.int .i64 tm, .int .i64 nd, .slice (some ⟨bb, ob, none⟩) x.Before.length cb, .slice (some ⟨bl, ol, none⟩) x.Before.length cl] 44)
              have hd : ∀ p u, (wr.alloc (.cells #[.int .i64 tm, .int .i64 nd, .slice (some ⟨bb, ob, none⟩) x.Before.length cb, .slice (some ⟨bl, ol, none⟩) x.Before.length cl] 44)).cell? p = some u → ((wr.alloc (.cells #[.int .i64 tm, .int .i64 nd, .slice (some ⟨bb, ob, none⟩) x.Before.length cb, .slice (some ⟨bl, ol, none⟩) x.Before.length cl] 44)).drewN dm).cell? p = some u := fun p u h => by rw [World.cell?_drewN]; exact h
              have hs : s = (early xs).getD bj 0 := by
                obtain ⟨b3, o3, he3, hc3⟩ := hRE.out wr hBp.out bj (by omega)
                injection he3 with he3
                injection he3 with e1 e2 _
                subst e1 e2
                rw [k4] at hc3
                injection hc3 with hc3
                injection hc3
              have ht : t = (xs.getD bj default).Time := by
                obtain ⟨b3, o3, he3, hc3, _⟩ := hTm.out wr hBp.out bj (by omega)
                injection he3 with he3
                injection he3 with e1 e2 _
                subst e1 e2
                rw [k5] at hc3
                injection hc3 with hc3
                injection hc3
              have hef : endF xs bj = s + t := by rw [hs, ht]; rfl
              have hW := wayTell_any n x.Before.length j i bj (endF xs bj) l ((early xs).getD i 0) p7 wr.heap.size p4 p10 (p4 + 1) n bb ob cb bl ol cl b2 o2 c1 ((wr.alloc (.cells #[.int .i64 tm, .int .i64 nd, .slice (some ⟨bb, ob, none⟩) x.Before.length cb, .slice (some ⟨bl, ol, none⟩) x.Before.length cl] 44)).drewN dm)
                (hd _ _ ((hX7.kept hbA).at_ (i := 0) rfl)) (hd _ _ (hYb.at_ (i := 2) rfl)) (hd _ _ (hYb.at_ (i := 3) rfl)) (hd _ _ ((hX4.kept hbA).at_ (i := 0) rfl)) (hd _ _ ((hX10.out.kept hbA).at_ (i := 0) rfl))
                (hd _ _ ((hbA.cell (p := ⟨bb, ob + j, none⟩) (show bb < wr.heap.size by omega)).trans k1)) (hd _ _ (hEc.out _ hBa bj (by omega))) (hd _ _ ((hbA.cell (p := ⟨bl, ol + j, none⟩) (show bl < wr.heap.size by omega)).trans k3)) (hd _ _ ((hbA.cell (p := ⟨b2, o2 + i, none⟩) (show b2 < wr.heap.size by omega)).trans ce))
                hj (by omega) hin (by omega) (by omega) (by omega) (by omega)
              have hbq : (endF xs bj + l == (early xs).getD i 0) = tellP xs i j := by
                rw [tl1 j, kt, hef]
                rw [Bool.eq_iff_iff]; simp
              rw [hbq] at hW
              exact hW
            have hFi : Hid (∀ (tm nd : Int) (W : World), (∃ dm, W = (wr.alloc (.cells #[.int .i64 tm, .int .i64 nd, .slice (some ⟨bb, ob, none⟩) x.Before.length cb, .slice (some ⟨bl, ol, none⟩) x.Before.length cl] 44)).drewN dm) → Calls Try.prog 25 #[.int .i64 (x.Before.length : Nat), .func (.func 24) #[] #[.pointer (some ⟨p7, 0, none⟩), .pointer (some ⟨wr.heap.size, 0, none⟩), .pointer (some ⟨p4, 0, none⟩), .pointer (some ⟨p10, 0, none⟩)]] W (Ret (.int .i64 (tellN xs i : Nat)) W)) := Lib.hid fun tm nd W ⟨dm, hW⟩ => by
              rw [tl0, hW]
              refine firstTell_any x.Before.length _ _ _ _ (tellP xs i) _ (by omega) fun k hk m => ?_
              have := hTell.out tm nd k hk (dm + m)
              rw [World.drewN_drewN]
              exact this
            clear hJ hTell tl0 tl1 kS kT kL kterm hEc hTm hRE hLC
            have hlt4 := hP4.out
            generalize (xs.getD i default).Time = tm at *
            generalize (xs.getD i default).Needs = nd at *
            have hFi2 := Lib.hid (hFi.out tm nd)
            have hBA := Lib.hid (hBq.out.alloc (Nat.le_of_lt hsq) (.cells #[.int .i64 tm, .int .i64 nd, .slice (some ⟨bb, ob, none⟩) x.Before.length cb, .slice (some ⟨bl, ol, none⟩) x.Before.length cl] 44))
            have hYA := Lib.hid (Whole.made wr 44 #[.int .i64 tm, .int .i64 nd, .slice (some ⟨bb, ob, none⟩) x.Before.length cb, .slice (some ⟨bl, ol, none⟩) x.Before.length cl] (b := wr.heap.size) rfl)
            have hXA := Lib.hid (hX10.out.more (.cells #[.int .i64 tm, .int .i64 nd, .slice (some ⟨bb, ob, none⟩) x.Before.length cb, .slice (some ⟨bl, ol, none⟩) x.Before.length cl] 44))
            have hOA := Lib.hid (hO.out.alloc (.cells #[.int .i64 tm, .int .i64 nd, .slice (some ⟨bb, ob, none⟩) x.Before.length cb, .slice (some ⟨bl, ol, none⟩) x.Before.length cl] 44))
            have kBA := (below_alloc (Below.refl wr.heap.size wr) (.cells #[.int .i64 tm, .int .i64 nd, .slice (some ⟨bb, ob, none⟩) x.Before.length cb, .slice (some ⟨bl, ol, none⟩) x.Before.length cl] 44)).cell (p := ⟨bb, ob + tellN xs i, none⟩) (show bb < wr.heap.size by omega)
            rw [kB] at kBA
            rw [hbx] at kBA
            have y2 := hYA.out.at_ (i := 2) rfl
            have hG2 := Lib.hid g2
            clear hFi hbx kbq kB hX4 hX7 hX10 g2
            generalize (early xs).getD i 0 = ei at *
            generalize x.Before.length = m at *
            generalize tellN xs i = tn at *
            generalize nextW xs i = nx at *
            have q5 : (tn : Int) < (m : Int) := by omega
            have hf10 : (wr.alloc (.cells #[.int .i64 tm, .int .i64 nd, .slice (some ⟨bb, ob, none⟩) m cb, .slice (some ⟨bl, ol, none⟩) m cl] 44)).frozen? ⟨p10, 0, none⟩ = false := hXA.out.free 0
            have c10A := hXA.out.at_ (i := 0) rfl
            have hZ : Hid (∀ d W, ((wr.alloc (.cells #[.int .i64 tm, .int .i64 nd, .slice (some ⟨bb, ob, none⟩) m cb, .slice (some ⟨bl, ol, none⟩) m cl] 44)).drewN d).setCell ⟨p10, 0, none⟩ (.int .i64 (nx : Int)) = W → Whole W p10 2 #[.int .i64 (nx : Int)] ∧ Below p10 wo W ∧ p10 < W.heap.size) := Lib.hid fun d W hW => by
              have h1 := (hXA.out.draws d).put 0 (.int .i64 (nx : Int))
              have h3 := (Lst.Below.drewN hBA.out d).setCell (p := ⟨p10, 0, none⟩) (Nat.le_refl _) (.int .i64 (nx : Int))
              rw [hW] at h1 h3
              exact ⟨h1, h3, h1.size⟩
            have hZ2 := Lib.hid (fun d W (hW : ((wr.alloc (.cells #[.int .i64 tm, .int .i64 nd, .slice (some ⟨bb, ob, none⟩) m cb, .slice (some ⟨bl, ol, none⟩) m cl] 44)).drewN d).setCell ⟨p10, 0, none⟩ (.int .i64 (nx : Int)) = W) => (by
              have h2 := ownsRow_setCell_below (own_drewN d hOA.out) (a := ⟨p10, 0, none⟩) (Nat.lt_succ_self _) (.int .i64 (nx : Int))
              rw [hW] at h2
              exact h2))
            have hmeas : atI wr p10 = i := by unfold atI; rw [c10]; exact Int.toNat_natCast i
            have hMs := Lib.hid hmeas
            clear hmeas hO
            go_wp2_with fail
            go_region_with ((go_at_call 25; (with_reducible refine (hFi2.out _ (by first | exact ⟨0, rfl⟩ | exact ⟨1, rfl⟩ | exact ⟨_, rfl⟩)).mono ?_); rintro e w9 ⟨m9, rfl, rfl⟩))
            all_goals
              generalize hS : World.setCell _ _ _ = wS at *
              obtain ⟨z1, z3, z4⟩ := hZ.out _ _ hS
              have z2 := hZ2.out _ _ hS
              have c10z := z1.at_ (i := 0) rfl
              have Z1 := Lib.hid z1
              have Z2 := Lib.hid z2
              have Z3 := Lib.hid z3
              clear hS z1 z2 z3 c10 kBA y2 hf10 c10A ct cn r2 r3 ce c4
              go_wp2_with (at_builtin; refine wpList_append_own _ rfl _ _ _ rfl (p10 + 1) 2 i0 (.int .i64 0) 1 8 Try.underlying24 hi hz0 hz1 hz2 rfl (by decide) _ acc.length _ rfl (Z2.out.alloc _) ⟨wS.heap.size, 0, none⟩ 1 1 [.int .i64 (nx : Int)] rfl rfl (news_oneN wS _ _ ()) (one_cell _) (by unfold maxLen; omega) (by omega) (by rw [World.size_alloc]; omega) ?_; intro v8 w8 hown8 hgr8 _; have hO8 := Lib.hid hown8; have hG8 := Lib.hid hgr8; clear hown8 hgr8)
              have hX8 := Lib.hid ((Z1.out.more (.cells #[.int .i64 (nx : Int)] 2)).beside hG8.out (fun e => by have := (Z2.out.lt p10 e.symm).1; omega))
              have hB8 := Lib.hid ((Z3.out.alloc (Nat.le_of_lt z4) (.cells #[.int .i64 (nx : Int)] 2)).grown hG8.out (by rw [World.size_alloc]; omega) (fun q hq => by have := (Z2.out.lt q hq).1; omega))
              have hs8 : p10 < w8.heap.size := hX8.out.size
              have hO9 := Lib.hid (show w8.ownsRow (p10 + 1) 2 1 v8 ((nx : Int) :: acc).length (((nx : Int) :: acc).reverse.map (Value.int .i64)) by
                rw [List.reverse_cons, List.map_append]
                exact hO8.out)
              go_roundw
              case rel => exact ⟨nx, f', (nx : Int) :: acc, by omega, by omega, by rw [List.length_cons]; omega, by rw [List.length_cons]; omega, hWn, hO9, hX8, hB8, hs8⟩
              case measure =>
                rw [hMs.out]
                have : atI w8 p10 = nx := by unfold atI; rw [hX8.out.at_ (i := 0) rfl]; exact Int.toNat_natCast nx
                rw [this]; exact g3
          · have hfin := Lib.hid (show wayL xs = acc by rw [← hW.out]; exact hSt.out f i acc (by omega))
            have hdf : decide (0 < (early xs).getD i 0) = false := decide_eq_false h0
            obtain ⟨g, c, rfl⟩ := ownsRow_ne hO.out ha1
            have hgA := Lib.hid (hO.out.lt g rfl).1
            have hRv := Lib.hid (reverse_any (p10 + 1) g acc.length c acc.reverse wr hO.out (by rw [List.length_reverse]) ha1 (by omega))
            have hw14 := Lib.hid (show w.heap.size ≤ p4 by rw [← hP4.out]; exact hB1.out.size)
            have hEnd : Hid (∀ W, W.ownsRow (p10 + 1) 2 1 (.slice (some ⟨g, 0, none⟩) acc.length c) acc.length (acc.reverse.reverse.map (Value.int .i64)) → wr.grownBy W (some g) → POST (.returned (.tuple #[.slice (some ⟨g, 0, none⟩) acc.length c, .bool true])) W) := Lib.hid fun W ho hg => by
              rw [List.reverse_reverse] at ho
              have hBw : Below w.heap.size w W := by
                have h1 := hB1.out.trans (hBp.out.mono hw14.out)
                exact h1.grown hg h1.size (fun q hq => by injection hq with hq; rw [← hq]; have := hgA.out; have := hw14.out; omega)
              refine hP.out W _ ?_ hBw
              rw [hfin.out]
              exact (Own.new ho (by unfold maxLen; omega)).mono (by have := hw14.out; omega) (Nat.le_refl _)
            clear hO hX4 hX7 hX10
            generalize (early xs).getD i 0 = ei at *
            go_wp2_with (go_at_call 26; (with_reducible refine (hRv.out).mono ?_); rintro e w9 ⟨⟨v9, rfl⟩, ho9, hg9⟩; have hF9 := Lib.hid (hEnd.out w9 ho9 hg9); clear ho9 hg9)
            first | exact hF9.out | (go_ret2; exact hF9.out)
theorem longestWay_both (xs : List TaskD) (_ : ∀ y ∈ xs, y.wf) : ∃ (r0 : List Int) (r1 : Bool), r0.length ≤ 1048576 ∧
    (∀ (B : Nat) (v1 : Value) (w : World), LstTask B w v1 xs → B ≤ w.heap.size → Calls Try.prog 6 #[v1] w fun e w' => ∃ v', e = .returned (.tuple #[v', .bool r1]) ∧ Own w.heap.size w'.heap.size w' v' 2 1 r0.length (r0.map (Value.int .i64)) ∧ Below w.heap.size w w') ∧
    (∀ (B : Nat) (v1 : Value) (w : World), LstTask B w v1 xs → B ≤ w.heap.size → Calls Try.prog 8 #[v1] w fun e w' => ∃ v', e = .returned (.tuple #[v', .bool r1]) ∧ Own w.heap.size w'.heap.size w' v' 2 1 r0.length (r0.map (Value.int .i64)) ∧ Below w.heap.size w w') :=
  ⟨wayRes xs, areTasks xs, wayRes_length xs, fun B v w h hB => specWay_any B v xs w h hB, fun B v w h hB => implWay_any B v xs w h hB⟩
end Go.Proofs.Ytfnpbhplnlfnmaa
