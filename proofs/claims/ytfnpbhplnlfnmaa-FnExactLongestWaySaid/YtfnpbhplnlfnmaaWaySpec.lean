/- A longest way through tasks: the model's walk. No condition. -/
import Derived.Test.YtfnpbhplnlfnmaaWayPure
import Derived.ArgAppend
import Derived.IntWalk
namespace Go.Proofs.Ytfnpbhplnlfnmaa
open Go.RowKit Go.Lst

theorem wayAddr (b o j : Nat) : (⟨b, o, none⟩ : Addr).add j = ⟨b, o + j, none⟩ := by unfold Addr.add; split <;> simp_all
/-- append to a slice that is full, of what lies in another one: a new row. -/
theorem wpList_append_full {P : Program} {w : World} {ops : Array Oper} {rest : List Oper} {o : Oper} {a : Act} {Q : Exit → Act → World → Prop} (hgd : o.guard = none) (s x : Operand) (t : TypeId)
    (ho : o.op = .call { callee := .builtin .append, args := #[s, x], argTypes := #[t, t] })
    (e : TypeId) (i : TypeInfo) (z : Value) (size bytes : Nat) (h1 : P.underlying t = some (.slice e)) (h2 : P.info? e = some i) (h3 : i.zero = some z) (h4 : i.size = size) (h5 : i.bytes = bytes) (h6 : z.cells.size = size) (h7 : 0 < size)
    (b : Addr) (n cap : Nat) (olds : List Value) (hs : a.eval s = .slice (some b) n cap) (hlo : olds.length = n * size) (holds : ∀ j u, olds[j]? = some u → w.cell? (b.add j) = some u)
    (ad : Addr) (m c : Nat) (news : List Value) (hx : a.eval x = .slice (some ad) m c) (hn : news.length = m * size) (hc : ∀ j u, news[j]? = some u → w.cell? (ad.add j) = some u)
    (hfull : cap < n + m) (b1 : n + m ≤ maxLen) (b2 : (n + m) * bytes ≤ 140737488355328)
    (h : ∀ v' w', w'.ownsRow w.heap.size e size v' (n + m) (olds ++ news) → w.grownBy w' none → wpList P ops Q rest (a.put o.dst v') w') : wpList P ops Q (o :: rest) a w := by
  refine wpList_plain hgd fun K hK => ?_
  obtain ⟨v', w', hr, r1, r2⟩ := run_append_arg_grows (P := P) w t o.type e i z size bytes h1 h2 h3 h4 h5 h6 h7 b n cap olds hlo holds ad m c news hn hc hfull b1 b2
  unfold Oper.wp execOp
  simp only [ho, resolve, invoke, builtin, Sem.run_bind, Sem.run_pure, Result.andThen_ok, List.map_toArray, List.map_cons, List.map_nil, hs, hx, hr]
  exact hK _ _ (h v' w' r1 r2)
theorem ownsRow_ne {w : World} {A n : Nat} {e : TypeId} {v : Value} {cs : List Value} (h : w.ownsRow A e 1 v n cs) (hn : 1 ≤ n) : ∃ g cap, v = .slice (some ⟨g, 0, none⟩) n cap := by
  rcases h.2 with ⟨_, h0⟩ | ⟨g, cap, _, rfl, _⟩
  · omega
  · exact ⟨g, cap, rfl⟩
theorem own_drewN {w : World} {A e k n : Nat} {v : Value} {cs : List Value} (m : Nat) (h : w.ownsRow A e k v n cs) : (w.drewN m).ownsRow A e k v n cs := h
set_option maxHeartbeats 8000000 in
set_option maxRecDepth 100000 in
theorem specWay_any (B : Nat) (v : Value) (xs : List TaskD) (w : World) (h : LstTask B w v xs) (hB : B ≤ w.heap.size) : Calls Try.prog 6 #[v] w (ListPost (wayRes xs) (areTasks xs) w) := by
  have hA := Lib.hid (l03Are_any B v xs w h)
  have hL := Lib.hid h
  obtain ⟨a, cap, rfl, hl, _⟩ := h
  obtain ⟨i0, hi, hz0, hz1, hz2⟩ := info_parts infoI
  cases hq : areTasks xs
  · have hP := Lib.hid (fun w' hb => list_no (w := w) (w' := w') hq (wayRes_no hq) hb)
    rw [hq] at hP hA
    generalize ListPost (wayRes xs) _ w = POST at *
    clear hq
    unfold maxLen at hl
    go_enter Try.func6, Try.ntmps6
    go_wp2_with (go_at_call 18; (with_reducible refine hA.out.mono ?_); rintro e w1 ⟨j1, rfl, rfl⟩)
    first | exact hP.out _ (Lst.Below.drewN (Below.refl _ w) _) | (go_ret2; exact hP.out _ (Lst.Below.drewN (Below.refl _ w) _))
  · have hFt := Lib.hid (areTasks_fit hq)
    have hP : Hid (∀ (w' : World) (v : Value), Own w.heap.size w'.heap.size w' v 2 1 (wayL xs).length ((wayL xs).map (Value.int .i64)) → Below w.heap.size w w' → ListPost (wayRes xs) true w (.returned (.tuple #[v, .bool true])) w') := Lib.hid fun w' v ho hb => ⟨v, rfl, by rw [wayRes_yes hq]; exact ho, hb⟩
    have n1 : 1 ≤ xs.length := (areTasks_iff.1 hq).some_
    have hm : xs.length ≤ 16 := hFt.out.most
    have hE := Lib.hid (fun w1 (hb : Below w.heap.size w w1) => l03Early_any B (.slice a xs.length cap) xs w1 (hL.out.below hb hB) (Nat.le_trans hB hb.size) hFt.out)
    rw [hq] at hA
    generalize ListPost (wayRes xs) true w = POST at *
    clear hq
    have hEn := Lib.hid (early_length xs)
    have hBe := Lib.hid (early_bound hFt.out)
    have hEb := endOf_bound hFt.out
    have hWl := wayAt_lt hFt.out n1
    have hFst := Lib.hid (fstP_is (endsP xs) xs.length)
    have hEp : Hid (∀ k, endsP xs k = decide ((early xs).getD k 0 + (xs.getD k default).Time = endOf xs (early xs))) := Lib.hid fun _ => rfl
    have hW0 : Hid (wayR xs xs.length (wayAt xs) [(wayAt xs : Int)] = wayL xs) := Lib.hid rfl
    have hWd : Hid (wayAt xs = fstP (endsP xs) xs.length) := Lib.hid rfl
    unfold maxLen at hl
    go_enter Try.func6, Try.ntmps6
    go_wp2_with (first | (go_at_call 18; (with_reducible refine hA.out.mono ?_); rintro e w1 ⟨j1, rfl, rfl⟩; have hB0 := Lib.hid (Lst.Below.drewN (Below.refl w.heap.size w) j1); generalize w.drewN j1 = w1 at *) | (go_at_call 19; (with_reducible refine (hE.out w1 hB0.out).mono ?_); rintro e w2 ⟨v2, rfl, ho2, hb2⟩; have hO2 := Lib.hid ho2; have hB2 := Lib.hid (below_on hB0.out (Nat.le_refl _) hb2); obtain ⟨a2, c2, rfl⟩ := own_slice_n ho2; clear ho2 hb2))
    have hLT := Lib.hid (hL.out.below hB2.out hB)
    have hLs := Lib.hid (show LstI w2.heap.size w2 (.slice a2 xs.length c2) (early xs) by have := hO2.out; rw [← hEn.out] at this ⊢; exact this.lstI (Nat.le_refl _))
    have hBW := Nat.le_trans hB hB2.out.size
    refine (l03End_any w2.heap.size _ _ xs (early xs) w2 (hLT.out.mono hBW) hLs.out hFt.out (by rw [hEn.out]; exact Nat.le_refl _) (hBe.out.mono (by omega) (by omega))).mono ?_
    rintro e w3 ⟨j3, rfl, rfl⟩
    have hB3 := Lib.hid (Lst.Below.drewN (Below.refl w2.heap.size w2) j3)
    generalize w2.drewN j3 = w3 at *
    have hLC : Hid (∀ (wr : World) (k : Nat) (x : TaskD), Below w2.heap.size w2 wr → xs[k]? = some x → _) := Lib.hid fun wr k x (hb : Below w2.heap.size w2 wr) (hx : xs[k]? = some x) => least_cells ((hLT.out.mono hBW).below hb (Nat.le_refl _)) (hLs.out.below hb (Nat.le_refl _)) hFt.out hx (by rw [hEn.out]; exact Nat.le_refl _) (hBe.out.mono (by omega) (by omega))
    have hRE : Hid (∀ (wr : World), Below w2.heap.size w2 wr → ∀ k, k < xs.length → ∃ b o, a2 = some ⟨b, o, none⟩ ∧ wr.cell? ⟨b, o + k, none⟩ = some (.int .i64 ((early xs).getD k 0))) := Lib.hid fun wr hb k hk => by
      obtain ⟨a', c', hv, _, _, _, hc⟩ := (hLs.out.below hb (Nat.le_refl _)).at_
      injection hv with q1 q2 q3
      subst q1
      obtain ⟨b', o', x', he, _, hx', hcell⟩ := hc k (by rw [hEn.out]; exact hk)
      exact ⟨b', o', he, by rw [getD_some hx']; exact hcell⟩
    have hTm : Hid (∀ (wr : World), Below w2.heap.size w2 wr → ∀ k, k < xs.length → ∃ b o, a = some ⟨b, o, none⟩ ∧ wr.cell? ⟨b, o + k * 4, none⟩ = some (.int .i64 (xs.getD k default).Time) ∧ 0 ≤ (xs.getD k default).Time ∧ (xs.getD k default).Time ≤ 1000) := Lib.hid fun wr hb k hk => by
      have hx : xs[k]? = some (xs[k]'hk) := List.getElem?_eq_getElem _
      obtain ⟨a', c', hv, _, _, _, hc⟩ := ((hLT.out.mono hBW).below hb (Nat.le_refl _)).at_
      injection hv with q1 q2 q3
      subst q1
      obtain ⟨b', o', x', vb, vl, he, _, hx', r0, _⟩ := hc k hk
      rw [getD_some hx']
      exact ⟨b', o', he, r0, hFt.out.time k _ hx'⟩
    have hNx : Hid (∀ i x, xs[i]? = some x → 0 < (early xs).getD i 0 → tellN xs i < x.Before.length ∧ (nextW xs i : Int) = bAt x (tellN xs i) ∧ nextW xs i < i) := Lib.hid fun i x hx h0 => ⟨tell_lt hFt.out hx h0, next_is hFt.out hx h0⟩
    have hSt : Hid (∀ f i acc, (early xs).getD i 0 ≤ 0 → wayR xs f i acc = acc) := Lib.hid fun f i acc h => wayR_stop (by omega)
    have hSp : Hid (∀ f i acc, 0 < (early xs).getD i 0 → wayR xs (f + 1) i acc = wayR xs f (nextW xs i) ((nextW xs i : Int) :: acc)) := Lib.hid fun f i acc h => wayR_step h
    have hTl : Hid (∀ i x, xs[i]? = some x → (∀ j, tellP xs i j = decide (termAt xs (early xs) x j = (early xs).getD i 0)) ∧ (∀ j, j < tellN xs i → tellP xs i j = false) ∧ (tellN xs i < x.Before.length → tellP xs i (tellN xs i) = true)) := Lib.hid fun i x hx => by
      have h1 := fstP_is (tellP xs i) (xs.getD i default).Before.length
      refine ⟨fun j => by unfold tellP; rw [getD_some hx], h1.2.1, fun h2 => h1.2.2 ?_⟩
      rw [getD_some hx]
      unfold tellN at h2
      rw [getD_some hx] at h2
      exact h2
    have hwsz := Lib.hid hB2.out.size
    clear hA hE hB0
    go_wp2_with fail
    go_loopw [6] (fun iv wr => ∃ k : Nat, k ≤ wayAt xs ∧ iv = .int .i64 k ∧ Hid (Below w2.heap.size w2 wr)) (fun iv _ => wayAt xs - (intOf iv).toNat)
    case atStart => exact ⟨0, Nat.zero_le _, rfl, hB3⟩
    case round =>
      clear hB3
      obtain ⟨k, hk, rfl, hBk⟩ := hrel
      obtain ⟨b2, o2, rfl, ce⟩ := hRE.out wr hBk.out k (by omega)
      obtain ⟨b1, o1, rfl, ct, t0, t1⟩ := hTm.out wr hBk.out k (by omega)
      have he := hBe.out k
      have hep := hEp.out k
      have q1 : (k : Int) < (xs.length : Int) := by omega
      generalize hn : xs.length = n at *
      generalize (early xs).getD k 0 = ek at *
      generalize (xs.getD k default).Time = tk at *
      generalize hen : endOf xs (early xs) = en at *
      have y1 : IntKind.i64.wrap (ek + tk) = ek + tk := IntWalk.i64_in _ (by omega)
      by_cases hkw : k < wayAt xs
      · have hno : ¬ ek + tk = en := by
          have := hFst.out.2.1 k (by rw [← hWd.out]; exact hkw)
          rw [hep] at this
          simpa using this
        have d1 : (ek + tk != en) = true := by rw [bne_iff_ne]; exact hno
        have d2 : (ek + tk == en) = false := by rw [beq_eq_false_iff_ne]; exact hno
        go_wp2_with fail
        go_quiet (fail)
        go_wp2_with fail
        go_roundw
        case rel => exact ⟨k + 1, by omega, by go_num, Lib.hid (Lst.Below.drewN hBk.out _)⟩
        case measure => simp [intOf]; omega
      · obtain rfl : k = wayAt xs := by omega
        have hyes : ek + tk = en := by
          have := hFst.out.2.2 (by rw [← hWd.out]; exact hWl)
          rw [← hWd.out, hep] at this
          simpa using this
        have d1 : (ek + tk != en) = false := by rw [hyes]; simp
        have d2 : (ek + tk == en) = true := by rw [hyes]; simp
        go_wp2_with fail
        go_quiet (fail)
        go_wp2_with fail
        have hBz := Lib.hid (Lst.Below.drewN hBk.out nq)
        have hzz := Lib.hid (show wr.heap.size = (wr.drewN nq).heap.size by simp)
        generalize wr.drewN nq = wz at *
        have hO0 := Lib.hid (show (wz.alloc (.cells #[.int .i64 (wayAt xs : Int)] 2)).ownsRow w2.heap.size 2 1 (.slice (some ⟨wz.heap.size, 0, none⟩) 1 1) [(wayAt xs : Int)].length ([(wayAt xs : Int)].map (Value.int .i64)) from World.ownsRow_lit wz #[.int .i64 (wayAt xs : Int)] 1 hBz.out.size (by unfold maxLen; omega) rfl)
        have hBa := Lib.hid (hBz.out.alloc hBz.out.size (.cells #[.int .i64 (wayAt xs : Int)] 2))
        clear hFst hEp hWd hBk hBz d1 d2 hyes he hep y1 ct ce t0 t1
        have hEb2 := hEb
        generalize wayAt xs = p0 at *
        go_loopw [6, 7] (fun iv ov wr => ∃ (i f : Nat) (acc : List Int), i < n ∧ i ≤ f ∧ f + acc.length ≤ n + 1 ∧ 1 ≤ acc.length ∧ iv = .int .i64 i ∧ Hid (wayR xs f i acc = wayL xs) ∧ Hid (wr.ownsRow w2.heap.size 2 1 ov acc.length (acc.map (Value.int .i64))) ∧ Hid (Below w2.heap.size w2 wr)) (fun iv _ _ => (intOf iv).toNat)
        case atStart => exact ⟨p0, n, [(p0 : Int)], hWl, by omega, by simp, by simp, rfl, hW0, by rw [hzz.out]; exact hO0, hBa⟩
        case round =>
          clear hO0 hBa hW0
          obtain ⟨i, f, acc, hin, hif, hfa, ha1, rfl, hW, hO, hBk⟩ := hrel
          obtain ⟨bE, oE, hbe, ce⟩ := hRE.out wr hBk.out i hin
          injection hbe with hbe
          injection hbe with e1 e2 _
          subst e1 e2
          have hxi : xs[i]? = some (xs[i]'(by omega)) := List.getElem?_eq_getElem _
          obtain ⟨x, hx⟩ : ∃ x, xs[i]? = some x := ⟨_, hxi⟩
          have he := hBe.out i
          have hq1 : (i : Int) < (n : Int) := by omega
          by_cases h0 : 0 < (early xs).getD i 0
          · obtain ⟨g1, g2, g3⟩ := hNx.out i x hx h0
            obtain ⟨tl1, tl2, tl3⟩ := hTl.out i x hx
            obtain ⟨b1, o1, c1, b2, o2, c2', ab, al, cb, cl, hv1, hv2, _, _, _, _, r2, r3, hm16, hJ⟩ := hLC.out wr i x hBk.out hx
            injection hv1 with q1 q2 q3
            injection q1 with q1
            injection q1 with e1 e2 _
            subst e1 e2 q3
            clear q2
            injection hv2 with q1 q2 q3
            injection q1 with q1
            injection q1 with e1 e2 _
            subst e1 e2 q3
            clear q2
            obtain ⟨f', rfl⟩ : ∃ f', f = f' + 1 := ⟨f - 1, by omega⟩
            have hWn := Lib.hid ((hSp.out f' i acc h0).symm.trans hW.out)
            have hJh := Lib.hid hJ
            have hTL1 := Lib.hid tl1
            have hTL2 := Lib.hid tl2
            have hTL3 := Lib.hid (tl3 g1)
            have hgd : decide (0 < (early xs).getD i 0) = true := decide_eq_true h0
            have hBn := Lib.hid g2
            clear hJ tl1 tl2 tl3 g2 hW
            generalize (early xs).getD i 0 = ei at *
            generalize hmm : x.Before.length = m at *
            generalize wr = wo at *
            generalize htn : tellN xs i = tn at *
            generalize hnx : nextW xs i = nx at *
            have hmI : m ≤ 16 := hm16
            go_wp2_with fail
            go_loopw [8, 46] (fun nv kv wq => ∃ j : Nat, j ≤ m ∧ kv = .int .i64 j ∧ nv = .int .i64 (if tn < j then (nx : Int) else -1) ∧ ∃ dm, wq = wo.drewN dm) (fun _ kv _ => m - (intOf kv).toNat)
            case atStart => exact ⟨0, Nat.zero_le _, rfl, rfl, 0, rfl⟩
            case round =>
              obtain ⟨j, hj, rfl, rfl, dm, rfl⟩ := hrel
              have r2' := r2
              have r3' := r3
              have ce' := ce
              rw [← World.cell?_drewN (n := dm)] at r2' r3' ce'
              by_cases hjm : j < m
              · obtain ⟨bb, ob, bl, ol, bn, s, t, l, rfl, rfl, _, _, hbn1, hbn2, _, cb', cl', cs, ct, hterm, s0, s1, t0, t1, l0, l1, hbq⟩ := hJh.out j hjm
                rw [← World.cell?_drewN (n := dm)] at cb' cl' cs ct
                have htp := hTL1.out j
                rw [hterm] at htp
                generalize hwd : wo.drewN dm = wd at *
                have hWd := Lib.hid hwd
                clear hwd
                have k1 : (j : Int) < (m : Int) := by omega
                have k2 : (bn : Int) < (n : Int) := by omega
                have y1 : IntKind.i64.wrap (s + t) = s + t := IntWalk.i64_in _ (by omega)
                have y2 : IntKind.i64.wrap (s + t + l) = s + t + l := IntWalk.i64_in _ (by omega)
                by_cases hA : tn < j
                · rw [if_pos hA]
                  have g0 : decide ((nx : Int) < 0) = false := decide_eq_false (by omega)
                  have g0' : ¬ (nx : Int) < 0 := by omega
                  go_wp2_with fail
                  go_quiet (fail)
                  go_wp2_with fail
                  go_roundw
                  case rel => exact ⟨j + 1, by omega, by go_num, by rw [if_pos (by omega)], dm + nq, by rw [← hWd.out, World.drewN_drewN]⟩
                  case measure => simp [intOf]; omega
                · rw [if_neg hA]
                  by_cases hE : j = tn
                  · have hyes : s + t + l = ei := by
                      have := hTL3.out
                      rw [← hE, htp] at this
                      simpa using this
                    have d1 : (s + t + l == ei) = true := by rw [hyes]; simp
                    have hbx : (bn : Int) = (nx : Int) := by rw [hBn.out, ← hE]; exact hbq.symm
                    have hbx2 := Lib.hid hbx
                    have hEh := Lib.hid hE
                    clear hbx hE hyes
                    go_wp2_with fail
                    go_quiet (fail)
                    go_wp2_with fail
                    go_roundw
                    case rel => exact ⟨j + 1, by omega, by go_num, by rw [if_pos (by have := hEh.out; omega), hbx2.out], dm + nq, by rw [← hWd.out, World.drewN_drewN]⟩
                    case measure => simp [intOf]; omega
                  · have hno : ¬ s + t + l = ei := by
                      have := hTL2.out j (by omega)
                      rw [htp] at this
                      simpa using this
                    have d1 : (s + t + l == ei) = false := by rw [beq_eq_false_iff_ne]; exact hno
                    go_wp2_with fail
                    go_quiet (fail)
                    go_wp2_with fail
                    go_roundw
                    case rel => exact ⟨j + 1, by omega, by go_num, by rw [if_neg (by omega)], dm + nq, by rw [← hWd.out, World.drewN_drewN]⟩
                    case measure => simp [intOf]; omega
              · obtain rfl : m = j := by omega
                rw [if_pos g1]
                have g0 : decide ((nx : Int) < 0) = false := decide_eq_false (by omega)
                have g0' : ¬ (nx : Int) < 0 := by omega
                have hOd := Lib.hid (own_drewN dm hO.out)
                have hBd := Lib.hid (Lst.Below.drewN hBk.out dm)
                generalize hwd : wo.drewN dm = wd at *
                clear hwd
                obtain ⟨g, c, rfl⟩ := ownsRow_ne hOd.out ha1
                have hNews : Hid (∀ (q : Nat) (u : Value), (acc.map (Value.int .i64))[q]? = some u → (wd.alloc (.cells #[.int .i64 (nx : Int)] 2)).cell? ((⟨g, 0, none⟩ : Addr).add q) = some u) := Lib.hid fun q u hu => by
                  have hq : q < (acc.map (Value.int .i64)).length := (List.getElem?_eq_some_iff.1 hu).1
                  rw [wayAddr, Nat.zero_add]
                  exact ((hOd.out.alloc _).cellAt q (by rw [List.length_map] at hq; omega)).trans hu
                have hOlds : Hid (∀ (q : Nat) (u : Value), [Value.int .i64 (nx : Int)][q]? = some u → (wd.alloc (.cells #[.int .i64 (nx : Int)] 2)).cell? ((⟨wd.heap.size, 0, none⟩ : Addr).add q) = some u) := Lib.hid (news_oneN wd _ _ ())
                have hnl : Hid ((acc.map (Value.int .i64)).length = acc.length * 1) := Lib.hid (by rw [List.length_map, Nat.mul_one])
                go_wp2_with (at_builtin; refine wpList_append_full rfl _ _ _ rfl 2 i0 (.int .i64 0) 1 8 Try.underlying24 hi hz0 hz1 hz2 rfl (by decide) ⟨wd.heap.size, 0, none⟩ 1 1 [.int .i64 (nx : Int)] rfl rfl hOlds.out ⟨g, 0, none⟩ acc.length c _ rfl hnl.out hNews.out (by omega) (by unfold maxLen; omega) (by omega) ?_; intro v8 w8 hown8 hgr8; have hO8 := Lib.hid hown8; have hG8 := Lib.hid hgr8; clear hown8 hgr8)
                have hB8 := Lib.hid ((hBd.out.alloc hBd.out.size (.cells #[.int .i64 (nx : Int)] 2)).grown hG8.out (by rw [World.size_alloc]; have := hBd.out.size; omega) (fun q hq => by cases hq))
                have hO9 := Lib.hid (show w8.ownsRow w2.heap.size 2 1 v8 ((nx : Int) :: acc).length (((nx : Int) :: acc).map (Value.int .i64)) by
                  have h1 := ownsRow_mono hO8.out (show w2.heap.size ≤ (wd.alloc _).heap.size by rw [World.size_alloc]; have := hBd.out.size; omega)
                  rw [show ((nx : Int) :: acc).length = 1 + acc.length by rw [List.length_cons]; omega]
                  exact h1)
                go_roundw
                case rel => exact ⟨nx, f', (nx : Int) :: acc, by omega, by omega, by rw [List.length_cons]; omega, by rw [List.length_cons]; omega, rfl, hWn, hO9, hB8⟩
                case measure => simp [intOf]; omega
          · have hfin := Lib.hid (show wayL xs = acc by rw [← hW.out]; exact hSt.out f i acc (by omega))
            have hOw := Lib.hid (Own.new hO.out (by unfold maxLen; omega) |>.mono hwsz.out (Nat.le_refl _))
            have hR := Lib.hid (hP.out wr _ (by rw [hfin.out]; exact hOw.out) (below_on hB2.out (Nat.le_refl _) hBk.out))
            obtain ⟨g, c, rfl⟩ := ownsRow_ne hO.out (by omega)
            generalize (early xs).getD i 0 = ei at *
            go_wp2_with fail
            first | exact hR.out | (go_ret2; exact hR.out)
end Go.Proofs.Ytfnpbhplnlfnmaa
