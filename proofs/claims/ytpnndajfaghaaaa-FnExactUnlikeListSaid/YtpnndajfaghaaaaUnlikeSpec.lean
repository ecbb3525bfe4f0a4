/- The model's UnlikeList: each job to the machine where it ends first, in a table that grows. No condition. -/
import Derived.Test.YtpnndajfaghaaaaUnlike
import Derived.StillTailTactics
namespace Go.Proofs.Ytpnndajfaghaaaa
open Go.RowKit Go.Lst Go.Plan

/-- A row on its own base, or one that is still empty and full. -/
def EarlyRow (w : World) (base : Nat) (v : Value) (n : Nat) (xs : List Value) : Prop := w.ownsRow base 2 1 v n xs ∨ ((∃ b, v = .slice (some b) 0 0) ∧ n = 0 ∧ xs = [])
theorem wpList_append_early {w : World} {ops : Array Oper} {rest : List Oper} {o : Oper} {a : Act} {Q : Exit → Act → World → Prop} (hgd : o.guard = none) (s x : Operand) (t : TypeId)
    (ho : o.op = .call { callee := .builtin .append, args := #[s, x], argTypes := #[t, t] })
    (base : Nat) (i : TypeInfo) (z : Value) (bytes : Nat) (ht : Try.prog.underlying t = some (.slice 2)) (hi : Try.prog.info? 2 = some i) (hz : i.zero = some z)
    (hsize : i.size = 1) (hby : i.bytes = bytes) (hzs : z.cells.size = 1)
    (v : Value) (n : Nat) (xs : List Value) (hs : a.eval s = v) (hown : EarlyRow w base v n xs)
    (ad : Addr) (m c : Nat) (news : List Value) (hx : a.eval x = .slice (some ad) m c) (hl : news.length = m * 1) (hnews : ∀ j u, news[j]? = some u → w.cell? (ad.add j) = some u) (h1 : ∀ u ∈ news, u.oneCell' = true)
    (hm : 1 ≤ m) (h63 : n + m ≤ maxLen) (hbytes : (n + m) * bytes ≤ 140737488355328) (hbase : base ≤ w.heap.size)
    (h : ∀ v' w', w'.ownsRow base 2 1 v' (n + m) (xs ++ news) → (∃ row, w.grownBy w' row ∧ ∀ g, row = some g → base ≤ g) → wpList Try.prog ops Q rest (a.put o.dst v') w') : wpList Try.prog ops Q (o :: rest) a w := by
  rcases hown with ho1 | ⟨⟨b, rfl⟩, rfl, rfl⟩
  · exact wpList_append_own w hgd s x t ho base _ i z 1 bytes ht hi hz hsize hby hzs (by omega) v n xs hs ho1 ad m c news hx hl hnews h1 h63 hbytes hbase fun v' w' h2 h3 _ => h v' w' h2 ⟨_, h3, fun g hg => (ho1.lt g hg).1⟩
  · refine wpList_plain hgd fun K hK => ?_
    obtain ⟨v', w', hr, r1, r2⟩ := run_append_arg_grows (P := Try.prog) w t o.type _ i z 1 bytes ht hi hz hsize hby hzs (by omega) b 0 0 [] rfl (fun j u h => by simp at h) ad m c news hl hnews (by omega) h63 hbytes
    unfold Oper.wp execOp
    simp only [ho, resolve, invoke, builtin, Sem.run_bind, Sem.run_pure, Result.andThen_ok, List.map_toArray, List.map_cons, List.map_nil, hs, hx, hr]
    exact hK _ _ (h v' w' (ownsRow_mono r1 hbase) ⟨none, r2, fun g hg => by cases hg⟩)
theorem early_alloc {w : World} {base : Nat} {v : Value} {n : Nat} {xs : List Value} (h : EarlyRow w base v n xs) (o : Obj) : EarlyRow (w.alloc o) base v n xs := by
  rcases h with h | h
  · exact .inl (h.alloc o)
  · exact .inr h
theorem newsU (w : World) (t : TypeId) (u : Value) : ∀ (j : Nat) (x : Value), [u][j]? = some x → (w.alloc (.cells #[u] t)).cell? ((⟨w.heap.size, 0, none⟩ : Addr).add j) = some x := fun j x hj => by
  match j, hj with
  | 0, hj =>
    obtain rfl : u = x := by simpa using hj
    have : (⟨w.heap.size, 0, none⟩ : Addr).add 0 = ⟨w.heap.size, 0, none⟩ := rfl
    rw [this]
    simp
  | j + 1, hj => simp at hj
theorem one_intU (x : Int) : ∀ u ∈ [Value.int .i64 x], u.oneCell' = true := by simp [Value.oneCell']
theorem early_kept {w w' : World} {base : Nat} {v : Value} {n : Nat} {xs : List Value} {g : Nat} (h : EarlyRow w base v n xs) (hg : w.grownBy w' (some g)) (hb : g < base) : EarlyRow w' base v n xs := by
  rcases h with h | h
  · refine .inl (h.kept hg (.inr ?_))
    intro e
    have := (h.lt g e).1
    omega
  · exact .inr h
set_option maxHeartbeats 8000000 in
set_option maxRecDepth 100000 in
theorem specUnlike_any (B : Nat) (v : Value) (ts : List Int) (m : Int) (w : World) (h : LstI B w v ts) (hB : B ≤ w.heap.size) :
    Calls Try.prog 15 #[v, .int .i64 m] w (UnPost ts m w) := by
  have hT := Lib.hid (l02Unlike_un B v ts m w h)
  obtain ⟨a1, cap1, hv1, hl1, _, _, hc1⟩ := h.at_
  cases hq : unOk ts m
  · have hP : Hid (UnPost ts m w (.returned (.tuple #[.slice none 0 0, .int .i64 0, .bool false])) w) := Lib.hid
      ⟨_, by unfold unLast; rw [hq]; rfl, by unfold unRes; rw [hq]; exact own_nil, Below.refl _ _⟩
    rw [hq] at hT
    generalize UnPost ts m w = Q at *
    clear h hq hc1 hv1
    go_enter Try.func15, Try.ntmps15
    go_wp2_with (go_at_call 57; refine (hT.out).mono ?_; rintro e w' ⟨rfl, rfl⟩)
    go_ret3
    exact hP.out
  · have hq' := hq
    unfold unOk unLen at hq'
    simp only [Bool.and_eq_true, decide_eq_true_eq] at hq'
    obtain ⟨⟨hm, u1, u2, u3⟩, hok⟩ := hq'
    obtain ⟨m1, m2⟩ := inB_true hm
    obtain ⟨M, rfl⟩ : ∃ M : Nat, m = M := ⟨m.toNat, by omega⟩
    have m1' : 1 ≤ M := by omega
    rw [Int.toNat_natCast] at u2 u3
    rw [hq] at hT
    subst hv1
    have hz : ((M : Int) == 0) = false := by rw [beq_eq_false_iff_ne]; omega
    have hz0 : ¬ (M : Int) = 0 := by omega
    have hd : (ts.length : Int).tdiv (M : Int) = ((ts.length / M : Nat) : Int) := by rw [Int.tdiv_eq_ediv_of_nonneg (by omega)]; rfl
    have hJ : ts.length = ts.length / M * M := by have := Nat.div_add_mod ts.length M; rw [u2, Nat.mul_comm] at this; omega
    have hJ1 : 1 ≤ ts.length / M := by
      rcases Nat.eq_zero_or_pos (ts.length / M) with h0 | h0
      · rw [h0] at hJ; omega
      · exact h0
    have HJ := Lib.hid hJ
    clear hJ
    have hPo : Hid (∀ w' (pl fs : List Int) (v' : Value), unTo ts M (ts.length / M) = (pl, fs) → Own w.heap.size w'.heap.size w' v' 2 1 pl.length (pl.map (Value.int .i64)) → Below w.heap.size w w' → UnPost ts M w (.returned (.tuple #[v', .int .i64 (maxTo fs (M - 1)), .bool true])) w') := Lib.hid fun w' pl fs v' hS ho hb =>
      ⟨_, by unfold unLast; rw [hq, if_pos rfl, Int.toNat_natCast, hS], by unfold unRes; rw [hq, if_pos rfl, Int.toNat_natCast, hS]; exact ho, hb⟩
    have hK : Hid (∀ (i : Nat) (pl fs : List Int), i * M + M ≤ ts.length → unTo ts M i = (pl, fs) → Small fs (10000 * i) → _) := Lib.hid fun i pl fs (a : i * M + M ≤ ts.length) b c => un_round hok (show 1 ≤ M by omega) (pl := pl) (fs := fs) a b c
    have hX : Hid (∀ k, k < ts.length → 1 ≤ ts.getD k 0 ∧ ts.getD k 0 ≤ 10000) := Lib.hid fun k hk => by
      have e1 : ts[k]? = some (ts[k]'hk) := List.getElem?_eq_getElem _
      rw [getD_of e1]; exact allIn_of hok e1
    have hLn := Lib.hid (unTo_length ts M)
    have hZ : Hid (unTo ts M 0 = ([], List.replicate M 0)) := Lib.hid rfl
    have hC1 := Lib.hid hc1
    obtain ⟨i0, hi, hy0, hy1, hy2⟩ := info_parts infoI
    generalize UnPost ts (M : Int) w = Q at *
    clear h hq hc1 hok hm u1 u2
    generalize ts.length / M = J at *
    generalize ts.length = n at *
    unfold maxLen at hl1
    have hB1 := Lib.hid ((Below.refl w.heap.size w).alloc (Nat.le_refl _) (Obj.cells #[] 2))
    have hOu : Hid (∀ wr : World, ∀ b, EarlyRow wr b (.slice (some ⟨w.heap.size, 0, none⟩) 0 0) 0 []) := Lib.hid fun wr b => .inr ⟨⟨_, rfl⟩, rfl, rfl⟩
    generalize hw1 : w.alloc (Obj.cells #[] 2) = w1 at *
    have hW1 := Lib.hid hw1
    clear hw1
    go_enter Try.func15, Try.ntmps15
    go_wp2_with (first | (go_at_call 57; refine (hT.out).mono ?_; rintro e w' ⟨rfl, rfl⟩) | (at_make; rw [hW1.out]; refine wpList_make_full _ rfl _ _ _ rfl w1.heap.size _ i0 (.int .i64 0) 1 Try.underlying22 hi hy0 hy1 _ _ _ _ M rfl rfl rfl rfl ?c1 ?c2 ?c3 ?_))
    case c1 => rw [hy2]; omega
    case c2 => unfold maxLen; omega
    case c3 => exact Nat.le_refl _
    intro w3 hown3 hg3
    have hB3 := Lib.hid (hB1.out.grown hg3 hB1.out.size (fun k hk => by cases hk))
    have hOf := Lib.hid (zeros_own hown3)
    have hs3 : w1.heap.size < w3.heap.size := (hown3.lt _ rfl).2
    have hs1 := Lib.hid hB1.out.size
    clear hown3 hg3 hB1 hW1
    generalize w1.heap.size = gf at *
    go_wp2_with fail
    have hgf := Lib.hid (show w.heap.size ≤ gf from hs1.out)
    have hCells : Hid (∃ b o, a1 = some ⟨b, o, none⟩ ∧ b < B ∧ ∀ j, j < n → w.cell? ⟨b, o + j, none⟩ = some (.int .i64 (ts.getD j 0))) := Lib.hid (by
      obtain ⟨b, o, x, ha, hb, _, _⟩ := hC1.out 0 (by have := HJ.out; have := Nat.mul_le_mul hJ1 m1'; omega)
      refine ⟨b, o, ha, hb, fun j hj => ?_⟩
      obtain ⟨b', o', x', ha', hb', hx', hc'⟩ := hC1.out j hj
      rw [ha] at ha'
      injection ha' with ha'
      injection ha' with e1 e2 _
      subst e1 e2
      rw [getD_of hx']; exact hc')
    obtain ⟨b1, o1, rfl, hb1, hcell⟩ := hCells.out
    have hCe := Lib.hid hcell
    have hbB : b1 < w.heap.size := by omega
    clear hcell hC1 hCells hs1
    go_loopw [7, 9] (fun ov iv wr => ∃ (i : Nat) (pl fs : List Int) (ov1 : Value), ov1 = ov ∧ i ≤ J ∧ iv = .int .i64 i ∧ Hid (unTo ts M i = (pl, fs)) ∧ Hid (Small fs (10000 * i)) ∧ Hid (EarlyRow wr (gf + 1) ov i (pl.map (Value.int .i64))) ∧ Hid (wr.ownsRow gf 2 1 (.slice (some ⟨gf, 0, none⟩) M M) M (fs.map (Value.int .i64))) ∧ Hid (Below w.heap.size w wr) ∧ gf < wr.heap.size) (fun _ iv _ => J - (intOf iv).toNat)
    case atStart => exact ⟨0, [], _, _, rfl, Nat.zero_le _, rfl, hZ, Lib.hid (small_zeros M), Lib.hid (hOu.out _ _), hOf, hB3, hs3⟩
    case round =>
      clear hB3 hOf hs3 hOu
      obtain ⟨i, pl, fs, ov, rfl, hiJ, rfl, hS, hSm, hO1, hO2, hBw, g2⟩ := hrel
      have hlf : fs.length = M := by have := (hLn.out i).2; rw [hS.out] at this; exact this
      by_cases hlt : i < J
      · obtain ⟨b, hb⟩ : ∃ b, b = i * M := ⟨_, rfl⟩
        have hbn : b + M ≤ n := by
          have := Nat.mul_le_mul_right M (show i + 1 ≤ J by omega)
          rw [Nat.add_mul, Nat.one_mul] at this
          have := HJ.out
          omega
        obtain ⟨a, ha, haM, hS2, hSm2⟩ := hK.out i pl fs (by rw [← hb]; exact hbn) hS.out hSm.out
        have hw1 : IntKind.i64.wrap ((i : Int) * (M : Int)) = (b : Int) := by
          have e : (i : Int) * (M : Int) = (b : Int) := by rw [hb]; exact (Int.natCast_mul i M).symm
          rw [e]; exact IntWalk.i64_in _ (by omega)
        rw [← hb] at ha hS2 hSm2
        have HA := Lib.hid ha
        have HS2 := Lib.hid hS2
        have HSm2 := Lib.hid hSm2
        have hE := Lib.hid (fun k (hk : k < M) => getD_of (endsAt_get ts fs (b := b) hk))
        have hLe := Lib.hid (leastAt_le (endsAt ts fs M b))
        have hLs : Hid (∀ k, leastAt (endsAt ts fs M b) (k + 1) = if (endsAt ts fs M b).getD (k + 1) 0 < (endsAt ts fs M b).getD (leastAt (endsAt ts fs M b) k) 0 then k + 1 else leastAt (endsAt ts fs M b) k) := Lib.hid fun _ => rfl
        have hL0 : Hid (leastAt (endsAt ts fs M b) 0 = 0) := Lib.hid rfl
        clear hb ha hS2 hSm2
        generalize endsAt ts fs M b = es at *
        have hij : (i : Int) < (J : Int) := by omega
        go_wp2_with fail
        go_loopw [10, 11] (fun av kv wq => ∃ (k c : Nat), k + 1 ≤ M ∧ kv = .int .i64 ((k + 1 : Nat) : Int) ∧ av = .int .i64 (c : Int) ∧ Hid (c = leastAt es k) ∧ Hid (EarlyRow wq (gf + 1) ov i (pl.map (Value.int .i64))) ∧ Hid (wq.ownsRow gf 2 1 (.slice (some ⟨gf, 0, none⟩) M M) M (fs.map (Value.int .i64))) ∧ Hid (Below w.heap.size w wq) ∧ gf < wq.heap.size) (fun _ kv _ => M - (intOf kv).toNat)
        case atStart => exact ⟨0, 0, by omega, rfl, rfl, Lib.hid hL0.out.symm, hO1, hO2, hBw, g2⟩
        case round =>
          clear hO1 hO2 hBw g2
          obtain ⟨k, c, hk, rfl, rfl, hc, hO1, hO2, hBw, g2⟩ := hrel
          have hck : c ≤ k := by rw [hc.out]; exact hLe.out k
          obtain ⟨s, hs⟩ : ∃ s, s = k + 1 := ⟨_, rfl⟩
          rw [← hs] at hk ⊢
          by_cases hls : s < M
          · have p1 : wr.cell? ⟨gf, s, none⟩ = some (.int .i64 (fs.getD s 0)) := (hO2.out.cellAt s (by omega)).trans (by rw [List.getElem?_map, List.getElem?_eq_getElem (by omega), List.getD_eq_getElem?_getD, List.getElem?_eq_getElem (by omega)]; rfl)
            have p2 : wr.cell? ⟨gf, c, none⟩ = some (.int .i64 (fs.getD c 0)) := (hO2.out.cellAt c (by omega)).trans (by rw [List.getElem?_map, List.getElem?_eq_getElem (by omega), List.getD_eq_getElem?_getD, List.getElem?_eq_getElem (by omega)]; rfl)
            obtain ⟨bs, hbs⟩ : ∃ x, x = b + s := ⟨_, rfl⟩
            obtain ⟨bc, hbc⟩ : ∃ x, x = b + c := ⟨_, rfl⟩
            have p3 := hCe.out bs (by omega)
            have p4 := hCe.out bc (by omega)
            rw [← hBw.out.cell (p := ⟨b1, o1 + bs, none⟩) hbB] at p3
            rw [← hBw.out.cell (p := ⟨b1, o1 + bc, none⟩) hbB] at p4
            have y1 : IntKind.i64.wrap ((b : Int) + (s : Int)) = (bs : Int) := by rw [show (b : Int) + (s : Int) = (bs : Int) by omega]; exact IntWalk.i64_in _ (by omega)
            have y2 : IntKind.i64.wrap ((b : Int) + (c : Int)) = (bc : Int) := by rw [show (b : Int) + (c : Int) = (bc : Int) by omega]; exact IntWalk.i64_in _ (by omega)
            have e1 := hE.out s hls
            have e2 := hE.out c (by omega)
            rw [← hbs] at e1
            rw [← hbc] at e2
            have f1 := hSm.out s
            have f2 := hSm.out c
            have x1 := hX.out bs (by omega)
            have x2 := hX.out bc (by omega)
            have hL : leastAt es s = if es.getD s 0 < es.getD c 0 then s else c := by rw [hs, hc.out]; exact hLs.out k
            rw [e1, e2] at hL
            have q3 : (bs : Int) < (n : Int) := by omega
            have q4 : (bc : Int) < (n : Int) := by omega
            clear e1 e2 hbs hbc
            generalize fs.getD s 0 = u1 at *
            generalize fs.getD c 0 = u2 at *
            generalize ts.getD bs 0 = t1 at *
            generalize ts.getD bc 0 = t2 at *
            have y3 : IntKind.i64.wrap (u1 + t1) = u1 + t1 := IntWalk.i64_in _ (by omega)
            have y4 : IntKind.i64.wrap (u2 + t2) = u2 + t2 := IntWalk.i64_in _ (by omega)
            have y5 : IntKind.i64.wrap ((s : Int) + 1) = ((s + 1 : Nat) : Int) := by rw [IntWalk.i64_in _ (by omega)]; omega
            have q1 : (s : Int) < (M : Int) := by omega
            have q2 : (c : Int) < (M : Int) := by omega
            have hL2 := Lib.hid hL
            have hsM := Lib.hid (show s + 1 ≤ M by omega)
            clear hs hL f1 f2 x1 x2
            by_cases hcm : u1 + t1 < u2 + t2
            · have hcd : decide (u1 + t1 < u2 + t2) = true := decide_eq_true hcm
              have hN := Lib.hid (show s = leastAt es s by rw [hL2.out, if_pos hcm])
              go_wp2_with fail
              go_quiet (fail)
              go_wp2
              go_roundw
              case rel => exact ⟨s, s, hsM.out, by first | rfl | go_num, by first | rfl | go_num, hN, Lib.hid hO1.out, Lib.hid hO2.out, Lib.hid (Lst.Below.drewN hBw.out _), g2⟩
              case measure => simp [intOf]; have := hsM.out; omega
            · have hcd : decide (u1 + t1 < u2 + t2) = false := decide_eq_false hcm
              have hN := Lib.hid (show c = leastAt es s by rw [hL2.out, if_neg hcm])
              go_wp2_with fail
              go_quiet (fail)
              go_wp2
              go_roundw
              case rel => exact ⟨s, c, hsM.out, by first | rfl | go_num, by first | rfl | go_num, hN, Lib.hid hO1.out, Lib.hid hO2.out, Lib.hid (Lst.Below.drewN hBw.out _), g2⟩
              case measure => simp [intOf]; have := hsM.out; omega
          · have q1 : ¬ (s : Int) < (M : Int) := by omega
            obtain rfl : c = a := by rw [hc.out, HA.out, show k = M - 1 by omega]
            obtain ⟨bc, hbc⟩ : ∃ x, x = b + c := ⟨_, rfl⟩
            have p4 := hCe.out bc (by omega)
            have f2 := hSm.out c
            have x2 := hX.out bc (by omega)
            have y2 : IntKind.i64.wrap ((b : Int) + (c : Int)) = (bc : Int) := by rw [show (b : Int) + (c : Int) = (bc : Int) by omega]; exact IntWalk.i64_in _ (by omega)
            have q2 : (c : Int) < (M : Int) := by omega
            have q4 : (bc : Int) < (n : Int) := by omega
            have HS3 := HS2.out
            have HSm3 := HSm2.out
            rw [← hbc] at HS3 HSm3
            have HS4 := Lib.hid HS3
            have HSm4 := Lib.hid HSm3
            have hfc : ∀ wx : World, wx.ownsRow gf 2 1 (.slice (some ⟨gf, 0, none⟩) M M) M (fs.map (Value.int .i64)) → wx.cell? ⟨gf, c, none⟩ = some (.int .i64 (fs.getD c 0)) := fun wx hx => (hx.cellAt c (by omega)).trans (by rw [List.getElem?_map, List.getElem?_eq_getElem (by omega), List.getD_eq_getElem?_getD, List.getElem?_eq_getElem (by omega)]; rfl)
            have hFc := Lib.hid hfc
            have hsz := Lib.hid hBw.out.size
            clear hbc HS3 HSm3 HS2 HSm2 HA hs hc hck hfc
            generalize fs.getD c 0 = u2 at *
            generalize ts.getD bc 0 = t2 at *
            have y4 : IntKind.i64.wrap (u2 + t2) = u2 + t2 := IntWalk.i64_in _ (by omega)
            go_wp2_with (at_builtin; refine wpList_append_early rfl _ _ _ rfl (gf + 1) i0 (.int .i64 0) 8 Try.underlying22 hi hy0 hy1 hy2 rfl _ i _ rfl (early_alloc hO1.out _) ⟨wr.heap.size, 0, none⟩ 1 1 [.int .i64 (c : Int)] rfl rfl (newsU wr _ _) (one_intU _) (by omega) (by unfold maxLen; omega) (by omega) (by rw [World.size_alloc]; omega) ?_; rintro v8 w8 hown8 ⟨row, hgr, hrow⟩; have hB8 := Lib.hid ((hBw.out.alloc hsz.out (.cells #[.int .i64 (c : Int)] 2)).grown hgr (by rw [World.size_alloc]; have := hsz.out; omega) (fun g hg => by have := hrow g hg; have := hgf.out; omega)); have hF8 := Lib.hid ((hO2.out.alloc (.cells #[.int .i64 (c : Int)] 2)).kept hgr (.inr (by intro e; have := hrow gf (by first | exact e.symm | exact e); omega))); have hO8 := Lib.hid (show w8.ownsRow (gf + 1) 2 1 v8 (i + 1) ((pl ++ [(c : Int)]).map (Value.int .i64)) by rw [List.map_append]; exact hown8); clear hown8 hgr hrow)
            have p2 := hFc.out w8 hF8.out
            rw [← hB8.out.cell (p := ⟨b1, o1 + bc, none⟩) hbB] at p4
            have g8 : gf < w8.heap.size := (hF8.out.lt gf rfl).2
            have hfr : w8.frozen? ⟨gf, c, none⟩ = false := hF8.out.frozenAt c
            clear hO1 hO2 hBw g2 hsz f2 x2
            go_still_tail 14, (by kernel_rfl)
            change wpList _ _ _ _ _ w8.drew
            have hO1c := Lib.hid (show w8.drew.ownsRow (gf + 1) 2 1 v8 (i + 1) ((pl ++ [(c : Int)]).map (Value.int .i64)) from hO8.out)
            have hO2c := Lib.hid (show w8.drew.ownsRow gf 2 1 (.slice (some ⟨gf, 0, none⟩) M M) M (fs.map (Value.int .i64)) from hF8.out)
            have hBc := Lib.hid (show Below w.heap.size w w8.drew from hB8.out.drew)
            have hfdc : w8.drew.cell? ⟨gf, c, none⟩ = some (.int .i64 u2) := p2
            have hfrc : w8.drew.frozen? ⟨gf, c, none⟩ = false := hfr
            have g9 : gf < w8.drew.heap.size := g8
            clear hO8 hF8 hB8 p2 p4 hfr g8
            generalize w8.drew = w5 at *
            have hst2 := hO2c.out.stored c (.int .i64 (u2 + t2))
            have hO2d := Lib.hid (show (w5.setCell ⟨gf, c, none⟩ (.int .i64 (u2 + t2))).ownsRow gf 2 1 (.slice (some ⟨gf, 0, none⟩) M M) M ((fs.set c (u2 + t2)).map (Value.int .i64)) by rw [List.map_set]; exact hst2.1)
            have hO1d := Lib.hid (early_kept (.inl hO1c.out) hst2.2 (by omega))
            have hBd := Lib.hid (hBc.out.grown hst2.2 hBc.out.size (fun q hq => by cases hq; exact hgf.out))
            have g10 := Lib.hid (show gf < (w5.setCell ⟨gf, c, none⟩ (.int .i64 (u2 + t2))).heap.size by have := hst2.2.size; omega)
            clear hst2 hO1c hO2c hBc g9
            go_wp2_with fail
            go_roundw
            case rel => exact ⟨i + 1, _, _, _, rfl, by omega, by go_num, HS4, HSm4, hO1d, hO2d, hBd, g10.out⟩
            case measure => simp [intOf]; omega
      · have hiJ2 : i = J := by omega
        have q1 : ¬ (i : Int) < (J : Int) := by omega
        have hLst := Lib.hid (show LstI wr.heap.size wr (.slice (some ⟨gf, 0, none⟩) M M) fs from by
          have h1 : Own gf wr.heap.size wr (.slice (some ⟨gf, 0, none⟩) M M) 2 1 fs.length (fs.map (Value.int .i64)) := by rw [hlf]; exact Own.new hO2.out (by unfold maxLen; omega)
          exact h1.lstI (Nat.le_refl _))
        have hG := Lib.hid (l02Greatest_any wr.heap.size _ fs wr hLst.out (by omega))
        rw [hlf] at hG
        have hpl : pl.length = i := by have := (hLn.out i).1; rw [hS.out] at this; exact this
        have hOw : Own w.heap.size wr.heap.size wr ov 2 1 pl.length (pl.map (Value.int .i64)) := by
          rcases hO1.out with h1 | ⟨_, h1, _⟩
          · rw [hpl]
            exact ⟨ownsRow_mono h1 (by have := hgf.out; omega), by unfold maxLen; omega, fun q hq => (h1.lt q hq).2⟩
          · omega
        have hR := Lib.hid (hPo.out wr pl fs ov (by rw [← hiJ2]; exact hS.out) hOw hBw.out)
        clear hOw hLst hO1 hO2 hpl hlf hiJ2
        go_wp2_with (go_at_call 58; (with_reducible refine (hG.out).mono ?_); rintro e w' ⟨rfl, rfl⟩)
        go_ret3
        exact hR.out
end Go.Proofs.Ytpnndajfaghaaaa
