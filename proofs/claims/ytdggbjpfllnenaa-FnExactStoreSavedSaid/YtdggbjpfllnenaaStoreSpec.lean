/- Contract: the model's bytes of what is saved. -/
import Derived.Test.YtdggbjpfllnenaaStoreImpl
import Derived.Laws.IdiomStrings
import Derived.Deep.RegionLaw
namespace Go.Proofs.Ytdggbjpfllnenaa
open Go.RowKit Go.Lst Go.Lib

theorem Buf.drew {A : Nat} {W0 w : World} {v : Value} {l : List Int} (h : Buf A W0 v l w) : Buf A W0 v l w.drew := by
  obtain ⟨⟨g, c, e, hg⟩, h2⟩ := h
  exact ⟨⟨g, c, e, hg⟩, h2.drewN 1⟩
theorem buf_row {ops : Array Oper} {rest : List Oper} {o : Oper} {a : Act} {Q : Exit → Act → World → Prop} (hgd : o.guard = none) (s x : Operand) (t : TypeId)
    (ho : o.op = .call { callee := .builtin .append, args := #[s, x], argTypes := #[t, t] })
    (A : Nat) (i : TypeInfo) (ht : Try.prog.underlying t = some (.slice 5)) (hi : Try.prog.info? 5 = some i) (hz : i.zero = some (.int .u8 0)) (hsize : i.size = 1) (hby : i.bytes = 1)
    (v : Value) (l : List Int) (hs : a.eval s = v) (W0 w0 : World) (cs : List Int) (R : Array Value) (fr : Nat × Nat) (cap n : Nat) (hb : Buf A W0 v l w0) (hl0 : 0 < l.length) (hn : cs.length = n)
    (hR : ∀ (j : Nat) (u : Value), (cs.map (Value.int .u8))[j]? = some u → R[j]? = some u)
    (hx : a.eval x = .slice (some ⟨w0.heap.size, 0, none⟩) n cap) (hlen : l.length + n ≤ 140737488355328)
    (h : ∀ v' w', Buf A W0 v' (l ++ cs) w' → (∀ b T cs', T ≠ 5 → Whole w0 b T cs' → Whole w' b T cs') → wpList Try.prog ops Q rest (a.put o.dst v') w') : wpList Try.prog ops Q (o :: rest) a (w0.alloc (.cells R 5 fr)) := by
  subst hn
  have hb' := hb.2.alloc (.cells R 5 fr)
  have hA : (w0.alloc (.cells R 5 fr)).heap[w0.heap.size]? = some (.cells R 5 fr) := by
    show (w0.heap.push _)[w0.heap.size]? = _
    simp
  refine wpList_append_ownF _ hgd s x t ho A 5 i (.int .u8 0) 1 1 ht hi hz hsize hby rfl (by decide) v l.length (l.map (Value.int .u8)) hs hb'.1 ⟨w0.heap.size, 0, none⟩ cs.length cap (cs.map (Value.int .u8)) hx (by simp) ?_ ?_ (by unfold maxLen; omega) (by omega) hb'.2.2 ?_
  · intro j u hj
    have ea : (⟨w0.heap.size, 0, none⟩ : Addr).add j = ⟨w0.heap.size, j, none⟩ := by unfold Addr.add; split <;> simp_all
    rw [ea, cell_of_row _ _ _ _ _ _ hA]
    exact hR j u hj
  · intro u hu
    obtain ⟨y, _, rfl⟩ := List.mem_map.1 hu
    rfl
  · intro v' w' ho' hg _
    refine h v' w' (buf_of (n := l.length + cs.length) (by rw [List.map_append]; exact hb'.grown ho' hg) (by simp) (by omega)) fun b T cs' hT hW => ?_
    have hW' := hW.more (.cells R 5 fr)
    exact hW'.beside hg fun e => ownBlock_neF hb'.1 hW' hT e.symm
theorem step_bytes {ops : Array Oper} {o : Oper} {a : Act} {K : Act → World → Prop} {Q : Exit → Act → World → Prop} {E : Prop} (hgd : o.guard = none) (s x : Operand) (t : TypeId)
    (ho : o.op = .call { callee := .builtin .append, args := #[s, x], argTypes := #[t, t] })
    (A : Nat) (i : TypeInfo) (ht : Try.prog.underlying t = some (.slice 5)) (hi : Try.prog.info? 5 = some i) (hz : i.zero = some (.int .u8 0)) (hsize : i.size = 1) (hby : i.bytes = 1)
    (v : Value) (l : List Int) (W0 w0 : World) (cs : List Int) (hs : a.eval s = v) (hb : Buf A W0 v l w0) (hcs : 0 < cs.length)
    (hx : a.eval x = .slice (some ⟨w0.heap.size, 0, none⟩) cs.length cs.length) (hlen : l.length + cs.length ≤ 140737488355328)
    (h : ∀ v' w', Buf A W0 v' (l ++ cs) w' → (∀ b T cs', T ≠ 5 → Whole w0 b T cs' → Whole w' b T cs') → K (a.put o.dst v') w') :
    if Region.wanted o (yielded ops a.tmps) = true then Oper.wp Try.prog o a (w0.alloc (.cells (cs.map (Value.int .u8)).toArray 5)) K Q else E := by
  have hw : Region.wanted o (yielded ops a.tmps) = true := by simp [Region.wanted, hgd]
  rw [if_pos hw]
  have hb' := hb.2.alloc (.cells (cs.map (Value.int .u8)).toArray 5)
  obtain ⟨v', w', hr, h2, h3, h4⟩ := run_append_ownF (P := Try.prog) _ A t o.type 5 i (.int .u8 0) 1 1 ht hi hz hsize hby rfl (by decide) v l.length (l.map (Value.int .u8)) hb'.1 ⟨w0.heap.size, 0, none⟩ cs.length cs.length (cs.map (Value.int .u8)) (by simp) (fun j u hj => by
    have ea : (⟨w0.heap.size, 0, none⟩ : Addr).add j = ⟨w0.heap.size, j, none⟩ := by unfold Addr.add; split <;> simp_all
    rw [ea]
    exact (Whole.made w0 5 (cs.map (Value.int .u8)).toArray (b := w0.heap.size) rfl).at_ (i := j) (by simpa using hj)) (fun u hu => by
    obtain ⟨y, _, rfl⟩ := List.mem_map.1 hu
    rfl) (by unfold maxLen; omega) (by omega) hb'.2.2
  unfold Oper.wp execOp
  simp only [ho, resolve, invoke, builtin, Sem.run_bind, Sem.run_pure, Result.andThen_ok, List.map_toArray, List.map_cons, List.map_nil, hs, hx, hr]
  refine h v' w' (buf_of (n := l.length + cs.length) (by rw [List.map_append]; exact hb'.grown h2 h3) (by simp) (by omega)) fun b T cs' hT hW => ?_
  have hW' := hW.more (.cells (cs.map (Value.int .u8)).toArray 5)
  exact hW'.beside h3 fun e => ownBlock_neF hb'.1 hW' hT e.symm
theorem row_text (nm : ByteArray) (cap : Nat) : ∀ (j : Nat) (u : Value), ((numsOf nm).map (Value.int .u8))[j]? = some u → (bytesRow nm cap)[j]? = some u := fun j u hu => by
  have hj : j < nm.data.size := by
    have := (List.getElem?_eq_some_iff.1 hu).1
    simpa [numsOf] using this
  rw [bytesRow_at nm cap j hj]
  simp only [numsOf, List.map_map, List.getElem?_map, Array.getElem?_toList, Array.getElem?_eq_getElem hj, Option.map_some, Function.comp] at hu
  exact hu
set_option maxHeartbeats 8000000 in
set_option maxRecDepth 100000 in
theorem l07Store_any (g B : Nat) (vt vs : Value) (d : SavedD) (w : World) (X0 : Whole w g 31 #[.string d.name, vt, vs]) (ht : LstTask B w vt d.tasks) (hs : LstI B w vs d.starts) (hOk : OkS d) (hp : d.name.size ≤ maxLen) (hB : B ≤ w.heap.size) :
    Calls Try.prog 12 #[.pointer (some ⟨g, 0, none⟩)] w fun e w' => e = .returned (.string (storeB d)) ∧ Below w.heap.size w w' := by
  obtain ⟨at1, k1, rfl, l1, _, _, hct⟩ := ht.at_
  obtain ⟨as1, k2, rfl, l2, _, _, hcs⟩ := hs.at_
  have hCt := Lib.hid hct
  have hCs := Lib.hid hcs
  clear ht hs hct hcs
  obtain ⟨i0, hi, hz0, hz1, hz2⟩ := info_parts infoB8
  have hLen : Hid (∀ k m, k ≤ d.tasks.length → m ≤ d.starts.length → (headB d ++ tasksB d.tasks k ++ startsB d.starts m).length ≤ 700) := Lib.hid fun k m a b => some_len hOk a b
  have hnt : d.tasks.length ≤ 16 := hOk.tasks.most
  have hsz := hOk.small
  have hOks := Lib.hid hOk
  clear hOk
  have u1 : IntKind.u8.wrap (d.name.size : Int) = d.name.size := IntWalk.u8_in _ (by omega)
  have u2 : IntKind.u8.wrap (d.tasks.length : Int) = d.tasks.length := IntWalk.u8_in _ (by omega)
  have hHd : Hid ([80, 76, 78, 49, (d.name.size : Int)] ++ numsOf d.name ++ [(d.tasks.length : Int)] = headB d ++ tasksB d.tasks 0) := Lib.hid (by simp [headB, tasksB])
  have hNl : (numsOf d.name).length = d.name.size := numsOf_len _
  have kc := fun (w : World) (C : Array Value) (n c : Nat) => run_convert_bytes_const (P := Try.prog) w 43 5 C n c Try.underlying43 Try.underlying5
  have kb := fun (w : World) (s : ByteArray) => run_bytes_of_string (P := Try.prog) w 9 43 5 s Try.underlying9 Try.underlying43 Try.underlying5
  unfold maxLen at l1 l2 hp
  have X2 := Lib.hid X0
  have gw := Lib.hid X0.size
  have G2 := Lib.hid (X0.at_ (i := 2) rfl)
  clear X0
  have c0 := (X2.out.more (.cells #[.int .u8 80, .int .u8 76, .int .u8 78, .int .u8 49] 5 (4, 5))).at_ (i := 0) rfl
  go_enter Try.func12, Try.ntmps12
  go_wp2_with (first
    | (at_builtin; refine buf_bytes rfl _ _ _ rfl w.heap.size i0 Try.underlying43 hi hz0 hz1 hz2 v4 _ rfl w w4 [(d.tasks.length : Int)] L4.out (Nat.zero_lt_succ _) rfl (by simp [hNl]; omega) ?_; intro v5 w5 hb5 hk5; have L5 := Lib.hid (show Buf w.heap.size w v5 (headB d ++ tasksB d.tasks 0) w5 by rw [← hHd.out]; exact hb5); have X5 := Lib.hid (hk5 _ _ _ (by decide) X4.out); have c1 := X5.out.at_ (i := 1) rfl; clear hb5 hk5)
    | (at_builtin; refine buf_row rfl _ _ _ rfl w.heap.size i0 Try.underlying43 hi hz0 hz1 hz2 v3 _ rfl w w3.drew (numsOf d.name) (bytesRow d.name _) _ _ d.name.size L3.out.drew (by simp) hNl (row_text _ _) rfl (by simp; omega) ?_; intro v4 w4 hb4 hk4; have L4 := Lib.hid hb4; have X4 := Lib.hid (hk4 _ _ _ (by decide) (X3.out.draws 1)); have c1 := X4.out.at_ (i := 1) rfl; clear hb4 hk4)
    | (at_builtin; refine buf_first rfl _ _ _ rfl i0 Try.underlying43 hi hz0 hz1 hz2 w (d.name.size : Int) rfl rfl ?_; intro v3 w3 hb3 hk3; have L3 := Lib.hid hb3; have X3 := Lib.hid (hk3 _ _ _ (by decide) X2.out); have c0 := X3.out.at_ (i := 0) rfl; clear hb3 hk3))
  have hWB := Lib.hid (fun wr v l (h : Buf w.heap.size w v l wr) => (h.below : Below w.heap.size w wr))
  clear L3 L4 X2 X3 X4 c0 c1 hHd u1 u2
  go_loopw [3, 40] (fun bv i wr => ∃ k : Nat, k ≤ d.tasks.length ∧ i = .int .i64 k ∧ Hid (Buf w.heap.size w bv (headB d ++ tasksB d.tasks k) wr) ∧ Hid (Whole wr g 31 #[.string d.name, .slice at1 d.tasks.length k1, .slice as1 d.starts.length k2])) (fun _ i _ => d.tasks.length - (intOf i).toNat)
  case atStart => exact ⟨0, Nat.zero_le _, rfl, L5, X5⟩
  case round =>
    obtain ⟨k, hk, rfl, hBf, hXs⟩ := hrel
    clear L5 X5
    generalize wr = wo at *
    have hl9 : Hid ((headB d ++ tasksB d.tasks k).length ≤ 700) := Lib.hid (by have := hLen.out k 0 hk (Nat.zero_le _); simpa [startsB] using this)
    by_cases hlt : k < d.tasks.length
    · obtain ⟨b, o, x, vb, vl, rfl, hbB, hx, h0, h1, h2, h3, l0, l1⟩ := hCt.out k hlt
      have hbw : b < w.heap.size := by omega
      have H2 := Lib.hid h2
      have hBo := Lib.hid (hWB.out _ _ _ hBf.out)
      rw [← hBo.out.cell (p := ⟨b, o + k * 4, none⟩) hbw] at h0
      rw [← hBo.out.cell (p := ⟨b, o + k * 4 + 1, none⟩) hbw] at h1
      rw [← hBo.out.cell (p := ⟨b, o + k * 4 + 2, none⟩) hbw] at h2
      have s1 := hXs.out.at_ (i := 1) rfl
      have hT := Lib.hid (hOks.out.tasks.each k x hx)
      have hbl : x.Before.length ≤ 16 := by have := before_len hT.out (by omega); omega
      obtain ⟨ab, nb, rfl, _, _, _, hcb⟩ := l0.at_
      obtain ⟨al, nl, rfl, _, _, _, hcl⟩ := l1.at_
      have w1 : IntKind.u8.wrap x.Time = x.Time := IntWalk.u8_in _ (by have := hT.out.time; omega)
      have w2' : IntKind.u8.wrap x.Needs = x.Needs := IntWalk.u8_in _ (by have := hT.out.needs; omega)
      have w3' : IntKind.u8.wrap (x.Before.length : Int) = x.Before.length := IntWalk.u8_in _ (by omega)
      have hll : x.Before.length = x.Lags.length := hT.out.len
      have E1 : Hid (∀ j, j < x.Before.length → ∃ b o, ab = some ⟨b, o, none⟩ ∧ b < w.heap.size ∧ w.cell? ⟨b, o + j, none⟩ = some (.int .i64 (bAt x j))) := Lib.hid fun j hj => by
        obtain ⟨b, o, y, q1, q2, q3, q4⟩ := hcb j hj
        exact ⟨b, o, q1, by omega, by rw [q4, bAt, getD_some q3]⟩
      have E2 : Hid (∀ j, j < x.Before.length → ∃ b o, al = some ⟨b, o, none⟩ ∧ b < w.heap.size ∧ w.cell? ⟨b, o + j, none⟩ = some (.int .i64 (lAt x j))) := Lib.hid fun j hj => by
        obtain ⟨b, o, y, q1, q2, q3, q4⟩ := hcl j (by omega)
        exact ⟨b, o, q1, by omega, by rw [q4, lAt, getD_some q3]⟩
      have H3 := Lib.hid h3
      have hLl := Lib.hid hll
      have hGx := Lib.hid (show d.tasks.getD k default = x from getD_some hx)
      clear hx h3 l0 l1 hcb hcl hll
      go_wp2_with fail
      have hS0 : Hid (∀ w' : World, Below w.heap.size w w' → w'.cell? ⟨b, o + k * 4, none⟩ = some (.int .i64 x.Time) ∧ w'.cell? ⟨b, o + k * 4 + 1, none⟩ = some (.int .i64 x.Needs) ∧ w'.cell? ⟨b, o + k * 4 + 2, none⟩ = some (.slice ab x.Before.length nb)) := Lib.hid fun w' hb => ⟨by rw [hb.cell (p := ⟨b, o + k * 4, none⟩) hbw, ← hBo.out.cell (p := ⟨b, o + k * 4, none⟩) hbw]; exact h0, by rw [hb.cell (p := ⟨b, o + k * 4 + 1, none⟩) hbw, ← hBo.out.cell (p := ⟨b, o + k * 4 + 1, none⟩) hbw]; exact h1, by rw [hb.cell (p := ⟨b, o + k * 4 + 2, none⟩) hbw, ← hBo.out.cell (p := ⟨b, o + k * 4 + 2, none⟩) hbw]; exact h2⟩
      go_region_held3 (fun w' => w'.cell? ⟨b, o + k * 4, none⟩ = some (.int .i64 x.Time) ∧ w'.cell? ⟨b, o + k * 4 + 1, none⟩ = some (.int .i64 x.Needs) ∧ w'.cell? ⟨b, o + k * 4 + 2, none⟩ = some (.slice ab x.Before.length nb)) ((first | exact hS0.out _ hBo.out | exact hS0.out _ hBo.out.drew | exact hS0.out _ (hBf.out.drew.alloc _).below | exact hS0.out _ hB9.out | exact hS0.out _ hB9.out.drew)) ((first | (refine step_bytes (by rfl) _ _ _ (by rfl) w.heap.size i0 Try.underlying43 hi hz0 hz1 hz2 u3 _ w wo.drew [x.Time, x.Needs, (x.Before.length : Int)] (by rfl) hBf.out.drew (Nat.zero_lt_succ _) (by rfl) (by have := hl9.out; show _ + 3 ≤ _; omega) ?_; intro v9 w9 hb9 hk9; have L9 := Lib.hid (show Buf w.heap.size w v9 ((headB d ++ tasksB d.tasks k) ++ (headT x ++ pairB x 0)) w9 from hb9); have hB9 := Lib.hid (hWB.out _ _ _ hb9); have XS := Lib.hid (hk9 _ _ _ (by decide) (hXs.out.draws 1)); clear hb9 hk9)))
      all_goals
        have t2 := (hS0.out _ hB9.out).2.2
        clear h0 h1 h2 s1 w1 w2' w3' hB9 hS0
        go_wp2_with fail
        clear t2
        go_loopw [3, 73] (fun bv2 i2 wr2 => ∃ j : Nat, j ≤ x.Before.length ∧ i2 = .int .i64 j ∧ Hid (Buf w.heap.size w bv2 ((headB d ++ tasksB d.tasks k) ++ (headT x ++ pairB x j)) wr2) ∧ Hid (Whole wr2 g 31 #[.string d.name, .slice (some ⟨b, o, none⟩) d.tasks.length k1, .slice as1 d.starts.length k2])) (fun _ i2 _ => x.Before.length - (intOf i2).toNat)
        case atStart => exact ⟨0, Nat.zero_le _, rfl, L9, XS⟩
        case round =>
          obtain ⟨j, hj, rfl, hBf2, hXs2⟩ := hrel
          clear L9 XS
          have hl12 : Hid (((headB d ++ tasksB d.tasks k) ++ (headT x ++ pairB x j)).length ≤ 800) := Lib.hid (by have := hl9.out; simp only [List.length_append, headT, pairB_len, List.length_cons, List.length_nil] at this ⊢; omega)
          by_cases hjl : j < x.Before.length
          · obtain ⟨b1, o1, rfl, hb1, e1⟩ := E1.out j hjl
            obtain ⟨b2, o2, rfl, hb2, e2⟩ := E2.out j hjl
            have hBr := Lib.hid (hWB.out _ _ _ hBf2.out)
            have hS2 : Hid (∀ w' : World, Below w.heap.size w w' → w'.cell? ⟨b, o + k * 4 + 2, none⟩ = some (.slice (some ⟨b1, o1, none⟩) x.Before.length nb) ∧ w'.cell? ⟨b, o + k * 4 + 3, none⟩ = some (.slice (some ⟨b2, o2, none⟩) x.Lags.length nl) ∧ w'.cell? ⟨b1, o1 + j, none⟩ = some (.int .i64 (bAt x j)) ∧ w'.cell? ⟨b2, o2 + j, none⟩ = some (.int .i64 (lAt x j))) := Lib.hid fun w' hb => ⟨by rw [hb.cell (p := ⟨b, o + k * 4 + 2, none⟩) hbw]; exact H2.out, by rw [hb.cell (p := ⟨b, o + k * 4 + 3, none⟩) hbw]; exact H3.out, by rw [hb.cell (p := ⟨b1, _, none⟩) hb1]; exact e1, by rw [hb.cell (p := ⟨b2, _, none⟩) hb2]; exact e2⟩
            clear e1 e2
            obtain ⟨f1, f2, f3, f4⟩ := hS2.out _ hBr.out
            have g1 : IntKind.u8.wrap (bAt x j) = bAt x j := IntWalk.u8_in _ (by have := hT.out.before j hjl; omega)
            have g2 : IntKind.i64.wrap (lAt x j + 100) = lAt x j + 100 := IntWalk.i64_in _ (by have := hT.out.lags j hjl; omega)
            have g3 : IntKind.u8.wrap (lAt x j + 100) = lAt x j + 100 := IntWalk.u8_in _ (by have := hT.out.lags j hjl; omega)
            have hjl2 : j < x.Lags.length := by have := hLl.out; omega
            go_wp2_with fail
            go_region_held3 (fun w' => w'.cell? ⟨b, o + k * 4 + 2, none⟩ = some (.slice (some ⟨b1, o1, none⟩) x.Before.length nb) ∧ w'.cell? ⟨b, o + k * 4 + 3, none⟩ = some (.slice (some ⟨b2, o2, none⟩) x.Lags.length nl) ∧ w'.cell? ⟨b1, o1 + j, none⟩ = some (.int .i64 (bAt x j)) ∧ w'.cell? ⟨b2, o2 + j, none⟩ = some (.int .i64 (lAt x j))) ((first | exact hS2.out _ hBr.out | exact hS2.out _ hBr.out.drew | exact hS2.out _ (hBf2.out.drew.alloc _).below | exact hS2.out _ hB9.out | exact hS2.out _ hB9.out.drew)) ((first | (refine step_bytes (by rfl) _ _ _ (by rfl) w.heap.size i0 Try.underlying43 hi hz0 hz1 hz2 u3 _ w wr.drew [bAt x j, lAt x j + 100] (by rfl) hBf2.out.drew (Nat.zero_lt_succ _) (by rfl) (by have := hl12.out; show _ + 2 ≤ _; omega) ?_; intro v9 w9 hb9 hk9; have L9 := Lib.hid (show Buf w.heap.size w v9 ((headB d ++ tasksB d.tasks k) ++ (headT x ++ pairB x (j + 1))) w9 by simpa only [pairB, List.append_assoc] using hb9); have hB9 := Lib.hid (hWB.out _ _ _ hb9); have XS := Lib.hid (hk9 _ _ _ (by decide) (hXs2.out.draws 1)); clear hb9 hk9)))
            all_goals
              go_wp2_with fail
              go_roundw
              case rel => exact ⟨j + 1, by omega, by go_num, L9, XS⟩
              case measure => simp [intOf]; omega
          · have L10 := Lib.hid (show Buf w.heap.size w u3 (headB d ++ tasksB d.tasks (k + 1)) wr by
              have := hBf2.out
              have hje : j = x.Before.length := by omega
              rw [hje] at this
              simpa only [tasksB, taskB, hGx.out, List.append_assoc] using this)
            go_wp2_with fail
            go_roundw
            case rel => exact ⟨k + 1, by omega, by go_num, L10, hXs2⟩
            case measure => simp [intOf]; omega
    · obtain rfl : k = d.tasks.length := by omega
      have s2 := hXs.out.at_ (i := 2) rfl
      go_wp2_with fail
      have LS := Lib.hid (show Buf w.heap.size w u3 (headB d ++ tasksB d.tasks d.tasks.length ++ startsB d.starts 0) wo by simpa only [startsB, List.append_nil] using hBf.out)
      clear s2 hBf hl9
      go_loopw [3, 103] (fun bv i wr => ∃ m : Nat, m ≤ d.starts.length ∧ i = .int .i64 m ∧ Hid (Buf w.heap.size w bv (headB d ++ tasksB d.tasks d.tasks.length ++ startsB d.starts m) wr) ∧ Hid (Whole wr g 31 #[.string d.name, .slice at1 d.tasks.length k1, .slice as1 d.starts.length k2])) (fun _ i _ => d.starts.length - (intOf i).toNat)
      case atStart => exact ⟨0, Nat.zero_le _, rfl, LS, hXs⟩
      case round =>
        obtain ⟨m, hm, rfl, hBf, hX3⟩ := hrel
        clear LS hXs
        have hlm : Hid ((headB d ++ tasksB d.tasks d.tasks.length ++ startsB d.starts m).length ≤ 700) := Lib.hid (hLen.out _ _ (Nat.le_refl _) hm)
        by_cases hml : m < d.starts.length
        · obtain ⟨b, o, y, rfl, hb1, hy, e1⟩ := hCs.out m hml
          have hBr := Lib.hid (hWB.out _ _ _ hBf.out)
          have hb1w : b < w.heap.size := by omega
          have hgw := gw.out
          have hS3 : Hid (∀ w' : World, Below w.heap.size w w' → w'.cell? ⟨g, 2, none⟩ = some (.slice (some ⟨b, o, none⟩) d.starts.length k2) ∧ w'.cell? ⟨b, o + m, none⟩ = some (.int .i64 y)) := Lib.hid fun w' hb => ⟨by rw [hb.cell (p := ⟨g, 2, none⟩) hgw]; exact G2.out, by rw [hb.cell (p := ⟨b, _, none⟩) hb1w]; exact e1⟩
          clear e1
          obtain ⟨f1, f2⟩ := hS3.out _ hBr.out
          obtain ⟨hy0, hy1⟩ := hOks.out.starts m y hy
          have hr1 : y.tmod 256 = y % 256 := Int.tmod_eq_emod_of_nonneg hy0
          have hr2 : y.tdiv 256 = y / 256 := Int.tdiv_eq_ediv_of_nonneg hy0
          have hu1 : IntKind.u8.wrap (y % 256) = y % 256 := IntWalk.u8_in _ (by omega)
          have hu2 : IntKind.u8.wrap (y / 256) = y / 256 := IntWalk.u8_in _ (by omega)
          have hi1 : IntKind.i64.wrap (y / 256) = y / 256 := IntWalk.i64_in _ (by omega)
          have hi2 : IntKind.i64.wrap (y % 256) = y % 256 := IntWalk.i64_in _ (by omega)
          have hGy := Lib.hid (show d.starts.getD m 0 = y from getD_some hy)
          clear hy
          go_wp2_with fail
          go_region_held3 (fun w' => w'.cell? ⟨g, 2, none⟩ = some (.slice (some ⟨b, o, none⟩) d.starts.length k2) ∧ w'.cell? ⟨b, o + m, none⟩ = some (.int .i64 y)) ((first | exact hS3.out _ hBr.out | exact hS3.out _ hBr.out.drew | exact hS3.out _ (hBf.out.drew.alloc _).below | exact hS3.out _ hB9.out | exact hS3.out _ hB9.out.drew)) ((first | (refine step_bytes (by rfl) _ _ _ (by rfl) w.heap.size i0 Try.underlying43 hi hz0 hz1 hz2 u3 _ w wr.drew [y % 256, y / 256] (by rfl) hBf.out.drew (Nat.zero_lt_succ _) (by rfl) (by have := hlm.out; show _ + 2 ≤ _; omega) ?_; intro v9 w9 hb9 hk9; have L9 := Lib.hid (show Buf w.heap.size w v9 (headB d ++ tasksB d.tasks d.tasks.length ++ startsB d.starts (m + 1)) w9 by simpa only [startsB, hGy.out, List.append_assoc] using hb9); have hB9 := Lib.hid (hWB.out _ _ _ hb9); have XS := Lib.hid (hk9 _ _ _ (by decide) (hX3.out.draws 1)); clear hb9 hk9)))
          all_goals
            go_wp2_with fail
            go_roundw
            case rel => exact ⟨m + 1, by omega, by go_num, L9, XS⟩
            case measure => simp [intOf]; omega
        · have hB0 : Buf w.heap.size w u3 (bytesB d) wr := by
            have := hBf.out
            have hme : m = d.starts.length := by omega
            rw [hme] at this
            exact this
          have hLb : (bytesB d).length ≤ 700 := hLen.out _ _ (Nat.le_refl _) (Nat.le_refl _)
          have hck := chk_bound (strOfNums (bytesB d)).data.toList 0 (by omega) (by omega)
          have hCk := Lib.hid (fun w' => show Calls Try.prog 24 #[.int .i64 0, .string (strOfNums (bytesB d))] w' fun e w'' => e = .returned (.int .i64 (chkB d)) ∧ w' = w'' from l01Check_any 0 (by omega) (by omega) (strOfNums (bytesB d)) (by rw [strOfNums_size]; unfold maxLen; omega) w')
          have hS := Lib.hid (show strOfNums (bytesB d ++ [chkB d % 256, chkB d / 256]) = storeB d from rfl)
          rw [show chk 0 (strOfNums (bytesB d)).data.toList = chkB d from rfl] at hck
          obtain ⟨hc0, hc1⟩ := hck
          have hcv : (convert 43 9 u3).run Try.prog wr = .ok (.string (strOfNums (bytesB d))) wr := by
            obtain ⟨⟨g', c', e', _⟩, _⟩ := id hB0
            rw [e'] at hB0 ⊢
            exact hB0.text rfl 9 Try.underlying9
          have hB00 := Lib.hid hB0
          clear hB0 hBf hX3
          have hr1 : (chkB d).tmod 256 = chkB d % 256 := Int.tmod_eq_emod_of_nonneg hc0
          have hr2 : (chkB d).tdiv 256 = chkB d / 256 := Int.tdiv_eq_ediv_of_nonneg hc0
          have hu1 : IntKind.u8.wrap (chkB d % 256) = chkB d % 256 := IntWalk.u8_in _ (by omega)
          have hu2 : IntKind.u8.wrap (chkB d / 256) = chkB d / 256 := IntWalk.u8_in _ (by omega)
          generalize bytesB d = L at *
          generalize chkB d = ck at *
          go_wp2_with (first | (go_at_call 24; (with_reducible refine (hCk.out _).mono ?_); rintro e w9 ⟨rfl, rfl⟩) | (at_builtin; refine buf_bytes rfl _ _ _ rfl w.heap.size i0 Try.underlying43 hi hz0 hz1 hz2 u3 L rfl w wr [ck % 256, ck / 256] hB00.out (Nat.zero_lt_succ _) rfl (by show _ + 2 ≤ _; omega) ?_; intro v9 w9 hb9 hk9; have hE := Lib.hid (hWB.out _ _ _ hb9); have hcv9 : (convert 43 9 v9).run Try.prog w9 = .ok (.string (strOfNums (L ++ [ck % 256, ck / 256]))) w9 := (by obtain ⟨⟨g', c', e', _⟩, _⟩ := id hb9; rw [e'] at hb9 ⊢; exact hb9.text rfl 9 Try.underlying9); clear hb9 hk9))
          go_ret
          exact ⟨by rw [← hS.out]; rfl, hE.out⟩
set_option maxHeartbeats 2000000 in
theorem specStoreSaved_any (B : Nat) (V : Value) (d : SavedD) (w : World) (h1 : LstSaved B w V d) (hp : d.name.size ≤ maxLen) (hB : B ≤ w.heap.size) :
    Calls Try.prog 5 #[V] w fun e w' => e = .returned (storeR d) ∧ Below w.heap.size w w' := by
  obtain ⟨vt, vs, rfl, ht, hs⟩ := h1
  have B2 := below_alloc (Below.refl w.heap.size w) (.cells #[.string d.name, vt, vs] 31)
  have X2 := Whole.made w 31 #[.string d.name, vt, vs] (b := w.heap.size) rfl
  have hI := Lib.hid ((l07Saved_any w.heap.size B vt vs d _ X2 (ht.below B2 hB) (hs.below B2 hB) hp).mono fun _ _ hr => hr.below)
  have hSt := Lib.hid (fun (hOk : okSaved d = true) w' (hb : Below (w.alloc (.cells #[.string d.name, vt, vs] 31)).heap.size (w.alloc (.cells #[.string d.name, vt, vs] 31)) w') => l07Store_any w.heap.size B vt vs d w' (X2.kept hb) ((ht.below B2 hB).below hb (Nat.le_trans hB B2.size)) ((hs.below B2 hB).below hb (Nat.le_trans hB B2.size)) (okS_of hOk) hp (Nat.le_trans hB (Nat.le_trans B2.size hb.size)))
  replace B2 := Lib.hid B2
  clear X2
  obtain ⟨a1, k1, rfl, -⟩ := ht
  obtain ⟨b1, l1, rfl, -⟩ := hs
  unfold storeR
  generalize storeB d = sb at *
  cases hq : okSaved d
  · rw [if_neg (by simp)]
    rw [hq] at hI
    clear hSt hq
    go_enter Try.func5, Try.ntmps5
    go_wp2_with fail
    refine (hI.out).mono ?_
    rintro e w6 ⟨rfl, b6⟩
    replace B2 := Lib.hid (below_on B2.out (Nat.le_refl _) b6)
    go_wp2_with fail
    first | exact ⟨rfl, B2.out⟩ | (go_ret2; exact ⟨rfl, B2.out⟩)
  · rw [if_pos rfl]
    rw [hq] at hI
    replace hSt := Lib.hid (hSt.out hq)
    clear hq
    go_enter Try.func5, Try.ntmps5
    go_wp2_with fail
    refine (hI.out).mono ?_
    rintro e w6 ⟨rfl, b6⟩
    have B6 := Lib.hid b6
    replace B2 := Lib.hid (below_on B2.out (Nat.le_refl _) b6)
    clear b6
    go_wp2_with fail
    refine (hSt.out _ B6.out).mono ?_
    rintro e w7 ⟨rfl, b7⟩
    replace B2 := Lib.hid (below_on B2.out (Nat.le_refl _) b7)
    clear b7
    go_wp2_with fail
    first | exact ⟨rfl, B2.out⟩ | (go_ret2; exact ⟨rfl, B2.out⟩)
end Go.Proofs.Ytdggbjpfllnenaa
