/- A buffer of bytes that a call owns, carried from append to append; the program's withTwo. -/
import Derived.Test.YtdggbjpfllnenaaStorePure
import Derived.Test.YtdggbjpfllnenaaBlk
import Derived.Lib.SlBytesConst
import Derived.ArgAppend
namespace Go.Proofs.Ytdggbjpfllnenaa
open Go.RowKit Go.Lst Go.Lib

theorem infoB8 : (Try.prog.info? 5).map (fun i => (i.zero, i.size, i.bytes)) = some (some (.int .u8 0), 1, 1) := by kernel_rfl
theorem buf_bytes {ops : Array Oper} {rest : List Oper} {o : Oper} {a : Act} {Q : Exit → Act → World → Prop} (hgd : o.guard = none) (s x : Operand) (t : TypeId)
    (ho : o.op = .call { callee := .builtin .append, args := #[s, x], argTypes := #[t, t] })
    (A : Nat) (i : TypeInfo) (ht : Try.prog.underlying t = some (.slice 5)) (hi : Try.prog.info? 5 = some i) (hz : i.zero = some (.int .u8 0)) (hsize : i.size = 1) (hby : i.bytes = 1)
    (v : Value) (l : List Int) (hs : a.eval s = v) (W0 w0 : World) (cs : List Int) (hb : Buf A W0 v l w0) (hcs : 0 < cs.length)
    (hx : a.eval x = .slice (some ⟨w0.heap.size, 0, none⟩) cs.length cs.length) (hlen : l.length + cs.length ≤ 140737488355328)
    (h : ∀ v' w', Buf A W0 v' (l ++ cs) w' → (∀ b T cs', T ≠ 5 → Whole w0 b T cs' → Whole w' b T cs') → wpList Try.prog ops Q rest (a.put o.dst v') w') : wpList Try.prog ops Q (o :: rest) a (w0.alloc (.cells (cs.map (Value.int .u8)).toArray 5)) := by
  have hb' := hb.2.alloc (.cells (cs.map (Value.int .u8)).toArray 5)
  refine wpList_append_ownF _ hgd s x t ho A 5 i (.int .u8 0) 1 1 ht hi hz hsize hby rfl (by decide) v l.length (l.map (Value.int .u8)) hs hb'.1 ⟨w0.heap.size, 0, none⟩ cs.length cs.length (cs.map (Value.int .u8)) hx (by simp) ?_ ?_ (by unfold maxLen; omega) (by omega) hb'.2.2 ?_
  · intro j u hj
    have ea : (⟨w0.heap.size, 0, none⟩ : Addr).add j = ⟨w0.heap.size, j, none⟩ := by unfold Addr.add; split <;> simp_all
    rw [ea]
    exact (Whole.made w0 5 (cs.map (Value.int .u8)).toArray (b := w0.heap.size) rfl).at_ (i := j) (by simpa using hj)
  · intro u hu
    obtain ⟨y, _, rfl⟩ := List.mem_map.1 hu
    rfl
  · intro v' w' ho' hg _
    refine h v' w' (buf_of (n := l.length + cs.length) (by rw [List.map_append]; exact hb'.grown ho' hg) (by simp) (by omega)) fun b T cs' hT hW => ?_
    have hW' := hW.more (.cells (cs.map (Value.int .u8)).toArray 5)
    exact hW'.beside hg fun e => ownBlock_neF hb'.1 hW' hT e.symm
theorem buf_text {ops : Array Oper} {rest : List Oper} {o : Oper} {a : Act} {Q : Exit → Act → World → Prop} (hgd : o.guard = none) (s x : Operand) (t u : TypeId)
    (ho : o.op = .call { callee := .builtin .append, args := #[s, x], argTypes := #[t, u] })
    (A : Nat) (i : TypeInfo) (ht : Try.prog.underlying t = some (.slice 5)) (hu : Try.prog.underlying u = some .string) (hi : Try.prog.info? 5 = some i) (hz : i.zero = some (.int .u8 0)) (hsize : i.size = 1) (hby : i.bytes = 1)
    (v : Value) (l : List Int) (hs : a.eval s = v) (W0 w : World) (hb : Buf A W0 v l w) (nm : ByteArray) (hx : a.eval x = .string nm) (hlen : l.length + nm.size ≤ 140737488355328) (hl0 : 0 < l.length)
    (h : ∀ v' w', Buf A W0 v' (l ++ numsOf nm) w' → (∀ b T cs', T ≠ 5 → Whole w b T cs' → Whole w' b T cs') → wpList Try.prog ops Q rest (a.put o.dst v') w') : wpList Try.prog ops Q (o :: rest) a w := by
  refine wpList_append_own_stringF w hgd s x t u ho A 5 i ht hu hi hz hsize hby v l.length (l.map (Value.int .u8)) hs hb.2.1 nm hx (by unfold maxLen; omega) hlen hb.2.2.2 ?_
  intro v' w' ho' hg _
  refine h v' w' (buf_of (n := l.length + nm.size) (by rw [List.map_append, ← strCells_nums]; exact hb.2.grown ho' hg) (by simp [numsOf_len]) (by omega)) fun b T cs' hT hW => ?_
  exact hW.beside hg fun e => ownBlock_neF hb.2.1 hW hT e.symm
theorem Buf.alloc {A : Nat} {W0 w : World} {v : Value} {l : List Int} (h : Buf A W0 v l w) (o : Obj) : Buf A W0 v l (w.alloc o) := by
  obtain ⟨⟨g, c, e, hg⟩, h2⟩ := h
  exact ⟨⟨g, c, e, by have := (below_alloc (Below.refl w.heap.size w) o).size; omega⟩, h2.alloc o⟩
theorem Buf.text {A g c : Nat} {W0 w : World} {l : List Int} {n : Nat} (h : Buf A W0 (.slice (some ⟨g, 0, none⟩) n c) l w) (hn : l.length = n) :
    ∀ dst, Try.prog.underlying dst = some .string → (convert 43 dst (.slice (some ⟨g, 0, none⟩) n c)).run Try.prog w = .ok (.string (strOfNums l)) w :=
  run_convert_bytes_arg (P := Try.prog) w 43 5 Try.underlying43 Try.underlying5 g 0 n c l hn (fun i hi => by
    have hx : l[i]? = some (l[i]'(by omega)) := List.getElem?_eq_getElem _
    rw [Nat.zero_add, List.getD_eq_getElem?_getD, hx]
    have := h.2.1.cells (g := g) rfl i (.int .u8 (l[i]'(by omega))) (by rw [List.getElem?_map, hx]; rfl)
    have ea : (⟨g, 0, none⟩ : Addr).add i = ⟨g, i, none⟩ := by unfold Addr.add; split <;> simp_all
    rw [ea] at this
    exact this)
theorem Buf.below {A : Nat} {W0 w : World} {v : Value} {l : List Int} (h : Buf A W0 v l w) : Below A W0 w := h.2.2.1
theorem buf_lit (w : World) (cs : List Int) (h0 : 0 < cs.length) (h : (w.alloc (.cells (cs.map (Value.int .u8)).toArray 5)).ownsRow w.heap.size 5 1 (.slice (some ⟨w.heap.size, 0, none⟩) cs.length cs.length) cs.length (cs.map (Value.int .u8))) :
    Buf w.heap.size w (.slice (some ⟨w.heap.size, 0, none⟩) cs.length cs.length) cs (w.alloc (.cells (cs.map (Value.int .u8)).toArray 5)) :=
  ⟨⟨_, _, rfl, by rw [World.size_alloc]; omega⟩, World.ownsRowF_of h, below_alloc (Below.refl _ _) _, by rw [World.size_alloc]; omega⟩
def headC : Array Value := #[.int .u8 80, .int .u8 76, .int .u8 78, .int .u8 49]
theorem buf_first {ops : Array Oper} {rest : List Oper} {o : Oper} {a : Act} {Q : Exit → Act → World → Prop} (hgd : o.guard = none) (s x : Operand) (t : TypeId)
    (ho : o.op = .call { callee := .builtin .append, args := #[s, x], argTypes := #[t, t] })
    (i : TypeInfo) (ht : Try.prog.underlying t = some (.slice 5)) (hi : Try.prog.info? 5 = some i) (hz : i.zero = some (.int .u8 0)) (hsize : i.size = 1) (hby : i.bytes = 1)
    (w : World) (c : Int) (hs : a.eval s = .slice (some ⟨w.heap.size, 0, none⟩) 4 4) (hx : a.eval x = .slice (some ⟨w.heap.size + 1, 0, none⟩) 1 1)
    (h : ∀ v' w', Buf w.heap.size w v' [80, 76, 78, 49, c] w' → (∀ b T cs', T ≠ 5 → Whole w b T cs' → Whole w' b T cs') → wpList Try.prog ops Q rest (a.put o.dst v') w') :
    wpList Try.prog ops Q (o :: rest) a ((w.alloc (.cells #[.int .u8 80, .int .u8 76, .int .u8 78, .int .u8 49] 5 (4, 5))).alloc (.cells #[.int .u8 c] 5)) := by
  have b1 : Below w.heap.size w (w.alloc (.cells #[.int .u8 80, .int .u8 76, .int .u8 78, .int .u8 49] 5 (4, 5))) := below_alloc (Below.refl _ _) _
  have b2 : Below w.heap.size w ((w.alloc (.cells #[.int .u8 80, .int .u8 76, .int .u8 78, .int .u8 49] 5 (4, 5))).alloc (.cells #[.int .u8 c] 5)) := below_alloc b1 _
  have hA : (w.alloc (.cells #[.int .u8 80, .int .u8 76, .int .u8 78, .int .u8 49] 5 (4, 5))).heap[w.heap.size]? = some (.cells #[.int .u8 80, .int .u8 76, .int .u8 78, .int .u8 49] 5 (4, 5)) := by
    show (w.heap.push _)[w.heap.size]? = _
    simp
  have hA2 := (Below.heap_alloc (w.alloc (.cells #[.int .u8 80, .int .u8 76, .int .u8 78, .int .u8 49] 5 (4, 5))) (.cells #[.int .u8 c] 5) w.heap.size (by rw [World.size_alloc]; omega)).trans hA
  have hC := Whole.made (w.alloc (.cells #[.int .u8 80, .int .u8 76, .int .u8 78, .int .u8 49] 5 (4, 5))) 5 #[.int .u8 c] (b := w.heap.size + 1) (by rw [World.size_alloc])
  have ea : ∀ b j, (⟨b, 0, none⟩ : Addr).add j = ⟨b, j, none⟩ := fun b j => by unfold Addr.add; split <;> simp_all
  refine wpList_append_grows _ hgd s x t ho 5 i (.int .u8 0) 1 1 ht hi hz hsize hby rfl (by decide) (some ⟨w.heap.size, 0, none⟩) 4 4 ([80, 76, 78, 49].map (Value.int .u8)) hs (fun e => by cases e) (by rfl) ?_ ⟨w.heap.size + 1, 0, none⟩ 1 1 [.int .u8 c] hx rfl ?_ ?_ (by decide) (by decide) (by decide) ?_
  · intro b hb j u hu
    cases hb
    rw [ea, cell_of_row _ _ _ _ _ _ hA2]
    simpa using hu
  · intro j u hu
    rw [ea]
    exact hC.at_ (i := j) (by simpa using hu)
  · intro u hu
    simp at hu
    subst hu
    rfl
  · intro v' w' ho' hg
    have hsz : w.heap.size ≤ ((w.alloc (.cells #[.int .u8 80, .int .u8 76, .int .u8 78, .int .u8 49] 5 (4, 5))).alloc (.cells #[.int .u8 c] 5)).heap.size := b2.size
    have hb3 : Below w.heap.size w w' := b2.grown hg hsz (fun k hk => by cases hk)
    have hF := World.ownsRowF_of ho'
    refine h v' w' (buf_of (n := 5) ⟨?_, hb3, hb3.size⟩ rfl (by decide)) fun b T cs' _ hW => hW.kept hb3
    refine ⟨hF.1, hF.2.elim Or.inl fun ⟨g, cap, cur, fz, e1, e2, r⟩ => Or.inr ⟨g, cap, cur, fz, e1, Nat.le_trans hsz e2, r⟩⟩
set_option maxHeartbeats 1000000 in
theorem withTwo_any (A : Nat) (W0 w : World) (v : Value) (l : List Int) (n : Int) (hb : Buf A W0 v l w) (h0 : 0 ≤ n) (h1 : n ≤ 65535) (hl : l.length ≤ 2000) :
    Calls Try.prog 16 #[v, .int .i64 n] w fun e w' => ∃ v', e = .returned v' ∧ Buf A W0 v' (l ++ [n % 256, n / 256]) w' ∧ ∀ b T cs', T ≠ 5 → Whole w b T cs' → Whole w' b T cs' := by
  obtain ⟨i0, hi, hz0, hz1, hz2⟩ := info_parts infoB8
  have hr1 : n.tmod 256 = n % 256 := Int.tmod_eq_emod_of_nonneg h0
  have hr2 : n.tdiv 256 = n / 256 := Int.tdiv_eq_ediv_of_nonneg h0
  have hu1 : IntKind.u8.wrap (n % 256) = n % 256 := IntWalk.u8_in _ (by omega)
  have hu2 : IntKind.u8.wrap (n / 256) = n / 256 := IntWalk.u8_in _ (by omega)
  have hB := Lib.hid hb
  have hF : Hid (∀ v' w', Buf A W0 v' (l ++ [n % 256, n / 256]) w' → (∀ b T cs', T ≠ 5 → Whole w b T cs' → Whole w' b T cs') → ∃ u, Ending.returned v' = .returned u ∧ Buf A W0 u (l ++ [n % 256, n / 256]) w' ∧ ∀ b T cs', T ≠ 5 → Whole w b T cs' → Whole w' b T cs') := Lib.hid fun v' w' a b => ⟨v', rfl, a, b⟩
  clear hb
  go_enter Try.func16, Try.ntmps16
  go_wp2_with (at_builtin; refine buf_bytes rfl _ _ _ rfl A i0 Try.underlying43 hi hz0 hz1 hz2 v l rfl W0 w [n % 256, n / 256] hB.out (Nat.zero_lt_succ _) rfl (by simp; omega) ?_; intro v8 w8 hb8 hk8; have hB8 := Lib.hid (hF.out v8 w8 hb8 hk8); clear hb8 hk8)
  go_ret
  exact hB8.out
end Go.Proofs.Ytdggbjpfllnenaa
