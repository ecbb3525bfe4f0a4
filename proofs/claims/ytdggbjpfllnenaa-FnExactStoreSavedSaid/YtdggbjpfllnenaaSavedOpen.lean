/- What is saved, as a law is given it, opened. -/
import Derived.Test.YtdggbjpfllnenaaSaved
namespace Go.Proofs.Ytdggbjpfllnenaa
open Go.RowKit Go.Lst Go.ChangeShapes Go.WideShapes Go.Deep

theorem openV_Task {H : Type} {enc : TypeId × Value → H} {W : World} {v : Value} {d : DataW H} {ps : List MemPlace}
    (hval : ∃ a len cap, v = .slice a len cap) (h : DataW.Trod enc Try.prog W 0 (fun _ => true) true 22 v d ps) :
    ∃ xs : List TaskD, LstTask W.heap.size W v xs ∧ ∀ y ∈ xs, y.wf := by
  have hC : Try.prog.cellsOf 52 = 4 := by kernel_rfl
  have hI : Try.prog.cellsOf 2 = 1 := by kernel_rfl
  have hS : Try.prog.cellsOf 23 = 1 := by kernel_rfl
  have hF : (Try.prog.fieldsOf 52).map (fun f => (f.type, f.offset)) = #[(2, 0), (2, 1), (23, 2), (23, 3)] := by kernel_rfl
  have hf : ∀ (j t o : Nat), #[(2, 0), (2, 1), (23, 2), (23, 3)][j]? = some (t, o) → ∃ f : Field, (Try.prog.fieldsOf 52)[j]? = some f ∧ f.type = t ∧ f.offset = o := by
    intro j t o hj
    rw [← hF, Array.getElem?_map] at hj
    obtain ⟨f, hf, he⟩ := Option.map_eq_some_iff.1 hj
    exact ⟨f, hf, by simpa using congrArg Prod.fst he, by simpa using congrArg Prod.snd he⟩
  obtain ⟨f0, g0, t0, o0⟩ := hf 0 _ _ rfl
  obtain ⟨f1, g1, t1, o1⟩ := hf 1 _ _ rfl
  obtain ⟨f2, g2, t2, o2⟩ := hf 2 _ _ rfl
  obtain ⟨f3, g3, t3, o3⟩ := hf 3 _ _ rfl
  have hz : (Try.prog.fieldsOf 52).size = 4 := by have := congrArg Array.size hF; simpa using this
  obtain ⟨a, len, cap, rfl⟩ := hval
  obtain ⟨fuel, hfu⟩ := h
  rcases open_slice Try.underlying22 hfu with ⟨hcs, _⟩ | ⟨a', len', cap', m, n, D, Pl, hcs, _, hl, hm, hmm, _, hx⟩
  · simp [Value.cells] at hcs
    obtain ⟨rfl, rfl, rfl⟩ := hcs
    exact ⟨[], ⟨none, 0, rfl, by simp, by simp, Nat.zero_le _, by simp⟩, by simp⟩
  · simp [Value.cells] at hcs
    obtain ⟨rfl, rfl, rfl⟩ := hcs
    simp only [if_true] at hmm
    subst hmm
    rw [hC] at hx
    have hall : ∀ i, i < len → ∃ x : TaskD, x.wf ∧ ∃ vb vl, W.cell? (a'.add (i * 4)) = some (.int .i64 x.Time) ∧ W.cell? (a'.add (i * 4 + 1)) = some (.int .i64 x.Needs) ∧ W.cell? (a'.add (i * 4 + 2)) = some vb ∧ W.cell? (a'.add (i * 4 + 3)) = some vl ∧ LstI W.heap.size W vb x.Before ∧ LstI W.heap.size W vl x.Lags := fun i hi => by
      obtain ⟨cs', hc, ht'⟩ := hx i (by omega)
      obtain ⟨ys, n', hn', hy, hlen, hyl, hfd⟩ := DataW.trod_struct Try.underlying52 ht'
      obtain ⟨_, hcl, hat⟩ := World.cells?_some hc
      have hyl4 : ys.length = 4 := hyl
      clear hyl hlen hy
      match cs', hcl with
      | [c0, c1, c2, c3], _ =>
        have r0 := hfd 0 f0 g0
        have r1 := hfd 1 f1 g1
        have r2 := hfd 2 f2 g2
        have r3 := hfd 3 f3 g3
        rw [t0, o0, hI, List.getElem?_eq_getElem (by omega)] at r0
        rw [t1, o1, hI, List.getElem?_eq_getElem (by omega)] at r1
        rw [t2, o2, hS, List.getElem?_eq_getElem (by omega)] at r2
        rw [t3, o3, hS, List.getElem?_eq_getElem (by omega)] at r3
        simp only [List.drop_zero, List.drop_succ_cons, List.take_succ_cons, List.take_zero] at r0 r1 r2 r3
        obtain ⟨z0, e0, _, w0⟩ := DataW.trod_int Try.underlying2 r0
        obtain ⟨z1, e1, _, w1⟩ := DataW.trod_int Try.underlying2 r1
        obtain ⟨x2, L2, w2⟩ := trod_ints Try.underlying23 Try.underlying2 hI r2
        obtain ⟨x3, L3, w3⟩ := trod_ints Try.underlying23 Try.underlying2 hI r3
        have k0 := hat 0 (by omega)
        have k1 := hat 1 (by omega)
        have k2 := hat 2 (by omega)
        have k3 := hat 3 (by omega)
        rw [Go.Deep.add_add] at k0 k1 k2 k3
        obtain rfl : c0 = .int .i64 z0 := by simpa using e0
        obtain rfl : c1 = .int .i64 z1 := by simpa using e1
        exact ⟨⟨z0, z1, x2, x3⟩, ⟨w0, w1, w2, w3⟩, c2, c3, by simpa using k0, by simpa using k1, by simpa using k2, by simpa using k3, L2, L3⟩
    obtain ⟨f, hf⟩ := choose_lt hall
    have hlen : ((List.range len).map f).length = len := by simp
    refine ⟨(List.range len).map f, ⟨some a', m, by rw [hlen], by rw [hlen]; omega, by rw [hlen]; exact hl, hm, fun k x hx' => ?_⟩, fun z hz' => ?_⟩
    · have hk : k < len := by have := (List.getElem?_eq_some_iff.1 hx').1; rwa [hlen] at this
      obtain rfl : f k = x := by rw [List.getElem?_map, List.getElem?_range hk] at hx'; simpa using hx'
      obtain ⟨_, vb, vl, c0, c1, c2, c3, l0, l1⟩ := hf k hk
      obtain ⟨_, _, _, z0, _⟩ := hf 0 (by omega)
      have hs := World.cell?_spot z0
      have hb := World.block_lt_of_cell? W _ c0
      obtain ⟨b, off, sp⟩ := a'
      obtain rfl : sp = none := by simpa [Addr.add] using hs
      have ei : ∀ i, (⟨b, off, none⟩ : Addr).add i = ⟨b, off + i, none⟩ := fun i => by
        unfold Addr.add; split <;> simp_all
      rw [ei] at c0 c1 c2 c3 hb
      exact ⟨b, off, vb, vl, rfl, hb, by simpa [Nat.add_assoc] using c0, by simpa [Nat.add_assoc] using c1, by simpa [Nat.add_assoc] using c2, by simpa [Nat.add_assoc] using c3, l0, l1⟩
    · obtain ⟨i, hi, rfl⟩ := List.mem_map.1 hz'
      exact (hf i (List.mem_range.1 hi)).1
theorem openSaved {H : Type} {enc : TypeId × Value → H} {W : World} {v : Value} {d : DataW H} {ps : List MemPlace}
    (hval : Value.okWide Try.prog W .any 0 25 v) (h : DataW.Trod enc Try.prog W 0 (fun _ => true) true 25 v d ps) :
    ∃ x : SavedD, LstSaved W.heap.size W v x ∧ x.wf := by
  have hJ : Try.prog.cellsOf 22 = 1 := by kernel_rfl
  have hI : Try.prog.cellsOf 2 = 1 := by kernel_rfl
  have hC : Try.prog.cellsOf 23 = 1 := by kernel_rfl
  have hS : Try.prog.cellsOf 9 = 1 := by kernel_rfl
  have hD : Try.prog.cellsOf 25 = 3 := by kernel_rfl
  have hF : (Try.prog.fieldsOf 25).map (fun f => (f.type, f.offset)) = #[(9, 0), (22, 1), (23, 2)] := by kernel_rfl
  have hf : ∀ (j t o : Nat), #[(9, 0), (22, 1), (23, 2)][j]? = some (t, o) → ∃ f : Field, (Try.prog.fieldsOf 25)[j]? = some f ∧ f.type = t ∧ f.offset = o := by
    intro j t o hj
    rw [← hF, Array.getElem?_map] at hj
    obtain ⟨f, hf, he⟩ := Option.map_eq_some_iff.1 hj
    exact ⟨f, hf, by simpa using congrArg Prod.fst he, by simpa using congrArg Prod.snd he⟩
  obtain ⟨f0, g0, t0, o0⟩ := hf 0 _ _ rfl
  obtain ⟨f1, g1, t1, o1⟩ := hf 1 _ _ rfl
  obtain ⟨f2, g2, t2, o2⟩ := hf 2 _ _ rfl
  have hz : (Try.prog.fieldsOf 25).size = 3 := by have := congrArg Array.size hF; simpa using this
  obtain ⟨cs, rfl, hcs⟩ := okWide_struct Try.underlying25 hval
  rw [hD] at hcs
  obtain ⟨fuel, hfu⟩ := h
  obtain ⟨ys, n', hn', hy, hlen, hyl, hfd⟩ := DataW.trod_struct Try.underlying25 hfu
  have hyl3 : ys.length = 3 := hyl
  obtain ⟨l, rfl⟩ : ∃ l : List Value, cs = l.toArray := ⟨cs.toList, by simp⟩
  have hl3 : l.length = 3 := by simpa using hcs
  clear hyl hlen hy hcs hfu hval
  match l, hl3 with
  | [c0, c1, c2], _ =>
    have r0 := hfd 0 f0 g0
    have r1 := hfd 1 f1 g1
    have r2 := hfd 2 f2 g2
    rw [t0, o0, hS, List.getElem?_eq_getElem (by omega)] at r0
    rw [t1, o1, hJ, List.getElem?_eq_getElem (by omega)] at r1
    rw [t2, o2, hC, List.getElem?_eq_getElem (by omega)] at r2
    simp only [Value.cells, List.drop_zero, List.drop_succ_cons, List.take_succ_cons, List.take_zero] at r0 r1 r2
    have hsl : ∃ a len cap, c1 = .slice a len cap := by
      rcases open_slice Try.underlying22 r1 with ⟨hcs, _⟩ | ⟨a', len', cap', m, n, D, Pl, hcs, _⟩
      · exact ⟨none, 0, 0, by simpa using hcs⟩
      · exact ⟨some a', len', cap', by simpa using hcs⟩
    have hT : DataW.Trod enc Try.prog W 0 (fun _ => true) true 22 c1 (ys[1]'(by omega)).1 (ys[1]'(by omega)).2 := by
      obtain ⟨a, len, cap, rfl⟩ := hsl
      exact ⟨n', r1⟩
    obtain ⟨xs, hL, hy⟩ := openV_Task hsl hT
    obtain ⟨x2, L2, w2⟩ := trod_ints Try.underlying23 Try.underlying2 hI r2
    obtain ⟨s, hs, _, hsm⟩ := DataW.trod_string Try.underlying9 r0
    obtain rfl : c0 = .string s := by simpa using hs
    exact ⟨⟨s, xs, x2⟩, ⟨c1, c2, rfl, hL, L2⟩, hsm, hy, w2⟩
end Go.Proofs.Ytdggbjpfllnenaa
