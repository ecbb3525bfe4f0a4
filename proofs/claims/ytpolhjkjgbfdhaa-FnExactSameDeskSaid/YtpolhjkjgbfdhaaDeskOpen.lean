/- A desk that a law is given, opened. -/
import Derived.Test.YtpolhjkjgbfdhaaDesk
namespace Go.Lst
open Go.RowKit Go.WideShapes Go.ChangeShapes Go.Deep
section
variable {H : Type} {enc : TypeId × Value → H} {P : Program}
theorem open_int_rowsV {t e : TypeId} {fs : Array Field} {q : IntKind} {W : World} {v : Value} {d : DataW H} {ps : List MemPlace} (ht : P.underlying t = some (.slice e)) (he : P.underlying e = some (.struct fs))
    (hone : oneCellFields P fs = true) (hC : P.cellsOf e = fs.size) (hpos : 0 < fs.size) (hq : ∀ (j : Nat) (f : Field), fs[j]? = some f → P.underlying f.type = some (.int q))
    (hval : ∃ a len cap, v = .slice a len cap) (h : DataW.Trod enc P W 0 (fun _ => true) true t v d ps) :
    ∃ (n : Nat) (zs : List Int), zs.length = n * fs.size ∧ LstK fs.size W.heap.size W v n (zs.map (Value.int q)) ∧ ∀ z ∈ zs, (Lit.int q z).wf = true := by
  obtain ⟨a, len, cap, rfl⟩ := hval
  obtain ⟨fuel, hf⟩ := h
  rcases open_slice ht hf with ⟨hcs, _⟩ | ⟨a', len', cap', m, n, D, Pl, hcs, _, hl, hm, hmm, _, hx⟩
  · simp [Value.cells] at hcs
    obtain ⟨rfl, rfl, rfl⟩ := hcs
    exact ⟨0, [], by simp, lstK_nil _ _ _, by simp⟩
  · simp [Value.cells] at hcs
    obtain ⟨rfl, rfl, rfl⟩ := hcs
    simp only [if_true] at hmm
    subst hmm
    have hcell : ∀ i, i < len * fs.size → ∃ z : Int, W.cell? (a'.add i) = some (.int q z) ∧ (Lit.int q z).wf = true := fun i hi => by
      have hK := hpos
      have hdiv : i / fs.size < len := (Nat.div_lt_iff_lt_mul hK).2 hi
      have hmod : i % fs.size < fs.size := Nat.mod_lt _ hK
      obtain ⟨cs', hc, ht'⟩ := hx (i / fs.size) (by omega)
      rw [hC] at hc
      obtain ⟨ys, n', hn', hy, hlen, hyl, hfd⟩ := DataW.trod_struct he ht'
      obtain ⟨_, hcl, hat⟩ := World.cells?_some hc
      have hj : fs[i % fs.size]? = some fs[i % fs.size] := Array.getElem?_eq_getElem hmod
      obtain ⟨ho, hk⟩ := hone_of hone _ _ hj
      have hcell := hat (i % fs.size) hmod
      have hv : cs'[i % fs.size]? = some (cs'[i % fs.size]'(by omega)) := List.getElem?_eq_getElem (by omega)
      have h1 := hfd _ _ hj
      rw [ho, hk] at h1
      have hone' : (cs'.drop (i % fs.size)).take 1 = [cs'[i % fs.size]'(by omega)] := by
        rw [List.drop_eq_getElem_cons (by omega)]
        rfl
      rw [hone'] at h1
      have hys : ys[i % fs.size]? = some (ys[i % fs.size]'(by omega)) := List.getElem?_eq_getElem (by omega)
      obtain ⟨z, hz, _, hw⟩ := DataW.trod_int (hq _ _ hj) (h1.trans hys)
      refine ⟨z, ?_, hw⟩
      have e0 : i = i / fs.size * fs.size + i % fs.size := by rw [Nat.mul_comm]; exact (Nat.div_add_mod i fs.size).symm
      rw [e0, ← Go.Deep.add_add, hcell, hv]
      simpa using hz
    obtain ⟨f, hf⟩ := choose_lt hcell
    have hlen : ((List.range (len * fs.size)).map f).length = len * fs.size := by simp
    refine ⟨len, (List.range (len * fs.size)).map f, hlen, ⟨some a', _, rfl, by omega, hl, hm, by rw [List.length_map, hlen], fun h0 => ?_⟩, fun z hz => ?_⟩
    · have c0 := (hf 0 (Nat.mul_pos h0 hpos)).1
      have hs : a'.spot = none := by
        have e0 : a'.add 0 = a' := by simp [Addr.add]
        rw [e0] at c0
        unfold World.cell? at c0
        split at c0
        · split at c0
          · cases c0
          · rename_i hh; simpa using hh
        · cases c0
      have hb : a'.block < W.heap.size := by
        have := World.block_lt_of_cell? W _ c0
        have e0 : a'.add 0 = a' := by simp [Addr.add]
        rwa [e0] at this
      obtain ⟨b, off, sp⟩ := a'
      simp only at hs hb
      subst hs
      refine ⟨b, off, rfl, hb, fun i u hu => ?_⟩
      have hi : i < len * fs.size := by
        have := (List.getElem?_eq_some_iff.1 hu).1
        rw [List.length_map, hlen] at this
        exact this
      have hv : Value.int q (f i) = u := by
        rw [List.getElem?_map, List.getElem?_map, List.getElem?_range hi] at hu
        simpa using hu
      have ci := (hf i hi).1
      have ei : (⟨b, off, none⟩ : Addr).add i = ⟨b, off + i, none⟩ := by
        unfold Addr.add; split <;> simp_all
      rw [ei, hv] at ci
      exact ci
    · obtain ⟨i, hi, rfl⟩ := List.mem_map.1 hz
      exact (hf i (List.mem_range.1 hi)).2
theorem trod_intsV {t e : TypeId} {W : World} {u : Value} {fuel : Nat} {z : DataW H × List MemPlace} (ht : P.underlying t = some (.slice e)) (he : P.underlying e = some (.int .i64)) (hc : P.cellsOf e = 1)
    (h : DataW.trod enc P W 0 (fun _ => true) true fuel t [u] = some z) : ∃ xs : List Int, LstI W.heap.size W u xs ∧ ∀ x ∈ xs, (Lit.int .i64 x).wf = true := by
  rcases open_slice1 ht hc h with ⟨hcs, _⟩ | ⟨a', len', cap', m, n, V, D, Pl, hcs, _, hl, hm, hmm, _, hx⟩
  · obtain rfl : u = .slice none 0 0 := by simpa using hcs
    exact ⟨[], ⟨none, 0, rfl, by simp, by simp, Nat.zero_le _, by simp, fun h => absurd h (by simp)⟩, by simp⟩
  · obtain rfl : u = .slice (some a') len' cap' := by simpa using hcs
    simp only [if_true] at hmm
    subst hmm
    have hv : ∀ i, i < len' → ∃ x : Int, V i = .int .i64 x ∧ (Lit.int .i64 x).wf = true := fun i hi => by
      obtain ⟨b, hb, _, hw⟩ := DataW.trod_int he (hx i (by omega)).2
      exact ⟨b, by simpa using hb, hw⟩
    obtain ⟨f, hf⟩ := choose_lt hv
    have hlen : ((List.range len').map f).length = len' := by simp
    refine ⟨(List.range len').map f, ⟨some a', m, by rw [hlen], by rw [hlen]; omega, by rw [hlen]; exact hl, hm, by rw [List.length_map, Nat.mul_one], fun h0 => ?_⟩, fun z hz => ?_⟩
    · rw [hlen] at h0
      have c0 := (hx 0 (by omega)).1
      have hs : a'.spot = none := by
        have e0 : a'.add 0 = a' := by simp [Addr.add]
        rw [e0] at c0
        unfold World.cell? at c0
        split at c0
        · split at c0
          · cases c0
          · rename_i hh; simpa using hh
        · cases c0
      have hb : a'.block < W.heap.size := by
        have := World.block_lt_of_cell? W _ c0
        have e0 : a'.add 0 = a' := by simp [Addr.add]
        rwa [e0] at this
      obtain ⟨b, off, sp⟩ := a'
      simp only at hs hb
      subst hs
      refine ⟨b, off, rfl, hb, fun i u hu => ?_⟩
      have hi : i < len' := by
        have := (List.getElem?_eq_some_iff.1 hu).1
        rwa [List.length_map, hlen] at this
      have hv : Value.int .i64 (f i) = u := by
        rw [List.getElem?_map, List.getElem?_map, List.getElem?_range hi] at hu
        simpa using hu
      have ci := (hx i (by omega)).1
      have ei : (⟨b, off, none⟩ : Addr).add i = ⟨b, off + i, none⟩ := by
        unfold Addr.add; split <;> simp_all
      rw [ei, (hf i hi).1, hv] at ci
      exact ci
    · obtain ⟨i, hi, rfl⟩ := List.mem_map.1 hz
      exact (hf i (List.mem_range.1 hi)).2
/-- A struct of integers among the cells of another one. -/
theorem trod_int_aggV {t : TypeId} {fs : Array Field} {q : IntKind} {W : World} {cs : List Value} {fuel : Nat} {z : DataW H × List MemPlace} (ht : P.underlying t = some (.struct fs)) (hone : oneCellFields P fs = true) (hC : P.cellsOf t = fs.size)
    (hq : ∀ (j : Nat) (f : Field), fs[j]? = some f → P.underlying f.type = some (.int q)) (h : DataW.trod enc P W 0 (fun _ => true) true fuel t cs = some z) :
    ∃ zs : List Int, zs.length = fs.size ∧ cs = zs.map (Value.int q) ∧ ∀ z ∈ zs, (Lit.int q z).wf = true := by
  obtain ⟨ys, n, _, hx, hl, hlen, hg⟩ := DataW.trod_struct ht h
  have hsz : cs.length = fs.size := by rw [hl, hC]
  have hcell : ∀ i, i < fs.size → ∃ z : Int, cs[i]? = some (.int q z) ∧ (Lit.int q z).wf = true := fun i hi => by
    have hj : fs[i]? = some fs[i] := Array.getElem?_eq_getElem hi
    obtain ⟨ho, hk⟩ := hone_of hone _ _ hj
    have h1 := hg _ _ hj
    rw [ho, hk] at h1
    have hci : i < cs.length := by omega
    have hone' : (cs.drop i).take 1 = [cs[i]'hci] := by rw [List.drop_eq_getElem_cons hci]; rfl
    rw [hone'] at h1
    have hys : ys[i]? = some (ys[i]'(by omega)) := List.getElem?_eq_getElem (by omega)
    obtain ⟨z, hz, _, hw⟩ := DataW.trod_int (hq _ _ hj) (h1.trans hys)
    exact ⟨z, by rw [List.getElem?_eq_getElem hci]; simpa using hz, hw⟩
  obtain ⟨f, hf⟩ := choose_lt hcell
  have hlf : ((List.range fs.size).map f).length = fs.size := by simp
  refine ⟨(List.range fs.size).map f, hlf, ?_, fun z hz => ?_⟩
  · apply List.ext_getElem?
    intro i
    by_cases hi : i < fs.size
    · rw [(hf i hi).1]; simp [hi]
    · rw [List.getElem?_eq_none (by omega), List.getElem?_eq_none (by simp; omega)]
  · obtain ⟨i, hi, rfl⟩ := List.mem_map.1 hz
    exact (hf i (List.mem_range.1 hi)).2
end
end Go.Lst
namespace Go.Proofs.Ytpolhjkjgbfdhaa
open Go.RowKit Go.Lst Go.ChangeShapes Go.WideShapes Go.Deep

set_option maxRecDepth 100000 in
theorem openDesk {H : Type} {enc : TypeId × Value → H} {W : World} {v : Value} {d : DataW H} {ps : List MemPlace}
    (hval : Value.okWide Try.prog W .any 0 27 v) (h : DataW.Trod enc Try.prog W 0 (fun _ => true) true 27 v d ps) :
    ∃ x : DeskD, LstDesk W.heap.size W v x ∧ x.wf := by
  have hJ : Try.prog.cellsOf 22 = 1 := by kernel_rfl
  have hI : Try.prog.cellsOf 2 = 1 := by kernel_rfl
  have hC : Try.prog.cellsOf 25 = 1 := by kernel_rfl
  have hR : Try.prog.cellsOf 24 = 5 := by kernel_rfl
  have hS : Try.prog.cellsOf 9 = 1 := by kernel_rfl
  have hD : Try.prog.cellsOf 27 = 8 := by kernel_rfl
  have hF : (Try.prog.fieldsOf 27).map (fun f => (f.type, f.offset)) = #[(22, 0), (24, 1), (25, 6), (9, 7)] := by kernel_rfl
  have hf : ∀ (j t o : Nat), #[(22, 0), (24, 1), (25, 6), (9, 7)][j]? = some (t, o) → ∃ f : Field, (Try.prog.fieldsOf 27)[j]? = some f ∧ f.type = t ∧ f.offset = o := by
    intro j t o hj
    rw [← hF, Array.getElem?_map] at hj
    obtain ⟨f, hf, he⟩ := Option.map_eq_some_iff.1 hj
    exact ⟨f, hf, by simpa using congrArg Prod.fst he, by simpa using congrArg Prod.snd he⟩
  obtain ⟨f0, g0, t0, o0⟩ := hf 0 _ _ rfl
  obtain ⟨f1, g1, t1, o1⟩ := hf 1 _ _ rfl
  obtain ⟨f2, g2, t2, o2⟩ := hf 2 _ _ rfl
  obtain ⟨f3, g3, t3, o3⟩ := hf 3 _ _ rfl
  have hz : (Try.prog.fieldsOf 27).size = 4 := by have := congrArg Array.size hF; simpa using this
  obtain ⟨cs, rfl, hcs⟩ := okWide_struct Try.underlying27 hval
  rw [hD] at hcs
  obtain ⟨fuel, hfu⟩ := h
  obtain ⟨ys, n', hn', hy, hlen, hyl, hfd⟩ := DataW.trod_struct Try.underlying27 hfu
  have hyl4 : ys.length = 4 := hyl
  obtain ⟨l, rfl⟩ : ∃ l : List Value, cs = l.toArray := ⟨cs.toList, by simp⟩
  have hl8 : l.length = 8 := by simpa using hcs
  clear hyl hlen hy hcs hfu hval
  match l, hl8 with
  | [c0, c1, c2, c3, c4, c5, c6, c7], _ =>
    have r0 := hfd 0 f0 g0
    have r1 := hfd 1 f1 g1
    have r2 := hfd 2 f2 g2
    have r3 := hfd 3 f3 g3
    rw [t0, o0, hJ, List.getElem?_eq_getElem (by omega)] at r0
    rw [t1, o1, hR, List.getElem?_eq_getElem (by omega)] at r1
    rw [t2, o2, hC, List.getElem?_eq_getElem (by omega)] at r2
    rw [t3, o3, hS, List.getElem?_eq_getElem (by omega)] at r3
    simp only [Value.cells, List.drop_zero, List.drop_succ_cons, List.take_succ_cons, List.take_zero] at r0 r1 r2 r3
    have hsl : ∃ a len cap, c0 = .slice a len cap := by
      rcases open_slice Try.underlying22 r0 with ⟨hcs, _⟩ | ⟨a', len', cap', m, n, D, Pl, hcs, _⟩
      · exact ⟨none, 0, 0, by simpa using hcs⟩
      · exact ⟨some a', len', cap', by simpa using hcs⟩
    have hT : DataW.Trod enc Try.prog W 0 (fun _ => true) true 22 c0 (ys[0]'(by omega)).1 (ys[0]'(by omega)).2 := by
      obtain ⟨a, len, cap, rfl⟩ := hsl
      exact ⟨n', r0⟩
    obtain ⟨n, zs, hl, hL, hw⟩ := open_int_rowsV (fs := Try.prog.fieldsOf 82) (q := .i64) Try.underlying22 Try.underlying82 (by kernel_rfl) (by kernel_rfl) (by decide +kernel) (fun j f hj => by
      have hlt : j < 4 := (Array.getElem?_eq_some_iff.1 hj).1
      have hq : ∀ j, j < 4 → ∀ f, (Try.prog.fieldsOf 82)[j]? = some f → f.type = 2 := by decide +kernel
      rw [hq j hlt f hj]; exact Try.underlying2) hsl hT
    obtain ⟨xs, hx, hm, hy⟩ := groupJob n zs hl hw
    obtain ⟨rs, hrl, hr, hrw⟩ := trod_int_aggV (fs := Try.prog.fieldsOf 24) (q := .i64) Try.underlying24 (by kernel_rfl) (by kernel_rfl) (fun j f hj => by
      have hlt : j < 5 := (Array.getElem?_eq_some_iff.1 hj).1
      have hq : ∀ j, j < 5 → ∀ f, (Try.prog.fieldsOf 24)[j]? = some f → f.type = 2 := by decide +kernel
      rw [hq j hlt f hj]; exact Try.underlying2) r1
    obtain ⟨x2, L2, w2⟩ := trod_intsV Try.underlying25 Try.underlying2 hI r2
    obtain ⟨s, hs, _, hsm⟩ := DataW.trod_string Try.underlying9 r3
    have hrl' : rs.length = 5 := hrl
    match rs, hrl', hr, hrw with
    | [z0, z1, z2, z3, z4], _, hr, hrw =>
      simp only [List.map_cons, List.map_nil, List.cons.injEq, and_true] at hr
      obtain ⟨rfl, rfl, rfl, rfl, rfl⟩ := hr
      obtain rfl : c7 = .string s := by simpa using hs
      refine ⟨⟨xs, ⟨z0, z1, z2, z3, z4⟩, x2, s⟩, ⟨c0, c6, rfl, ?_, L2⟩, hy, ⟨hrw _ (by simp), hrw _ (by simp), hrw _ (by simp), hrw _ (by simp), hrw _ (by simp)⟩, w2, hsm⟩
      unfold LstJob
      show LstK 4 _ _ _ xs.length (cellsJob xs)
      rw [hx, ← hm]
      exact hL
end Go.Proofs.Ytpolhjkjgbfdhaa
