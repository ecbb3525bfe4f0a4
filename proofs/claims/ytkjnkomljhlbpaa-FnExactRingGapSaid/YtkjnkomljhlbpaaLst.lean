/- Slices that are read: a word for 'this slice holds these cells', how it is kept while the world grows, and the last step of a row whose call leaves new blocks. -/
import Derived.Test.YtkjnkomljhlbpaaChecked
import Derived.WalkKit
import Derived.Deep.Draws
import Derived.Deep.Slices
import Derived.Below
import Derived.Carry
import Derived.ChangeSame
import Derived.WideKeyArgs
import Derived.Laws.Cover2
namespace Go
section
variable {P : Program} {w : World} {a : Addr} {m : Mode}
@[go_sem] theorem run_store_float (k : FloatKind) (b : Nat) : (store a (.float k b) m).run P w = stored P w a (.float k b) m := run_store P w a _ m rfl
@[go_sem] theorem run_store_complex (k : FloatKind) (b c : Nat) : (store a (.complex k b c) m).run P w = stored P w a (.complex k b c) m := run_store P w a _ m rfl
end
end Go
namespace Go.Lst
open Go.RowKit Go.WideShapes Go.ChangeShapes Go.Deep

/-- The slice v of the world w has the cells cs (an element a cell), in a block below B. -/
def Lst (B : Nat) (w : World) (v : Value) (cs : List Value) : Prop :=
  ∃ a cap, v = .slice a cs.length cap ∧ cs.length ≤ maxLen ∧ (cs ≠ [] → ∃ b off, a = some ⟨b, off, none⟩ ∧ b < B ∧ ∀ i u, cs[i]? = some u → w.cell? ⟨b, off + i, none⟩ = some u)

theorem Lst.below {B B' : Nat} {w w' : World} {v : Value} {cs : List Value} (h : Lst B w v cs) (hb : Below B' w w') (hB : B ≤ B') : Lst B w' v cs := by
  obtain ⟨a, cap, hv, hl, hc⟩ := h
  refine ⟨a, cap, hv, hl, fun hne => ?_⟩
  obtain ⟨b, off, ha, hbB, hcell⟩ := hc hne
  exact ⟨b, off, ha, hbB, fun i u hu => by rw [hb.cell (p := ⟨b, off + i, none⟩) (show b < B' by omega)]; exact hcell i u hu⟩

theorem Lst.mono {B B' : Nat} {w : World} {v : Value} {cs : List Value} (h : Lst B w v cs) (hB : B ≤ B') : Lst B' w v cs := by
  obtain ⟨a, cap, hv, hl, hc⟩ := h
  refine ⟨a, cap, hv, hl, fun hne => ?_⟩
  obtain ⟨b, off, ha, hbB, hcell⟩ := hc hne
  exact ⟨b, off, ha, by omega, hcell⟩

/-- A slice of the call's own is a slice that is read. -/
theorem Lst.own {w : World} {base : Nat} {e : TypeId} {v : Value} {n : Nat} {cs : List Value} (h : w.ownsRow base e 1 v n cs) (hm : n ≤ maxLen) : Lst w.heap.size w v cs := by
  obtain ⟨hl, h2⟩ := h
  rw [Nat.mul_one] at hl
  rcases h2 with ⟨rfl, rfl⟩ | ⟨g, cap, cur, rfl, hb, hg, hn, hc, hs, ht⟩
  · have : cs = [] := List.length_eq_zero_iff.1 hl
    subst this
    exact ⟨none, 0, rfl, by simp, fun h => absurd rfl h⟩
  · refine ⟨_, cap, by rw [hl], by omega, fun _ => ⟨g, 0, rfl, (Array.getElem?_eq_some_iff.1 hg).1, fun i u hu => ?_⟩⟩
    rw [Nat.zero_add, cell_of_row w g i cur e (0, 0) hg]
    rw [← ht, List.getElem?_take] at hu
    split at hu
    · simpa using hu
    · cases hu

theorem Below.drewN {B : Nat} {a w : World} (h : Below B a w) (n : Nat) : Below B a (w.drewN n) := ⟨h.os, h.tape, h.output, h.size, h.block⟩

section
variable {H : Type} {enc : TypeId × Value → H} {P : Program}

/-- The last step of a row whose call has only made new blocks: what the arguments lead to reads as it did. -/
theorem post_new {f : Func} {s : ChangeSpec} {apart fresh handsOn again : Bool} {W W' : World} {args : Array Value} {v : Value} {ds gs : List (DataW H)} {before pa pv : List MemPlace}
    (hW : DataW.Whole enc P f.params.toList s.vars apart W args.toList ds gs before)
    (hres : ∀ (b : Nat) (sp : Nat → Bool) (hd : Bool), DataW.TrodAll enc P W' b sp hd f.resultTypes.toList (v.resultList f.resultTypes.size) (s.fn H (ds ++ gs)).results [])
    (hargs : ∀ sp : Nat → Bool, (∀ p ∈ before, sp p.block = true) → DataW.TrodAll enc P W' 0 sp true f.params.toList args.toList (s.fn H (ds ++ gs)).args pa)
    (hvars : ∀ sp : Nat → Bool, (∀ p ∈ before, sp p.block = true) → DataW.TrodVars enc P W' sp s.vars (s.fn H (ds ++ gs)).vars pv)
    (hps : before = pa ++ pv) (hb : Below W.heap.size W W')
    (hok : ∀ (j : Nat) (t : TypeId) (r : Value), f.resultTypes[j]? = some t → (v.resultList f.resultTypes.size)[j]? = some r → Value.okWide P W' .any 0 t r) :
    s.post enc P f apart fresh handsOn again W args v W' := by
  have inside : ∀ p, p ∈ before → p.block < W.heap.size := fun p hp => hW.lt p hp
  have spares : ∀ p ∈ before, (fun b => decide (b < W.heap.size)) p.block = true := fun p hp => decide_eq_true (inside p hp)
  have frame := hb.frame (· ∈ before)
  refine ⟨ds, gs, before, [], pa, pv, hW, hres _ _ _, hargs _ spares, hvars _ spares, World.keptBut_mono (fun p hp => ⟨hp, .inr ?_⟩) frame, ?_⟩
  · have : p ∈ pa ++ pv := hps ▸ hp
    exact List.mem_append.1 this
  · intro _
    obtain ⟨_, _, _, _, _, frozen, distinct⟩ := hW
    have whole := trodAll_append (hargs _ (fun _ _ => rfl)) (hres 0 (fun _ => true) true)
    refine ⟨hok, _, _, ([] ++ pa) ++ pv, ⟨[] ++ pa, pv, whole, hvars _ (fun _ _ => rfl), rfl, fun b off hp => ?_, fun ha => ?_⟩, fun p hp _ => ?_⟩
    · have mem : MemPlace.cell b off ∈ before := by rw [hps]; simpa using hp
      rw [hb.frozen (inside _ mem)]
      exact frozen b off mem
    · have d := distinct ha
      rw [hps] at d
      simpa using d
    · rw [hps]; simpa using hp

/-- A slice argument with an element a cell, opened: its cells, each of which reads as an element. -/
theorem open_cells {t e : TypeId} {W : World} {v : Value} {d : DataW H} {ps : List MemPlace} (ht : P.underlying t = some (.slice e)) (hc : P.cellsOf e = 1)
    (hval : Value.okWide P W .any 0 t v) (h : DataW.Trod enc P W 0 (fun _ => true) true t v d ps) :
    ∃ cs : List Value, Lst W.heap.size W v cs ∧ ∀ u ∈ cs, ∃ n x, DataW.trod enc P W 0 (fun _ => true) true n e [u] = some x := by
  obtain ⟨a, len, cap, rfl⟩ := okWide_slice ht hval
  obtain ⟨fuel, hf⟩ := h
  rcases open_slice1 ht hc hf with ⟨hcs, _⟩ | ⟨a', len', cap', m, n, V, D, Pl, hcs, _, hl, hm, hmm, _, hx⟩
  · simp [Value.cells] at hcs
    obtain ⟨rfl, rfl, rfl⟩ := hcs
    exact ⟨[], ⟨none, 0, rfl, by simp, fun h => absurd rfl h⟩, by simp⟩
  · simp [Value.cells] at hcs
    obtain ⟨rfl, rfl, rfl⟩ := hcs
    simp only [if_true] at hmm
    subst hmm
    have hlen : ((List.range len).map V).length = len := by simp
    refine ⟨(List.range len).map V, ⟨some a', m, by rw [hlen], by rw [hlen]; omega, fun hne => ?_⟩, fun u hu => ?_⟩
    · have h0 : 0 < len := by
        rw [← hlen]; exact List.length_pos_iff.2 hne
      have c0 := (hx 0 (by omega)).1
      have hs : a'.spot = none := by
        have e0 : a'.add 0 = a' := by simp [Addr.add]
        rw [e0] at c0
        unfold World.cell? at c0
        split at c0
        · split at c0
          · cases c0
          · rename_i hh; simpa using hh
        · cases c0
      have hb : a'.block < W.heap.size := by
        have := World.block_lt_of_cell? W _ c0
        have e0 : a'.add 0 = a' := by simp [Addr.add]
        rwa [e0] at this
      obtain ⟨b, off, sp⟩ := a'
      simp only at hs hb
      subst hs
      refine ⟨b, off, rfl, hb, fun i u hu => ?_⟩
      have hi : i < len := by
        have := (List.getElem?_eq_some_iff.1 hu).1
        rwa [hlen] at this
      have hv : V i = u := by
        rw [List.getElem?_map, List.getElem?_range hi] at hu
        simpa using hu
      have ci := (hx i (by omega)).1
      have ei : (⟨b, off, none⟩ : Addr).add i = ⟨b, off + i, none⟩ := by
        unfold Addr.add; split <;> simp_all
      rw [ei, hv] at ci
      exact ci
    · obtain ⟨i, hi, rfl⟩ := List.mem_map.1 hu
      exact ⟨n, _, (hx i (by have := List.mem_range.1 hi; omega)).2⟩

theorem trod_float {t : TypeId} {k : FloatKind} {W : World} {base : Nat} {sp : Nat → Bool} {held : Bool} {fuel : Nat} {cs : List Value} {x : DataW H × List MemPlace} (ht : P.underlying t = some (.float k)) (h : DataW.trod enc P W base sp held fuel t cs = some x) :
    ∃ n, cs = [.float k n] ∧ (Lit.float k n).wf = true := by
  cases fuel with
  | zero => simp [DataW.trod] at h
  | succ n =>
    unfold DataW.trod at h
    rw [ht] at h
    split at h <;> simp_all

theorem map_of_all {α : Type} (f : α → Value) {p : α → Prop} : ∀ {cs : List Value}, (∀ u ∈ cs, ∃ x, u = f x ∧ p x) → ∃ xs : List α, cs = xs.map f ∧ ∀ x ∈ xs, p x
  | [], _ => ⟨[], rfl, by simp⟩
  | u :: cs, h => by
    obtain ⟨x, rfl, hx⟩ := h u (by simp)
    obtain ⟨xs, rfl, hxs⟩ := map_of_all f (cs := cs) (p := p) fun u hu => h u (List.mem_cons_of_mem _ hu)
    exact ⟨x :: xs, rfl, by simpa using ⟨hx, hxs⟩⟩

theorem open_floats {t e : TypeId} {k : FloatKind} {W : World} {v : Value} {d : DataW H} {ps : List MemPlace} (ht : P.underlying t = some (.slice e)) (he : P.underlying e = some (.float k)) (hc : P.cellsOf e = 1)
    (hval : Value.okWide P W .any 0 t v) (h : DataW.Trod enc P W 0 (fun _ => true) true t v d ps) :
    ∃ xs : List Nat, Lst W.heap.size W v (xs.map (Value.float k)) ∧ ∀ x ∈ xs, (Lit.float k x).wf = true := by
  obtain ⟨cs, hL, hu⟩ := open_cells ht hc hval h
  obtain ⟨xs, rfl, hw⟩ := map_of_all (Value.float k) (p := fun x => (Lit.float k x).wf = true) fun u hu' => by
    obtain ⟨n, x, hx⟩ := hu u hu'
    obtain ⟨b, hb, hw⟩ := trod_float he hx
    exact ⟨b, by simpa using hb, hw⟩
  exact ⟨xs, hL, hw⟩

theorem open_ints {t e : TypeId} {k : IntKind} {W : World} {v : Value} {d : DataW H} {ps : List MemPlace} (ht : P.underlying t = some (.slice e)) (he : P.underlying e = some (.int k)) (hc : P.cellsOf e = 1)
    (hval : Value.okWide P W .any 0 t v) (h : DataW.Trod enc P W 0 (fun _ => true) true t v d ps) :
    ∃ xs : List Int, Lst W.heap.size W v (xs.map (Value.int k)) ∧ ∀ x ∈ xs, (Lit.int k x).wf = true := by
  obtain ⟨cs, hL, hu⟩ := open_cells ht hc hval h
  obtain ⟨xs, rfl, hw⟩ := map_of_all (Value.int k) (p := fun x => (Lit.int k x).wf = true) fun u hu' => by
    obtain ⟨n, x, hx⟩ := hu u hu'
    obtain ⟨b, hb, _, hw⟩ := DataW.trod_int he hx
    exact ⟨b, by simpa using hb, hw⟩
  exact ⟨xs, hL, hw⟩
end
end Go.Lst
