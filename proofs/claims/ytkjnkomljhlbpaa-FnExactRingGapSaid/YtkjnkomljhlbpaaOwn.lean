/- Slices of elements of k cells: a word for 'this slice holds these cells', a word for 'this slice is a row of its own, whose block lies between A and B', and how both are kept while the world grows or another row is written. -/
import Derived.Test.YtkjnkomljhlbpaaLst
import Derived.Laws.OwnMore
import Derived.Deep.Fields
import Derived.OwnWalk
namespace Go.Lst
open Go.RowKit Go.WideShapes Go.ChangeShapes Go.Deep

/-- The slice v of the world w has n elements of k cells, which hold cs, in a block below B. -/
def LstK (k B : Nat) (w : World) (v : Value) (n : Nat) (cs : List Value) : Prop :=
  ∃ a cap, v = .slice a n cap ∧ n ≤ maxLen ∧ n ≤ cap ∧ cap ≤ maxLen ∧ cs.length = n * k ∧ (0 < n → ∃ b off, a = some ⟨b, off, none⟩ ∧ b < B ∧ ∀ i u, cs[i]? = some u → w.cell? ⟨b, off + i, none⟩ = some u)

/-- A nil slice, or one without elements. -/
theorem lstK_nil (k B : Nat) (w : World) : LstK k B w (.slice none 0 0) 0 [] := ⟨none, 0, rfl, Nat.zero_le _, Nat.le_refl _, Nat.zero_le _, by simp, fun h => absurd h (by omega)⟩
theorem LstK.below {k B B' n : Nat} {w w' : World} {v : Value} {cs : List Value} (h : LstK k B w v n cs) (hb : Below B' w w') (hB : B ≤ B') : LstK k B w' v n cs := by
  obtain ⟨a, cap, hv, hl, h1, h2, h3, hc⟩ := h
  refine ⟨a, cap, hv, hl, h1, h2, h3, fun hne => ?_⟩
  obtain ⟨b, off, ha, hbB, hcell⟩ := hc hne
  exact ⟨b, off, ha, hbB, fun i u hu => by rw [hb.cell (p := ⟨b, off + i, none⟩) (show b < B' by omega)]; exact hcell i u hu⟩

theorem LstK.mono {k B B' n : Nat} {w : World} {v : Value} {cs : List Value} (h : LstK k B w v n cs) (hB : B ≤ B') : LstK k B' w v n cs := by
  obtain ⟨a, cap, hv, hl, h1, h2, h3, hc⟩ := h
  refine ⟨a, cap, hv, hl, h1, h2, h3, fun hne => ?_⟩
  obtain ⟨b, off, ha, hbB, hcell⟩ := hc hne
  exact ⟨b, off, ha, by omega, hcell⟩

theorem LstK.lst {B n : Nat} {w : World} {v : Value} {cs : List Value} (h : LstK 1 B w v n cs) : Lst B w v cs := by
  obtain ⟨a, cap, hv, hl, h1, h2, h3, hc⟩ := h
  rw [Nat.mul_one] at h3
  subst h3
  exact ⟨a, cap, hv, hl, fun hne => hc (List.length_pos_iff.2 hne)⟩

/-- The slice v is a row of its own of n elements of k cells of the type e, in a block from A on, and below B. -/
def Own (A B : Nat) (w : World) (v : Value) (e k n : Nat) (cs : List Value) : Prop :=
  w.ownsRow A e k v n cs ∧ n ≤ maxLen ∧ (∀ g, v.ownBlock = some g → g < B)

theorem Own.new {A e k n : Nat} {w : World} {v : Value} {cs : List Value} (h : w.ownsRow A e k v n cs) (hm : n ≤ maxLen) : Own A w.heap.size w v e k n cs :=
  ⟨h, hm, fun g hg => (h.lt g hg).2⟩

theorem ownsRow_mono {A A' e k n : Nat} {w : World} {v : Value} {cs : List Value} (h : w.ownsRow A e k v n cs) (hA : A' ≤ A) : w.ownsRow A' e k v n cs := by
  obtain ⟨hl, h2⟩ := h
  refine ⟨hl, ?_⟩
  rcases h2 with h2 | ⟨g, cap, cur, hv, hb, r⟩
  · exact .inl h2
  · exact .inr ⟨g, cap, cur, hv, by omega, r⟩

/-- What lies below the heap's end stays while new blocks come. -/
theorem ownsRow_kept {A e k n : Nat} {w w' : World} {v : Value} {cs : List Value} (h : w.ownsRow A e k v n cs) (hb : Below w.heap.size w w') : w'.ownsRow A e k v n cs := by
  have hlt := h.lt
  obtain ⟨hl, h2⟩ := h
  refine ⟨hl, ?_⟩
  rcases h2 with h2 | ⟨g, cap, cur, hv, hA, hg, r⟩
  · exact .inl h2
  · exact .inr ⟨g, cap, cur, hv, hA, by rw [hb.block g (hlt g (by rw [hv]; rfl)).2]; exact hg, r⟩

theorem ownsRow_drewN {A e k n : Nat} {w : World} {v : Value} {cs : List Value} (h : w.ownsRow A e k v n cs) (m : Nat) : (w.drewN m).ownsRow A e k v n cs := ownsRow_kept h (Lst.Below.drewN (Below.refl _ _) m)
theorem own_nil {A B e k : Nat} {w : World} : Own A B w (.slice none 0 0) e k 0 [] := ⟨⟨by simp, .inl ⟨rfl, rfl⟩⟩, Nat.zero_le _, fun g hg => by cases hg⟩

theorem Own.mono {A A' B B' e k n : Nat} {w : World} {v : Value} {cs : List Value} (h : Own A B w v e k n cs) (hA : A' ≤ A) (hB : B ≤ B') : Own A' B' w v e k n cs :=
  ⟨ownsRow_mono h.1 hA, h.2.1, fun g hg => by have := h.2.2 g hg; omega⟩

/-- What the row's block holds decides. -/
theorem Own.same {A B e k n : Nat} {w w' : World} {v : Value} {cs : List Value} (h : Own A B w v e k n cs) (hs : ∀ g, A ≤ g → g < B → w'.heap[g]? = w.heap[g]?) : Own A B w' v e k n cs := by
  obtain ⟨⟨hl, h2⟩, hm, hB⟩ := h
  refine ⟨⟨hl, ?_⟩, hm, hB⟩
  rcases h2 with h2 | ⟨g, cap, cur, hv, hb, hg, r⟩
  · exact .inl h2
  · refine .inr ⟨g, cap, cur, hv, hb, ?_, r⟩
    rw [hs g hb (hB g (by rw [hv]; rfl))]
    exact hg

theorem Own.below {A B C e k n : Nat} {w w' : World} {v : Value} {cs : List Value} (h : Own A B w v e k n cs) (hb : Below C w w') (hC : B ≤ C) : Own A B w' v e k n cs :=
  h.same fun g _ hg => hb.block g (by omega)

/-- Another row has been written. -/
theorem Own.beside {A B e k n : Nat} {w w' : World} {v : Value} {cs : List Value} (h : Own A B w v e k n cs) {row : Option Nat} (hg : w.grownBy w' row) (hr : ∀ g, row = some g → g < A ∨ B ≤ g) (hB : B ≤ w.heap.size) : Own A B w' v e k n cs :=
  h.same fun g h1 h2 => hg.block g (by omega) fun he => by
    rcases hr g he.symm with h3 | h3 <;> omega

theorem Own.lstK {A B B' e k n : Nat} {w : World} {v : Value} {cs : List Value} (h : Own A B w v e k n cs) (hB : B ≤ B') : LstK k B' w v n cs := by
  obtain ⟨⟨hl, h2⟩, hm, hlt⟩ := h
  rcases h2 with ⟨rfl, rfl⟩ | ⟨g, cap, cur, rfl, hb, hg, hn, hc, hs, ht⟩
  · exact ⟨none, 0, rfl, by omega, by omega, by omega, hl, fun h => absurd h (by omega)⟩
  · have hgB : g < B := hlt g rfl
    refine ⟨_, cap, rfl, hm, hn, hc, hl, fun _ => ⟨g, 0, rfl, by omega, fun i u hu => ?_⟩⟩
    rw [Nat.zero_add, cell_of_row w g i cur e (0, 0) hg]
    rw [← ht, List.getElem?_take] at hu
    split at hu
    · simpa using hu
    · cases hu

theorem Own.lst {A B B' e n : Nat} {w : World} {v : Value} {cs : List Value} (h : Own A B w v e 1 n cs) (hB : B ≤ B') : Lst B' w v cs := (h.lstK hB).lst

theorem Own.block_ge {A B e k n : Nat} {w : World} {v : Value} {cs : List Value} (h : Own A B w v e k n cs) : ∀ g, v.ownBlock = some g → A ≤ g ∧ g < B :=
  fun g hg => ⟨(h.1.lt g hg).1, h.2.2 g hg⟩

/-- What a step that grows the world by blocks from B on, or writes a row from B on, leaves. -/
theorem Below.written {B : Nat} {a w w' : World} {row : Option Nat} (h : Below B a w) (hg : w.grownBy w' row) (hB : B ≤ w.heap.size) (hr : ∀ g, row = some g → B ≤ g) : Below B a w' := h.grown hg hB hr

theorem below_on {B : Nat} {w w' w'' : World} (h : Below B w w') (hB : B ≤ w.heap.size) (hb : Below w'.heap.size w' w'') : Below B w w'' := h.trans (hb.mono (Nat.le_trans hB h.size))
theorem below_alloc {w w1 : World} (h : Below w.heap.size w w1) (o : Obj) : Below w.heap.size w (w1.alloc o) := h.alloc h.size o
theorem below_drew {w w1 : World} (h : Below w.heap.size w w1) (n : Nat) : Below w.heap.size w (w1.drewN n) := Lst.Below.drewN h n
theorem below_drawn (w : World) (n : Nat) : Below w.heap.size w (w.drewN n) := Lst.Below.drewN (Below.refl _ _) n

/-- Some cells of a list, one behind another, are written. -/
def setAll (xs : List Value) (j : Nat) : List Value → List Value
  | [] => xs
  | u :: us => setAll (xs.set j u) (j + 1) us
theorem setAll_length (xs : List Value) (j : Nat) (us : List Value) : (setAll xs j us).length = xs.length := by
  induction us generalizing xs j with
  | nil => rfl
  | cons u us ih => unfold setAll; rw [ih, List.length_set]
theorem setAll_before (xs : List Value) (j : Nat) (us : List Value) (i : Nat) (h : i < j) : (setAll xs j us)[i]? = xs[i]? := by
  induction us generalizing xs j with
  | nil => rfl
  | cons u us ih => unfold setAll; rw [ih _ _ (by omega), List.getElem?_set_ne (by omega)]
theorem setAll_at (xs : List Value) (j : Nat) (us : List Value) (i : Nat) (h : i < us.length) (hx : j + us.length ≤ xs.length) : (setAll xs j us)[j + i]? = us[i]? := by
  induction us generalizing xs j i with
  | nil => simp at h
  | cons u us ih =>
    unfold setAll
    simp only [List.length_cons] at h hx
    cases i with
    | zero => rw [setAll_before _ _ _ _ (by omega), Nat.add_zero, List.getElem?_set_self (by omega)]; rfl
    | succ i => rw [show j + (i + 1) = (j + 1) + i by omega, ih _ _ _ (by omega) (by rw [List.length_set]; omega)]; rfl

/-- The cells of a block are written, one behind another. -/
def setMany (w : World) (g j : Nat) : List Value → World
  | [] => w
  | u :: us => setMany (w.setCell ⟨g, j, none⟩ u) g (j + 1) us
theorem grown_refl (w : World) (r : Option Nat) : w.grownBy w r := ⟨rfl, rfl, rfl, Nat.le_refl _, fun _ _ _ => rfl⟩
theorem grown_on {w w' w'' : World} {r : Option Nat} (h : w.grownBy w' r) (h' : w'.grownBy w'' r) : w.grownBy w'' r :=
  ⟨h'.os.trans h.os, h'.tape.trans h.tape, h'.output.trans h.output, Nat.le_trans h.size h'.size, fun i hi hne => (h'.block i (Nat.lt_of_lt_of_le hi h.size) hne).trans (h.block i hi hne)⟩
theorem ownsRow_setMany {A e k n cap g : Nat} {us : List Value} : ∀ {w : World} {xs : List Value} {j : Nat}, w.ownsRow A e k (.slice (some ⟨g, 0, none⟩) n cap) n xs →
    (setMany w g j us).ownsRow A e k (.slice (some ⟨g, 0, none⟩) n cap) n (setAll xs j us) ∧ w.grownBy (setMany w g j us) (some g) := by
  induction us with
  | nil => intro w xs j h; exact ⟨h, grown_refl _ _⟩
  | cons u us ih =>
    intro w xs j h
    have h1 := h.stored j u
    have h2 := ih (j := j + 1) h1.1
    exact ⟨h2.1, grown_on h1.2 h2.2⟩
theorem setMany_below {B g j : Nat} {us : List Value} : ∀ {a w : World}, Below B a w → B ≤ g → Below B a (setMany w g j us) := by
  induction us generalizing j with
  | nil => intro a w h _; exact h
  | cons u us ih => intro a w h hg; exact ih (h.setCell (p := ⟨g, j, none⟩) hg u) hg
theorem setMany_size {g j : Nat} {us : List Value} : ∀ {w : World}, (setMany w g j us).heap.size = w.heap.size := by
  induction us generalizing j with
  | nil => intro w; rfl
  | cons u us ih => intro w; unfold setMany; rw [ih]; simp [World.setCell]

section
variable {H : Type} {enc : TypeId × Value → H} {P : Program}
/-- A slice argument whose elements are structs of integers, opened: its cells, one behind another. -/
theorem open_int_rows' {t e : TypeId} {fs : Array Field} {q : IntKind} {W : World} {v : Value} {d : DataW H} {ps : List MemPlace} (ht : P.underlying t = some (.slice e)) (he : P.underlying e = some (.struct fs))
    (hone : oneCellFields P fs = true) (hC : P.cellsOf e = fs.size) (hpos : 0 < fs.size) (hq : ∀ (j : Nat) (f : Field), fs[j]? = some f → P.underlying f.type = some (.int q))
    (hval : Value.okWide P W .any 0 t v) (h : DataW.Trod enc P W 0 (fun _ => true) true t v d ps) :
    ∃ (n : Nat) (zs : List Int), zs.length = n * fs.size ∧ LstK fs.size W.heap.size W v n (zs.map (Value.int q)) ∧ ∀ z ∈ zs, (Lit.int q z).wf = true := by
  obtain ⟨a, len, cap, rfl⟩ := okWide_slice ht hval
  obtain ⟨fuel, hf⟩ := h
  rcases open_slice ht hf with ⟨hcs, _⟩ | ⟨a', len', cap', m, n, D, Pl, hcs, _, hl, hm, hmm, _, hx⟩
  · simp [Value.cells] at hcs
    obtain ⟨rfl, rfl, rfl⟩ := hcs
    exact ⟨0, [], by simp, lstK_nil _ _ _, by simp⟩
  · simp [Value.cells] at hcs
    obtain ⟨rfl, rfl, rfl⟩ := hcs
    simp only [if_true] at hmm
    subst hmm
    have hcell : ∀ i, i < len * fs.size → ∃ z : Int, W.cell? (a'.add i) = some (.int q z) ∧ (Lit.int q z).wf = true := fun i hi => by
      have hK := hpos
      have hdiv : i / fs.size < len := (Nat.div_lt_iff_lt_mul hK).2 hi
      have hmod : i % fs.size < fs.size := Nat.mod_lt _ hK
      obtain ⟨cs', hc, ht'⟩ := hx (i / fs.size) (by omega)
      rw [hC] at hc
      obtain ⟨ys, n', hn', hy, hlen, hyl, hfd⟩ := DataW.trod_struct he ht'
      obtain ⟨_, hcl, hat⟩ := World.cells?_some hc
      have hj : fs[i % fs.size]? = some fs[i % fs.size] := Array.getElem?_eq_getElem hmod
      obtain ⟨ho, hk⟩ := hone_of hone _ _ hj
      have hcell := hat (i % fs.size) hmod
      have hv : cs'[i % fs.size]? = some (cs'[i % fs.size]'(by omega)) := List.getElem?_eq_getElem (by omega)
      have h1 := hfd _ _ hj
      rw [ho, hk] at h1
      have hone' : (cs'.drop (i % fs.size)).take 1 = [cs'[i % fs.size]'(by omega)] := by
        rw [List.drop_eq_getElem_cons (by omega)]
        rfl
      rw [hone'] at h1
      have hys : ys[i % fs.size]? = some (ys[i % fs.size]'(by omega)) := List.getElem?_eq_getElem (by omega)
      obtain ⟨z, hz, _, hw⟩ := DataW.trod_int (hq _ _ hj) (h1.trans hys)
      refine ⟨z, ?_, hw⟩
      have e0 : i = i / fs.size * fs.size + i % fs.size := by rw [Nat.mul_comm]; exact (Nat.div_add_mod i fs.size).symm
      rw [e0, ← Go.Deep.add_add, hcell, hv]
      simpa using hz
    obtain ⟨f, hf⟩ := choose_lt hcell
    have hlen : ((List.range (len * fs.size)).map f).length = len * fs.size := by simp
    refine ⟨len, (List.range (len * fs.size)).map f, hlen, ⟨some a', _, rfl, by omega, hl, hm, by rw [List.length_map, hlen], fun h0 => ?_⟩, fun z hz => ?_⟩
    · have c0 := (hf 0 (Nat.mul_pos h0 hpos)).1
      have hs : a'.spot = none := by
        have e0 : a'.add 0 = a' := by simp [Addr.add]
        rw [e0] at c0
        unfold World.cell? at c0
        split at c0
        · split at c0
          · cases c0
          · rename_i hh; simpa using hh
        · cases c0
      have hb : a'.block < W.heap.size := by
        have := World.block_lt_of_cell? W _ c0
        have e0 : a'.add 0 = a' := by simp [Addr.add]
        rwa [e0] at this
      obtain ⟨b, off, sp⟩ := a'
      simp only at hs hb
      subst hs
      refine ⟨b, off, rfl, hb, fun i u hu => ?_⟩
      have hi : i < len * fs.size := by
        have := (List.getElem?_eq_some_iff.1 hu).1
        rw [List.length_map, hlen] at this
        exact this
      have hv : Value.int q (f i) = u := by
        rw [List.getElem?_map, List.getElem?_map, List.getElem?_range hi] at hu
        simpa using hu
      have ci := (hf i hi).1
      have ei : (⟨b, off, none⟩ : Addr).add i = ⟨b, off + i, none⟩ := by
        unfold Addr.add; split <;> simp_all
      rw [ei, hv] at ci
      exact ci
    · obtain ⟨i, hi, rfl⟩ := List.mem_map.1 hz
      exact (hf i (List.mem_range.1 hi)).2
end

theorem Lst.drewN {B : Nat} {w : World} {v : Value} {cs : List Value} (h : Lst B w v cs) (n : Nat) : Lst B (w.drewN n) v cs := h.below (Lst.Below.drewN (Below.refl B w) n) (Nat.le_refl _)
theorem LstK.drewN {k B m : Nat} {w : World} {v : Value} {cs : List Value} (h : LstK k B w v m cs) (n : Nat) : LstK k B (w.drewN n) v m cs := h.below (Lst.Below.drewN (Below.refl B w) n) (Nat.le_refl _)
/-- The slice v holds the numbers xs. -/
def LstI (B : Nat) (w : World) (v : Value) (xs : List Int) : Prop := LstK 1 B w v xs.length (xs.map (Value.int .i64))
theorem LstI.lst {B : Nat} {w : World} {v : Value} {xs : List Int} (h : LstI B w v xs) : Lst B w v (xs.map (Value.int .i64)) := LstK.lst h
theorem LstI.below {B B' : Nat} {w w' : World} {v : Value} {xs : List Int} (h : LstI B w v xs) (hb : Below B' w w') (hB : B ≤ B') : LstI B w' v xs := LstK.below h hb hB
theorem LstI.mono {B B' : Nat} {w : World} {v : Value} {xs : List Int} (h : LstI B w v xs) (hB : B ≤ B') : LstI B' w v xs := LstK.mono h hB
theorem LstI.drewN {B : Nat} {w : World} {v : Value} {xs : List Int} (h : LstI B w v xs) (n : Nat) : LstI B (w.drewN n) v xs := LstK.drewN h n
theorem LstI.at_ {B : Nat} {w : World} {v : Value} {xs : List Int} (h : LstI B w v xs) : ∃ a cap, v = .slice a xs.length cap ∧ xs.length ≤ maxLen ∧ xs.length ≤ cap ∧ cap ≤ maxLen ∧
    ∀ k, k < xs.length → ∃ b o x, a = some ⟨b, o, none⟩ ∧ b < B ∧ xs[k]? = some x ∧ w.cell? ⟨b, o + k, none⟩ = some (.int .i64 x) := by
  obtain ⟨a, cap, hv, hl, h1, h2, _, hc⟩ := h
  refine ⟨a, cap, hv, hl, h1, h2, fun k hk => ?_⟩
  obtain ⟨b, o, ha, hb, hcell⟩ := hc (by omega)
  have e1 : xs[k]? = some xs[k] := List.getElem?_eq_getElem _
  exact ⟨b, o, xs[k], ha, hb, e1, hcell k _ (by rw [List.getElem?_map, e1]; rfl)⟩
theorem LstI.take {B k : Nat} {w : World} {a : Option Addr} {n cap : Nat} {xs : List Int} (h : LstI B w (.slice a n cap) xs) (hk : k ≤ xs.length) : LstI B w (.slice a k cap) (xs.take k) := by
  obtain ⟨a', cap', hv, hl, h1, h2, _, hc⟩ := h
  injection hv with e1 e2 e3
  subst e1 e3
  have hlen : (xs.take k).length = k := by rw [List.length_take]; omega
  refine ⟨_, cap, by rw [hlen], by omega, by omega, h2, by rw [List.length_map, Nat.mul_one], fun hne => ?_⟩
  obtain ⟨b', o', ha, hb, hcell⟩ := hc (by omega)
  refine ⟨b', o', ha, hb, fun i u hu => hcell i u ?_⟩
  rw [List.getElem?_map, List.getElem?_take] at hu
  split at hu
  · rw [List.getElem?_map]; exact hu
  · cases hu
theorem Own.lstI {A B B' e : Nat} {w : World} {v : Value} {xs : List Int} (h : Own A B w v e 1 xs.length (xs.map (Value.int .i64))) (hB : B ≤ B') : LstI B' w v xs := h.lstK hB

section
variable {H : Type} {enc : TypeId × Value → H} {P : Program}
theorem open_intsI {t e : TypeId} {W : World} {v : Value} {d : DataW H} {ps : List MemPlace} (ht : P.underlying t = some (.slice e)) (he : P.underlying e = some (.int .i64)) (hc : P.cellsOf e = 1)
    (hval : Value.okWide P W .any 0 t v) (h : DataW.Trod enc P W 0 (fun _ => true) true t v d ps) :
    ∃ xs : List Int, LstI W.heap.size W v xs ∧ ∀ x ∈ xs, (Lit.int .i64 x).wf = true := by
  obtain ⟨xs, hL, hw⟩ := open_ints ht he hc hval h
  refine ⟨xs, ?_, hw⟩
  obtain ⟨a, cap, hv, hl, hcell⟩ := hL
  rw [List.length_map] at hv hl
  subst hv
  obtain ⟨fuel, hf⟩ := h
  have hcap : xs.length ≤ cap ∧ cap ≤ maxLen := by
    rcases open_slice ht hf with ⟨hcs, _⟩ | ⟨a', len', cap', m, n, D, Pl, hcs, _, hl, hm, _⟩
    · simp [Value.cells] at hcs
      obtain ⟨_, h1, rfl⟩ := hcs
      rw [h1]; exact ⟨Nat.le_refl _, Nat.zero_le _⟩
    · simp [Value.cells] at hcs
      obtain ⟨_, rfl, rfl⟩ := hcs
      exact ⟨hl, hm⟩
  exact ⟨a, cap, rfl, hl, hcap.1, hcap.2, by rw [List.length_map, Nat.mul_one], fun h0 => hcell (fun e0 => by simp at e0; rw [e0] at h0; simp at h0)⟩
end
/-- A slice that was written out. -/
theorem lst_lit {w : World} {t : TypeId} {g : Nat} (xs : List Int) (hg : g = w.heap.size) (hm : xs.length ≤ 1048576) :
    Lst (g + 1) (w.alloc (.cells (xs.map (Value.int .i64)).toArray t)) (.slice (some ⟨g, 0, none⟩) xs.length xs.length) (xs.map (Value.int .i64)) := by
  subst hg
  refine ⟨_, xs.length, by rw [List.length_map], by rw [List.length_map]; unfold maxLen; omega, fun _ => ⟨_, 0, rfl, Nat.lt_succ_self _, fun i u hu => ?_⟩⟩
  rw [World.cell?_alloc_at _ _ _ _ rfl, Nat.zero_add]
  simpa using hu
end Go.Lst
