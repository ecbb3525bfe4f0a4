/- Lists of Task: a word for them, a word for a copy of the call's own, and how both are kept. -/
import Derived.Test.YtdggbjpfllnenaaInts
import Derived.StillTailTactics
namespace Go.Lst
open Go.RowKit Go.WideShapes Go.ChangeShapes Go.Deep

/-- Outside the blocks from A to B the world w' is as w was. -/
structure Inside (A B : Nat) (w w' : World) : Prop where
  os : w'.os = w.os
  tape : w'.tape = w.tape
  output : w'.output = w.output
  size : w.heap.size ≤ w'.heap.size
  block : ∀ k, k < w.heap.size → (k < A ∨ B ≤ k) → w'.heap[k]? = w.heap[k]?
theorem Inside.refl (A B : Nat) (w : World) : Inside A B w w := ⟨rfl, rfl, rfl, Nat.le_refl _, fun _ _ _ => rfl⟩
theorem Inside.trans {A B : Nat} {a b c : World} (h : Inside A B a b) (k : Inside A B b c) : Inside A B a c :=
  ⟨k.os.trans h.os, k.tape.trans h.tape, k.output.trans h.output, Nat.le_trans h.size k.size, fun i hi hs => (k.block i (Nat.lt_of_lt_of_le hi h.size) hs).trans (h.block i hi hs)⟩
theorem Inside.of_grown {A B : Nat} {w w' : World} {row : Option Nat} (hg : w.grownBy w' row) (hr : ∀ g, row = some g → A ≤ g ∧ g < B) : Inside A B w w' :=
  ⟨hg.os, hg.tape, hg.output, hg.size, fun k hk hs => hg.block k hk fun e => by have := hr k e.symm; omega⟩
theorem Inside.mono {A A' B B' : Nat} {w w' : World} (h : Inside A B w w') (hA : A' ≤ A) (hB : B ≤ B') : Inside A' B' w w' :=
  ⟨h.os, h.tape, h.output, h.size, fun k hk hs => h.block k hk (by omega)⟩
theorem Inside.below {A B C : Nat} {a w w' : World} (h : Below C a w) (hi : Inside A B w w') (hC : C ≤ w.heap.size) (hA : C ≤ A) : Below C a w' :=
  h.trans ⟨hi.os, hi.tape, hi.output, hi.size, fun k hk => hi.block k (by omega) (.inl (by omega))⟩
/-- What lies beside the blocks that have been written stays. -/
theorem Own.apart {A B C D e k n : Nat} {w w' : World} {v : Value} {cs : List Value} (h : Own A B w v e k n cs) (hi : Inside C D w w') (hs : B ≤ C ∨ D ≤ A) (hB : B ≤ w.heap.size) : Own A B w' v e k n cs :=
  h.same fun g h1 h2 => hi.block g (by omega) (by omega)

section
variable {H : Type} {enc : TypeId × Value → H} {P : Program}
/-- A cell that reads as a list of numbers. -/
theorem trod_ints {t e : TypeId} {W : World} {u : Value} {fuel : Nat} {z : DataW H × List MemPlace} (ht : P.underlying t = some (.slice e)) (he : P.underlying e = some (.int .i64)) (hc : P.cellsOf e = 1)
    (h : DataW.trod enc P W 0 (fun _ => true) true fuel t [u] = some z) : ∃ xs : List Int, LstI W.heap.size W u xs ∧ ∀ x ∈ xs, (Lit.int .i64 x).wf = true := by
  rcases open_slice1 ht hc h with ⟨hcs, _⟩ | ⟨a', len', cap', m, n, V, D, Pl, hcs, _, hl, hm, hmm, _, hx⟩
  · obtain rfl : u = .slice none 0 0 := by simpa using hcs
    exact ⟨[], ⟨none, 0, rfl, by simp, by simp, Nat.zero_le _, by simp, fun h => absurd h (by simp)⟩, by simp⟩
  · obtain rfl : u = .slice (some a') len' cap' := by simpa using hcs
    simp only [if_true] at hmm
    subst hmm
    have hv : ∀ i, i < len' → ∃ x : Int, V i = .int .i64 x ∧ (Lit.int .i64 x).wf = true := fun i hi => by
      obtain ⟨b, hb, _, hw⟩ := DataW.trod_int he (hx i (by omega)).2
      exact ⟨b, by simpa using hb, hw⟩
    obtain ⟨f, hf⟩ := choose_lt hv
    have hlen : ((List.range len').map f).length = len' := by simp
    refine ⟨(List.range len').map f, ⟨some a', m, by rw [hlen], by rw [hlen]; omega, by rw [hlen]; exact hl, hm, by rw [List.length_map, Nat.mul_one], fun h0 => ?_⟩, fun z hz => ?_⟩
    · rw [hlen] at h0
      have c0 := (hx 0 (by omega)).1
      have hs : a'.spot = none := by
        have e0 : a'.add 0 = a' := by simp [Addr.add]
        rw [e0] at c0
        unfold World.cell? at c0
        split at c0
        · split at c0
          · cases c0
          · rename_i hh; simpa using hh
        · cases c0
      have hb : a'.block < W.heap.size := by
        have := World.block_lt_of_cell? W _ c0
        have e0 : a'.add 0 = a' := by simp [Addr.add]
        rwa [e0] at this
      obtain ⟨b, off, sp⟩ := a'
      simp only at hs hb
      subst hs
      refine ⟨b, off, rfl, hb, fun i u hu => ?_⟩
      have hi : i < len' := by
        have := (List.getElem?_eq_some_iff.1 hu).1
        rwa [List.length_map, hlen] at this
      have hv : Value.int .i64 (f i) = u := by
        rw [List.getElem?_map, List.getElem?_map, List.getElem?_range hi] at hu
        simpa using hu
      have ci := (hx i (by omega)).1
      have ei : (⟨b, off, none⟩ : Addr).add i = ⟨b, off + i, none⟩ := by
        unfold Addr.add; split <;> simp_all
      rw [ei, (hf i hi).1, hv] at ci
      exact ci
    · obtain ⟨i, hi, rfl⟩ := List.mem_map.1 hz
      exact (hf i (List.mem_range.1 hi)).2
end
end Go.Lst
namespace Go.Proofs.Ytdggbjpfllnenaa
open Go.RowKit Go.Lst Go.ChangeShapes Go.WideShapes Go.Deep

structure TaskD where
  (Time Needs : Int)
  (Before Lags : List Int)
deriving Inhabited
namespace TaskD
def wf (x : TaskD) : Prop := (Lit.int .i64 x.Time).wf = true ∧ (Lit.int .i64 x.Needs).wf = true ∧ (∀ y ∈ x.Before, (Lit.int .i64 y).wf = true) ∧ ∀ y ∈ x.Lags, (Lit.int .i64 y).wf = true
end TaskD
/-- How many numbers the lists of some tasks have. -/
def inner : List TaskD → Nat
  | [] => 0
  | x :: xs => x.Before.length + x.Lags.length + inner xs
theorem inner_take {xs : List TaskD} {k : Nat} {x : TaskD} (hx : xs[k]? = some x) : inner (xs.take (k + 1)) = inner (xs.take k) + (x.Before.length + x.Lags.length) := by
  induction xs generalizing k with
  | nil => simp at hx
  | cons y ys ih =>
    cases k with
    | zero => obtain rfl : y = x := by simpa using hx
              simp [inner]
    | succ k => have := ih (k := k) (by simpa using hx)
                simp only [List.take_succ_cons, inner, this]; omega
theorem inner_take_le (xs : List TaskD) (k : Nat) : inner (xs.take k) ≤ inner xs := by
  induction xs generalizing k with
  | nil => simp
  | cons y ys ih =>
    cases k with
    | zero => simp [inner]
    | succ k => have := ih k; simp only [List.take_succ_cons, inner]; omega
/-- The size of tasks. -/
def tsz (xs : List TaskD) : Nat := xs.length + inner xs

/-- The slice v holds the tasks xs. -/
def LstTask (B : Nat) (w : World) (v : Value) (xs : List TaskD) : Prop := ∃ a cap, v = .slice a xs.length cap ∧ xs.length ≤ maxLen ∧ xs.length ≤ cap ∧ cap ≤ maxLen ∧
  ∀ (k : Nat) (x : TaskD), xs[k]? = some x → ∃ b o vb vl, a = some ⟨b, o, none⟩ ∧ b < B ∧ w.cell? ⟨b, o + k * 4, none⟩ = some (.int .i64 x.Time) ∧ w.cell? ⟨b, o + k * 4 + 1, none⟩ = some (.int .i64 x.Needs) ∧
    w.cell? ⟨b, o + k * 4 + 2, none⟩ = some vb ∧ w.cell? ⟨b, o + k * 4 + 3, none⟩ = some vl ∧ LstI B w vb x.Before ∧ LstI B w vl x.Lags
theorem LstTask.below {B B' : Nat} {w w' : World} {v : Value} {xs : List TaskD} (h : LstTask B w v xs) (hb : Below B' w w') (hB : B ≤ B') : LstTask B w' v xs := by
  obtain ⟨a, cap, hv, hl, h1, h2, hc⟩ := h
  refine ⟨a, cap, hv, hl, h1, h2, fun k x hx => ?_⟩
  obtain ⟨b, o, vb, vl, ha, hlt, c0, c1, c2, c3, l0, l1⟩ := hc k x hx
  refine ⟨b, o, vb, vl, ha, hlt, ?_, ?_, ?_, ?_, l0.below hb hB, l1.below hb hB⟩
  · rw [hb.cell (p := ⟨b, o + k * 4, none⟩) (show b < B' by omega)]; exact c0
  · rw [hb.cell (p := ⟨b, o + k * 4 + 1, none⟩) (show b < B' by omega)]; exact c1
  · rw [hb.cell (p := ⟨b, o + k * 4 + 2, none⟩) (show b < B' by omega)]; exact c2
  · rw [hb.cell (p := ⟨b, o + k * 4 + 3, none⟩) (show b < B' by omega)]; exact c3
theorem LstTask.mono {B B' : Nat} {w : World} {v : Value} {xs : List TaskD} (h : LstTask B w v xs) (hB : B ≤ B') : LstTask B' w v xs := by
  obtain ⟨a, cap, hv, hl, h1, h2, hc⟩ := h
  refine ⟨a, cap, hv, hl, h1, h2, fun k x hx => ?_⟩
  obtain ⟨b, o, vb, vl, ha, hlt, c0, c1, c2, c3, l0, l1⟩ := hc k x hx
  exact ⟨b, o, vb, vl, ha, by omega, c0, c1, c2, c3, l0.mono hB, l1.mono hB⟩
theorem LstTask.at_ {B : Nat} {w : World} {v : Value} {xs : List TaskD} (h : LstTask B w v xs) : ∃ a cap, v = .slice a xs.length cap ∧ xs.length ≤ maxLen ∧ xs.length ≤ cap ∧ cap ≤ maxLen ∧
    ∀ k, k < xs.length → ∃ b o x vb vl, a = some ⟨b, o, none⟩ ∧ b < B ∧ xs[k]? = some x ∧ w.cell? ⟨b, o + k * 4, none⟩ = some (.int .i64 x.Time) ∧ w.cell? ⟨b, o + k * 4 + 1, none⟩ = some (.int .i64 x.Needs) ∧
      w.cell? ⟨b, o + k * 4 + 2, none⟩ = some vb ∧ w.cell? ⟨b, o + k * 4 + 3, none⟩ = some vl ∧ LstI B w vb x.Before ∧ LstI B w vl x.Lags := by
  obtain ⟨a, cap, hv, hl, h1, h2, hc⟩ := h
  refine ⟨a, cap, hv, hl, h1, h2, fun k hk => ?_⟩
  have e1 : xs[k]? = some xs[k] := List.getElem?_eq_getElem _
  obtain ⟨b, o, vb, vl, ha, hlt, c0, c1, c2, c3, l0, l1⟩ := hc k _ e1
  exact ⟨b, o, xs[k], vb, vl, ha, hlt, e1, c0, c1, c2, c3, l0, l1⟩

/-- The first k of the tasks xs lie in the cells ys; their lists lie in blocks of their own, one behind the other. -/
def RowsUpto (f : Nat → Nat) (w : World) (xs : List TaskD) (ys : List Value) (k : Nat) : Prop := ∀ (j : Nat) (x : TaskD), j < k → xs[j]? = some x → ∃ vb vl,
  ys[j * 4]? = some (.int .i64 x.Time) ∧ ys[j * 4 + 1]? = some (.int .i64 x.Needs) ∧ ys[j * 4 + 2]? = some vb ∧ ys[j * 4 + 3]? = some vl ∧
    Own (f (2 * j)) (f (2 * j + 1)) w vb 2 1 x.Before.length (x.Before.map (Value.int .i64)) ∧ Own (f (2 * j + 1)) (f (2 * j + 2)) w vl 2 1 x.Lags.length (x.Lags.map (Value.int .i64))
theorem steps_le {f : Nat → Nat} {n : Nat} (h : ∀ i, i < n → f i ≤ f (i + 1)) : ∀ {i j : Nat}, i ≤ j → j ≤ n → f i ≤ f j := by
  intro i j hij
  induction hij with
  | refl => intro _; exact Nat.le_refl _
  | step _ ih => intro hj; exact Nat.le_trans (ih (by omega)) (h _ (by omega))
theorem RowsUpto.same {f : Nat → Nat} {w w' : World} {xs : List TaskD} {ys : List Value} {k : Nat} (h : RowsUpto f w xs ys k) (hm : ∀ i, i < 2 * k → f i ≤ f (i + 1)) (hs : ∀ g, f 0 ≤ g → g < f (2 * k) → w'.heap[g]? = w.heap[g]?) : RowsUpto f w' xs ys k := by
  intro j x hj hx
  obtain ⟨vb, vl, y0, y1, y2, y3, o0, o1⟩ := h j x hj hx
  have m0 := steps_le hm (show 0 ≤ 2 * j by omega) (by omega)
  have m1 := steps_le hm (show 2 * j ≤ 2 * j + 1 by omega) (by omega)
  have m2 := steps_le hm (show 2 * j + 1 ≤ 2 * j + 2 by omega) (by omega)
  have m3 := steps_le hm (show 2 * j + 2 ≤ 2 * k by omega) (by omega)
  exact ⟨vb, vl, y0, y1, y2, y3, o0.same fun g h1 h2 => hs g (by omega) (by omega), o1.same fun g h1 h2 => hs g (by omega) (by omega)⟩

/-- A copy of the tasks xs, of the call's own, in the blocks from A to B. -/
def OwnTask (A B : Nat) (w : World) (v : Value) (xs : List TaskD) : Prop := ∃ (ys : List Value) (f : Nat → Nat), Own A (A + 1) w v 45 4 xs.length ys ∧ f 0 = A + 1 ∧ (∀ i, i < 2 * xs.length → f i ≤ f (i + 1)) ∧ f (2 * xs.length) ≤ B ∧ RowsUpto f w xs ys xs.length
theorem OwnTask.same {A B : Nat} {w w' : World} {v : Value} {xs : List TaskD} (h : OwnTask A B w v xs) (hs : ∀ g, A ≤ g → g < B → w'.heap[g]? = w.heap[g]?) : OwnTask A B w' v xs := by
  obtain ⟨ys, f, ho, h0, hm, hB, hr⟩ := h
  have m0 := steps_le hm (show 0 ≤ 2 * xs.length by omega) (by omega)
  exact ⟨ys, f, ho.same fun g h1 h2 => hs g h1 (by omega), h0, hm, hB, hr.same hm fun g h1 h2 => hs g (by omega) (by omega)⟩
theorem OwnTask.below {A B C : Nat} {w w' : World} {v : Value} {xs : List TaskD} (h : OwnTask A B w v xs) (hb : Below C w w') (hC : B ≤ C) : OwnTask A B w' v xs := h.same fun g _ hg => hb.block g (by omega)
theorem OwnTask.apart {A B C D : Nat} {w w' : World} {v : Value} {xs : List TaskD} (h : OwnTask A B w v xs) (hi : Inside C D w w') (hs : B ≤ C ∨ D ≤ A) (hB : B ≤ w.heap.size) : OwnTask A B w' v xs :=
  h.same fun g h1 h2 => hi.block g (by omega) (by omega)
theorem OwnTask.lst {A B B' : Nat} {w : World} {v : Value} {xs : List TaskD} (h : OwnTask A B w v xs) (hB : B ≤ B') : LstTask B' w v xs := by
  obtain ⟨ys, f, ho, h0, hm, hfB, hr⟩ := h
  have m0 := steps_le hm (show 0 ≤ 2 * xs.length by omega) (by omega)
  obtain ⟨a, cap, hv, hl, h1, h2, h3, hc⟩ := ho.lstK (Nat.le_refl _)
  refine ⟨a, cap, hv, hl, h1, h2, fun k x hx => ?_⟩
  have hk : k < xs.length := (List.getElem?_eq_some_iff.1 hx).1
  obtain ⟨b, o, ha, hb, hcell⟩ := hc (by omega)
  obtain ⟨vb, vl, y0, y1, y2, y3, o0, o1⟩ := hr k x hk hx
  have m1 := steps_le hm (show 2 * k + 1 ≤ 2 * xs.length by omega) (by omega)
  have m2 := steps_le hm (show 2 * k + 2 ≤ 2 * xs.length by omega) (by omega)
  exact ⟨b, o, vb, vl, ha, by omega, hcell _ _ y0, hcell _ _ y1, hcell _ _ y2, hcell _ _ y3, o0.lstI (by omega), o1.lstI (by omega)⟩

set_option maxRecDepth 100000 in
theorem openRow_Task {H : Type} {enc : TypeId × Value → H} {W : World} {v : Value} {d : DataW H} {ps : List MemPlace}
    (hval : Value.okWide Try.prog W .any 0 22 v) (h : DataW.Trod enc Try.prog W 0 (fun _ => true) true 22 v d ps) :
    ∃ xs : List TaskD, LstTask W.heap.size W v xs ∧ ∀ y ∈ xs, y.wf := by
  have hC : Try.prog.cellsOf 52 = 4 := by kernel_rfl
  have hI : Try.prog.cellsOf 2 = 1 := by kernel_rfl
  have hS : Try.prog.cellsOf 23 = 1 := by kernel_rfl
  have hF : (Try.prog.fieldsOf 52).map (fun f => (f.type, f.offset)) = #[(2, 0), (2, 1), (23, 2), (23, 3)] := by kernel_rfl
  have hf : ∀ (j t o : Nat), #[(2, 0), (2, 1), (23, 2), (23, 3)][j]? = some (t, o) → ∃ f : Field, (Try.prog.fieldsOf 52)[j]? = some f ∧ f.type = t ∧ f.offset = o := by
    intro j t o hj
    rw [← hF, Array.getElem?_map] at hj
    obtain ⟨f, hf, he⟩ := Option.map_eq_some_iff.1 hj
    exact ⟨f, hf, by simpa using congrArg Prod.fst he, by simpa using congrArg Prod.snd he⟩
  obtain ⟨f0, g0, t0, o0⟩ := hf 0 _ _ rfl
  obtain ⟨f1, g1, t1, o1⟩ := hf 1 _ _ rfl
  obtain ⟨f2, g2, t2, o2⟩ := hf 2 _ _ rfl
  obtain ⟨f3, g3, t3, o3⟩ := hf 3 _ _ rfl
  have hz : (Try.prog.fieldsOf 52).size = 4 := by have := congrArg Array.size hF; simpa using this
  obtain ⟨a, len, cap, rfl⟩ := okWide_slice Try.underlying22 hval
  obtain ⟨fuel, hfu⟩ := h
  rcases open_slice Try.underlying22 hfu with ⟨hcs, _⟩ | ⟨a', len', cap', m, n, D, Pl, hcs, _, hl, hm, hmm, _, hx⟩
  · simp [Value.cells] at hcs
    obtain ⟨rfl, rfl, rfl⟩ := hcs
    exact ⟨[], ⟨none, 0, rfl, by simp, by simp, Nat.zero_le _, by simp⟩, by simp⟩
  · simp [Value.cells] at hcs
    obtain ⟨rfl, rfl, rfl⟩ := hcs
    simp only [if_true] at hmm
    subst hmm
    rw [hC] at hx
    have hall : ∀ i, i < len → ∃ x : TaskD, x.wf ∧ ∃ vb vl, W.cell? (a'.add (i * 4)) = some (.int .i64 x.Time) ∧ W.cell? (a'.add (i * 4 + 1)) = some (.int .i64 x.Needs) ∧ W.cell? (a'.add (i * 4 + 2)) = some vb ∧ W.cell? (a'.add (i * 4 + 3)) = some vl ∧ LstI W.heap.size W vb x.Before ∧ LstI W.heap.size W vl x.Lags := fun i hi => by
      obtain ⟨cs', hc, ht'⟩ := hx i (by omega)
      obtain ⟨ys, n', hn', hy, hlen, hyl, hfd⟩ := DataW.trod_struct Try.underlying52 ht'
      obtain ⟨_, hcl, hat⟩ := World.cells?_some hc
      have hyl4 : ys.length = 4 := hyl
      clear hyl hlen hy
      match cs', hcl with
      | [c0, c1, c2, c3], _ =>
        have r0 := hfd 0 f0 g0
        have r1 := hfd 1 f1 g1
        have r2 := hfd 2 f2 g2
        have r3 := hfd 3 f3 g3
        rw [t0, o0, hI, List.getElem?_eq_getElem (by omega)] at r0
        rw [t1, o1, hI, List.getElem?_eq_getElem (by omega)] at r1
        rw [t2, o2, hS, List.getElem?_eq_getElem (by omega)] at r2
        rw [t3, o3, hS, List.getElem?_eq_getElem (by omega)] at r3
        simp only [List.drop_zero, List.drop_succ_cons, List.take_succ_cons, List.take_zero] at r0 r1 r2 r3
        obtain ⟨z0, e0, _, w0⟩ := DataW.trod_int Try.underlying2 r0
        obtain ⟨z1, e1, _, w1⟩ := DataW.trod_int Try.underlying2 r1
        obtain ⟨x2, L2, w2⟩ := trod_ints Try.underlying23 Try.underlying2 hI r2
        obtain ⟨x3, L3, w3⟩ := trod_ints Try.underlying23 Try.underlying2 hI r3
        have k0 := hat 0 (by omega)
        have k1 := hat 1 (by omega)
        have k2 := hat 2 (by omega)
        have k3 := hat 3 (by omega)
        rw [Go.Deep.add_add] at k0 k1 k2 k3
        obtain rfl : c0 = .int .i64 z0 := by simpa using e0
        obtain rfl : c1 = .int .i64 z1 := by simpa using e1
        exact ⟨⟨z0, z1, x2, x3⟩, ⟨w0, w1, w2, w3⟩, c2, c3, by simpa using k0, by simpa using k1, by simpa using k2, by simpa using k3, L2, L3⟩
    obtain ⟨f, hf⟩ := choose_lt hall
    have hlen : ((List.range len).map f).length = len := by simp
    refine ⟨(List.range len).map f, ⟨some a', m, by rw [hlen], by rw [hlen]; omega, by rw [hlen]; exact hl, hm, fun k x hx' => ?_⟩, fun z hz' => ?_⟩
    · have hk : k < len := by have := (List.getElem?_eq_some_iff.1 hx').1; rwa [hlen] at this
      obtain rfl : f k = x := by rw [List.getElem?_map, List.getElem?_range hk] at hx'; simpa using hx'
      obtain ⟨_, vb, vl, c0, c1, c2, c3, l0, l1⟩ := hf k hk
      obtain ⟨_, _, _, z0, _⟩ := hf 0 (by omega)
      have hs := World.cell?_spot z0
      have hb := World.block_lt_of_cell? W _ c0
      obtain ⟨b, off, sp⟩ := a'
      obtain rfl : sp = none := by simpa [Addr.add] using hs
      have ei : ∀ i, (⟨b, off, none⟩ : Addr).add i = ⟨b, off + i, none⟩ := fun i => by
        unfold Addr.add; split <;> simp_all
      rw [ei] at c0 c1 c2 c3 hb
      exact ⟨b, off, vb, vl, rfl, hb, by simpa [Nat.add_assoc] using c0, by simpa [Nat.add_assoc] using c1, by simpa [Nat.add_assoc] using c2, by simpa [Nat.add_assoc] using c3, l0, l1⟩
    · obtain ⟨i, hi, rfl⟩ := List.mem_map.1 hz'
      exact (hf i (List.mem_range.1 hi)).1
end Go.Proofs.Ytdggbjpfllnenaa
