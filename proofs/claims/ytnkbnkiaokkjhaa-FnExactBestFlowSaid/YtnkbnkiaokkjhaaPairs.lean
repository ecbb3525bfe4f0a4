/- Contracts: the pairs of a list, one behind the other, for whatever loop takes them. -/
import Derived.RangeFuncBox
import Derived.RangeFuncLeaves
import Derived.RangeFuncCalls
import Derived.RangeFuncBound
import Derived.Shelf.Abstract
import Derived.Shelf.RegionOpen
import Derived.Stop.RegionWithIn
import Derived.WalkKit
import Derived.OwnWalkIn
import Derived.TacticsInMore
import Derived.LoopNIn
import Derived.LoopIn
import Derived.Test.YtnkbnkiaokkjhaaInRows
import Derived.Test.YtnkbnkiaokkjhaaPairPure
namespace Go.Proofs.Ytnkbnkiaokkjhaa
open Go.RowKit Go.Lst Go.Shelf

attribute [local go_sem] Oper.semAt_some

/-- A pair of a list. -/
abbrev PairIn (xs : List Int) := { p : Int × Int // p ∈ pairsL xs }
abbrev pairV (xs : List Int) (x : PairIn xs) : Array Value := #[.int .i64 x.1.1, .int .i64 x.1.2]

theorem grown_of_below {w w' : World} (h : Below w.heap.size w w') : w.grownBy w' none := ⟨h.os, h.tape, h.output, h.size, fun k hk _ => h.block k hk⟩

theorem pairsTo_prefix {xs : List Int} {k n : Nat} (h : k ≤ n) : pairsTo xs k <+: pairsTo xs n := by
  obtain ⟨d, rfl⟩ : ∃ d, n = k + d := ⟨n - k, by omega⟩
  clear h
  induction d with
  | zero => exact List.prefix_refl _
  | succ d ih =>
    refine ih.trans ?_
    rw [← Nat.add_assoc, pairsTo_succ]
    exact List.prefix_append _ _
/-- What a round keeps: all below n₀, and from n₁ on each block of cells of the type t. -/
def KeptA (n₀ n₁ : Nat) (t : TypeId) (W W' : World) : Prop := Below n₀ W W' ∧ ∀ (b : Nat) (cs : Array Value) (k : Nat × Nat), n₁ ≤ b → W.heap[b]? = some (.cells cs t k) → W'.heap[b]? = some (.cells cs t k)
theorem KeptA.t {n₀ n₁ : Nat} {t : TypeId} {A B C : World} (h : KeptA n₀ n₁ t A B) (k : KeptA n₀ n₁ t B C) : KeptA n₀ n₁ t A C :=
  ⟨h.1.trans k.1, fun b cs q hb ho => k.2 b cs q hb (h.2 b cs q hb ho)⟩
theorem KeptA.b {n₀ n₁ : Nat} {t : TypeId} {w : World} (hn : n₀ ≤ w.heap.size) (W : World) (l : Nat) (o o' : Obj) (hl : w.heap.size ≤ l) (h : W.heap[l]? = some o) (hc : o.isCells = false) (hw : o.isWalk = false) : KeptA n₀ n₁ t W (W.putObj l o') :=
  ⟨belowK_b hn W l o o' hl h hc hw, fun b cs k _ hb => by
    have hne : some b ≠ some l := fun e => by
      cases e
      rw [h] at hb; cases hb; cases hc
    exact ((grownBy_putObj' W l o').block b (Array.getElem?_eq_some_iff.1 hb).1 hne).trans hb⟩
theorem KeptA.grown {n₀ n₁ : Nat} {t : TypeId} {W W' : World} {row : Option Nat} (hg : W.grownBy W' row) (h0 : n₀ ≤ W.heap.size) (hr : ∀ g, row = some g → n₀ ≤ g ∧ (g < n₁ ∨ ∀ cs k, W.heap[g]? ≠ some (.cells cs t k))) : KeptA n₀ n₁ t W W' :=
  ⟨(Below.refl n₀ W).grown hg h0 fun g e => (hr g e).1, fun b cs k hb ho => by
    have hne : some b ≠ row := fun e => by
      rcases (hr b e.symm).2 with h | h
      · omega
      · exact h cs k ho
    exact (hg.block b (Array.getElem?_eq_some_iff.1 ho).1 hne).trans ho⟩

/-- Only blocks from n₀ on and below B are written. -/
def Within (n₀ B : Nat) (W W' : World) : Prop := Below n₀ W W' ∧ ∀ b, B ≤ b → b < W.heap.size → W'.heap[b]? = W.heap[b]?
theorem Within.refl (n₀ B : Nat) (W : World) : Within n₀ B W W := ⟨Below.refl _ _, fun _ _ _ => rfl⟩
theorem Within.trans {n₀ B : Nat} {X Y Z : World} (h : Within n₀ B X Y) (k : Within n₀ B Y Z) : Within n₀ B X Z :=
  ⟨h.1.trans k.1, fun b hb hs => (k.2 b hb (Nat.lt_of_lt_of_le hs h.1.size)).trans (h.2 b hb hs)⟩
theorem Within.grown {n₀ B : Nat} {W W' : World} {row : Option Nat} (hg : W.grownBy W' row) (h0 : n₀ ≤ W.heap.size) (hr : ∀ g, row = some g → n₀ ≤ g ∧ g < B) : Within n₀ B W W' :=
  ⟨(Below.refl n₀ W).grown hg h0 fun g e => (hr g e).1, fun b hb hs => hg.block b hs fun e => by have := (hr b e.symm).2; omega⟩
theorem Within.of_below {n₀ B : Nat} {W W' : World} (h0 : n₀ ≤ W.heap.size) (h : Below W.heap.size W W') : Within n₀ B W W' := ⟨h.mono h0, fun b _ hs => h.block b hs⟩
theorem Within.set {n₀ B : Nat} {W W' : World} (h : Within n₀ B W W') {p : Addr} (h0 : n₀ ≤ p.block) (h1 : p.block < B) (u : Value) : Within n₀ B W (W'.setCell p u) :=
  ⟨h.1.setCell h0 u, fun b hb hs => (Below.heap_setCell _ _ _ _ (by omega)).trans (h.2 b hb hs)⟩
theorem Within.from {n₀ B : Nat} {W W' : World} (h : Within n₀ B W W') : KeepsFrom B W W' :=
  ⟨h.1.size, fun k o hb hk _ => (h.2 k hb (Array.getElem?_eq_some_iff.1 hk).1).trans hk⟩
theorem Within.kept {n₀ B : Nat} {t : TypeId} {W W' : World} (h : Within n₀ B W W') : KeptA n₀ B t W W' :=
  ⟨h.1, fun b cs k hb ho => (h.2 b hb (Array.getElem?_eq_some_iff.1 ho).1).trans ho⟩

theorem boxed_below {W W' : World} {b B : Nat} {t : TypeId} {v : Value} (h : Boxed W b t v) (hb : Below B W W') (hB : b < B) : Boxed W' b t v := (hb.block b hB).trans h
theorem ownsRow_below {W W' : World} {A B g e k n cap : Nat} {cs : List Value} (h : W.ownsRow A e k (.slice (some ⟨g, 0, none⟩) n cap) n cs) (hb : Below B W W') (hB : g < B) : W'.ownsRow A e k (.slice (some ⟨g, 0, none⟩) n cap) n cs := by
  refine ⟨h.1, ?_⟩
  rcases h.2 with ⟨h1, _⟩ | ⟨g', cap', cur, h1, h2, h3, h4⟩
  · cases h1
  · injection h1 with e1 _ e3
    injection e1 with e1
    injection e1 with e1 _ _
    subst e1 e3
    exact .inr ⟨g, cap, cur, rfl, h2, (hb.block g hB).trans h3, h4⟩
theorem ownsRow_lt {W : World} {A g e k n cap : Nat} {cs : List Value} (h : W.ownsRow A e k (.slice (some ⟨g, 0, none⟩) n cap) n cs) : A ≤ g ∧ g < W.heap.size := by
  rcases h.2 with ⟨h1, _⟩ | ⟨g', cap', cur, h1, h2, h3, h4⟩
  · cases h1
  · injection h1 with e1 _ _
    injection e1 with e1
    injection e1 with e1 _ _
    subst e1
    exact ⟨h2, (Array.getElem?_eq_some_iff.1 h3).1⟩
theorem boxed_apart {W : World} {b : Nat} {t : TypeId} {v : Value} (h : Boxed W b t v) {p : Addr} (hp : b ≠ p.block) (u : Value) : Boxed (W.setCell p u) b t v := (Below.heap_setCell _ _ _ _ hp).trans h
theorem cell_put {W : World} {D : Nat} {o : Obj} {p : Addr} {v : Value} (o' : Obj) (h : W.cell? p = some v) (hD : W.heap[D]? = some o) (ho : o.isCells = false) : (W.putObj D o').cell? p = some v :=
  cell_kept h (grownBy_putObj' W D o') (fun r e => by cases e; exact ⟨_, hD, ho⟩)
theorem KeptA.set {n₀ n₁ : Nat} {t : TypeId} {W W' : World} (h : KeptA n₀ n₁ t W W') {p : Addr} (h0 : n₀ ≤ p.block) (h1 : p.block < n₁) (u : Value) : KeptA n₀ n₁ t W (W'.setCell p u) :=
  ⟨h.1.setCell h0 u, fun b cs k hb ho => (Below.heap_setCell _ _ _ _ (by omega)).trans (h.2 b cs k hb ho)⟩
theorem kept_append {W w1 : World} {n₀ n₁ : Nat} {t e : TypeId} {size k : Nat} {v : Value} {xs : List Value} {tmp : Obj} (hte : t ≠ e) (hrow : W.ownsRow n₀ e size v k xs) (hn : n₀ ≤ W.heap.size) (hgrow : (W.alloc tmp).grownBy w1 v.ownBlock) : KeptA n₀ n₁ t W w1 := by
  refine (KeptA.grown (World.grownBy_alloc W tmp none) hn (fun g e => by cases e)).t (KeptA.grown hgrow (by simp; omega) fun g eg => ?_)
  rcases (hrow.alloc tmp).2 with ⟨rfl, _⟩ | ⟨g', cap, cur, rfl, h1, h2, _⟩
  · simp [Value.ownBlock] at eg
  · obtain rfl : g' = g := by simpa [Value.ownBlock] using eg
    refine ⟨h1, .inr fun cs k hh => ?_⟩
    rw [h2] at hh
    injection hh with hh
    injection hh with _ hh _
    exact hte hh.symm
theorem boxed_append {W w1 : World} {n₀ B : Nat} {t e : TypeId} {size k : Nat} {v u : Value} {xs : List Value} {tmp : Obj} (h : Boxed W B t u) (hte : t ≠ e) (hrow : W.ownsRow n₀ e size v k xs) (hgrow : (W.alloc tmp).grownBy w1 v.ownBlock) : Boxed w1 B t u :=
  (h.alloc tmp).kept hgrow (h.not_row hte hrow)
theorem boxed_two {W : World} {p q : Nat} {tp tq : TypeId} {a b : Value} (h1 : Boxed W p tp a) (h2 : Boxed W q tq b) (hne : p ≠ q) (u v : Value) :
    Boxed ((W.setCell ⟨p, 0, none⟩ u).setCell ⟨q, 0, none⟩ v) p tp u ∧ Boxed ((W.setCell ⟨p, 0, none⟩ u).setCell ⟨q, 0, none⟩ v) q tq v :=
  ⟨boxed_apart (h1.set u) hne v, (boxed_apart h2 (p := ⟨p, 0, none⟩) (Ne.symm hne) u).set v⟩
theorem others_two {W : World} {D : Nat} {o : Obj} (hK : W.heap[D]? = some o) (ho : o.isCells = false) (p q : Addr) (u v : Value) : ((W.setCell p u).setCell q v).heap[D]? = some o :=
  (KeepsOthers.setCell _ q v).same D _ ((KeepsOthers.setCell W p u).same D _ hK ho) ho
/-- make([]T, n), in a fence: a row of the call's own, full of zeros. -/
theorem wpListIn_made {F : Fence} {n : Nat} {P : Program} (w : World) {ops : Array Oper} {rest : List Oper} {o : Oper} {a : Act} {Q : Exit → Act → World → Prop}
    (hg : o.guard = none) (l c : Operand) (t : TypeId) (hop : o.op = Op.makeSlice t l c)
    (base : Nat) (e : TypeId) (i : TypeInfo) (z : Value) (size : Nat) (h1 : P.underlying t = some (.slice e)) (h2 : P.info? e = some i) (h3 : i.zero = some z) (h4 : i.size = size)
    (kl kc : IntKind) (L C : Int) (m : Nat) (hl : a.eval l = .int kl L) (hc : a.eval c = .int kc C) (hL : L = (m : Int)) (hC : C = (m : Int)) (b2 : i.bytes * m ≤ 281474976710656) (b3 : m ≤ maxLen) (b4 : base ≤ w.heap.size)
    (hK : ∀ w', w'.ownsRow base e size (.slice (some ⟨w.heap.size, 0, none⟩) m m) m (madeCells z.cells (m * size)).toList → w.grownBy w' none → wpListIn F n P ops Q rest (a.put o.dst (.slice (some ⟨w.heap.size, 0, none⟩) m m)) w') :
    wpListIn F n P ops Q (o :: rest) a w := by
  obtain ⟨w', hrun, r1, r2⟩ := run_make_full (P := P) w base t e i z size h1 h2 h3 h4 kl kc m b2 b3 b4
  rw [← hL] at hrun
  refine wpListIn_plain hg fun K hK' => ⟨?_, ?_⟩
  · simp [Oper.about, hop]
  · rw [Oper.semAt_plain F _ _ (fun c h => by rw [hop] at h; cases h)]
    simp [execOp, hop, hl, hc, hC, ← hL, hrun, Result.andThen]
    exact hK' _ _ (hK w' r1 r2)

/-- What holds of blocks below B alone abides the loop's own blocks. -/
theorem ownFrom_of_below {β : Type} {B : Nat} {I : β → World → Prop} (hs : ∀ s W, I s W → B ≤ W.heap.size) (h : ∀ s W W', I s W → Below B W W' → I s W') : OwnFrom B I :=
  fun s W W' _ hi hg hr => h s W W' hi ((Below.refl B W).grown hg (hs s W hi) fun k e => (hr k e).1)

theorem two_ways {e : Ending} {A B : Prop} (h : (e = .returned (.bool true) ∧ A) ∨ (e = .returned (.bool false) ∧ B)) : ∃ q : Bool, e = .returned (.bool q) ∧ Hid ((q = true ∧ A) ∨ (q = false ∧ B)) := by
  rcases h with ⟨h, a⟩ | ⟨h, b⟩
  · exact ⟨true, h, Lib.hid (.inl ⟨rfl, a⟩)⟩
  · exact ⟨false, h, Lib.hid (.inr ⟨rfl, b⟩)⟩
theorem below_drew1 (w : World) : Below w.heap.size w w.drew := below_drawn w 1
end Go.Proofs.Ytnkbnkiaokkjhaa
