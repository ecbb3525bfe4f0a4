/- Contracts: the pairs of a list, one behind the other, for whatever loop takes them. -/
import Derived.RangeFuncBox
import Derived.RangeFuncLeaves
import Derived.RangeFuncCalls
import Derived.RangeFuncBound
import Derived.Shelf.Abstract
import Derived.Shelf.RegionOpen
import Derived.Stop.RegionWithIn
import Derived.WalkKit
import Derived.OwnWalkIn
import Derived.TacticsInMore
import Derived.LoopNIn
import Derived.LoopIn
import Derived.Test.YtpnndajfaghaaaaInRows
import Derived.Test.YtpnndajfaghaaaaPairPure
namespace Go.Proofs.Ytpnndajfaghaaaa
open Go.RowKit Go.Lst Go.Shelf

attribute [local go_sem] Oper.semAt_some

/-- A pair of a list. -/
abbrev PairIn (xs : List Int) := { p : Int × Int // p ∈ pairsL xs }
abbrev pairV (xs : List Int) (x : PairIn xs) : Array Value := #[.int .i64 x.1.1, .int .i64 x.1.2]

theorem grown_of_below {w w' : World} (h : Below w.heap.size w w') : w.grownBy w' none := ⟨h.os, h.tape, h.output, h.size, fun k hk _ => h.block k hk⟩

theorem pairsTo_prefix {xs : List Int} {k n : Nat} (h : k ≤ n) : pairsTo xs k <+: pairsTo xs n := by
  obtain ⟨d, rfl⟩ : ∃ d, n = k + d := ⟨n - k, by omega⟩
  clear h
  induction d with
  | zero => exact List.prefix_refl _
  | succ d ih =>
    refine ih.trans ?_
    rw [← Nat.add_assoc, pairsTo_succ]
    exact List.prefix_append _ _
/-- What a round keeps: all below n₀, and from n₁ on each block of cells of the type t. -/
def KeptA (n₀ n₁ : Nat) (t : TypeId) (W W' : World) : Prop := Below n₀ W W' ∧ ∀ (b : Nat) (cs : Array Value) (k : Nat × Nat), n₁ ≤ b → W.heap[b]? = some (.cells cs t k) → W'.heap[b]? = some (.cells cs t k)
theorem KeptA.t {n₀ n₁ : Nat} {t : TypeId} {A B C : World} (h : KeptA n₀ n₁ t A B) (k : KeptA n₀ n₁ t B C) : KeptA n₀ n₁ t A C :=
  ⟨h.1.trans k.1, fun b cs q hb ho => k.2 b cs q hb (h.2 b cs q hb ho)⟩
theorem KeptA.b {n₀ n₁ : Nat} {t : TypeId} {w : World} (hn : n₀ ≤ w.heap.size) (W : World) (l : Nat) (o o' : Obj) (hl : w.heap.size ≤ l) (h : W.heap[l]? = some o) (hc : o.isCells = false) (hw : o.isWalk = false) : KeptA n₀ n₁ t W (W.putObj l o') :=
  ⟨belowK_b hn W l o o' hl h hc hw, fun b cs k _ hb => by
    have hne : some b ≠ some l := fun e => by
      cases e
      rw [h] at hb; cases hb; cases hc
    exact ((grownBy_putObj' W l o').block b (Array.getElem?_eq_some_iff.1 hb).1 hne).trans hb⟩
theorem KeptA.grown {n₀ n₁ : Nat} {t : TypeId} {W W' : World} {row : Option Nat} (hg : W.grownBy W' row) (h0 : n₀ ≤ W.heap.size) (hr : ∀ g, row = some g → n₀ ≤ g ∧ (g < n₁ ∨ ∀ cs k, W.heap[g]? ≠ some (.cells cs t k))) : KeptA n₀ n₁ t W W' :=
  ⟨(Below.refl n₀ W).grown hg h0 fun g e => (hr g e).1, fun b cs k hb ho => by
    have hne : some b ≠ row := fun e => by
      rcases (hr b e.symm).2 with h | h
      · omega
      · exact h cs k ho
    exact (hg.block b (Array.getElem?_eq_some_iff.1 ho).1 hne).trans ho⟩

/-- Only blocks from n₀ on and below B are written. -/
def Within (n₀ B : Nat) (W W' : World) : Prop := Below n₀ W W' ∧ ∀ b, B ≤ b → b < W.heap.size → W'.heap[b]? = W.heap[b]?
theorem Within.refl (n₀ B : Nat) (W : World) : Within n₀ B W W := ⟨Below.refl _ _, fun _ _ _ => rfl⟩
theorem Within.trans {n₀ B : Nat} {X Y Z : World} (h : Within n₀ B X Y) (k : Within n₀ B Y Z) : Within n₀ B X Z :=
  ⟨h.1.trans k.1, fun b hb hs => (k.2 b hb (Nat.lt_of_lt_of_le hs h.1.size)).trans (h.2 b hb hs)⟩
theorem Within.grown {n₀ B : Nat} {W W' : World} {row : Option Nat} (hg : W.grownBy W' row) (h0 : n₀ ≤ W.heap.size) (hr : ∀ g, row = some g → n₀ ≤ g ∧ g < B) : Within n₀ B W W' :=
  ⟨(Below.refl n₀ W).grown hg h0 fun g e => (hr g e).1, fun b hb hs => hg.block b hs fun e => by have := (hr b e.symm).2; omega⟩
theorem Within.of_below {n₀ B : Nat} {W W' : World} (h0 : n₀ ≤ W.heap.size) (h : Below W.heap.size W W') : Within n₀ B W W' := ⟨h.mono h0, fun b _ hs => h.block b hs⟩
theorem Within.set {n₀ B : Nat} {W W' : World} (h : Within n₀ B W W') {p : Addr} (h0 : n₀ ≤ p.block) (h1 : p.block < B) (u : Value) : Within n₀ B W (W'.setCell p u) :=
  ⟨h.1.setCell h0 u, fun b hb hs => (Below.heap_setCell _ _ _ _ (by omega)).trans (h.2 b hb hs)⟩
theorem Within.from {n₀ B : Nat} {W W' : World} (h : Within n₀ B W W') : KeepsFrom B W W' :=
  ⟨h.1.size, fun k o hb hk _ => (h.2 k hb (Array.getElem?_eq_some_iff.1 hk).1).trans hk⟩
theorem Within.kept {n₀ B : Nat} {t : TypeId} {W W' : World} (h : Within n₀ B W W') : KeptA n₀ B t W W' :=
  ⟨h.1, fun b cs k hb ho => (h.2 b hb (Array.getElem?_eq_some_iff.1 ho).1).trans ho⟩

theorem boxed_below {W W' : World} {b B : Nat} {t : TypeId} {v : Value} (h : Boxed W b t v) (hb : Below B W W') (hB : b < B) : Boxed W' b t v := (hb.block b hB).trans h
theorem ownsRow_below {W W' : World} {A B g e k n cap : Nat} {cs : List Value} (h : W.ownsRow A e k (.slice (some ⟨g, 0, none⟩) n cap) n cs) (hb : Below B W W') (hB : g < B) : W'.ownsRow A e k (.slice (some ⟨g, 0, none⟩) n cap) n cs := by
  refine ⟨h.1, ?_⟩
  rcases h.2 with ⟨h1, _⟩ | ⟨g', cap', cur, h1, h2, h3, h4⟩
  · cases h1
  · injection h1 with e1 _ e3
    injection e1 with e1
    injection e1 with e1 _ _
    subst e1 e3
    exact .inr ⟨g, cap, cur, rfl, h2, (hb.block g hB).trans h3, h4⟩
theorem ownsRow_lt {W : World} {A g e k n cap : Nat} {cs : List Value} (h : W.ownsRow A e k (.slice (some ⟨g, 0, none⟩) n cap) n cs) : A ≤ g ∧ g < W.heap.size := by
  rcases h.2 with ⟨h1, _⟩ | ⟨g', cap', cur, h1, h2, h3, h4⟩
  · cases h1
  · injection h1 with e1 _ _
    injection e1 with e1
    injection e1 with e1 _ _
    subst e1
    exact ⟨h2, (Array.getElem?_eq_some_iff.1 h3).1⟩
theorem boxed_apart {W : World} {b : Nat} {t : TypeId} {v : Value} (h : Boxed W b t v) {p : Addr} (hp : b ≠ p.block) (u : Value) : Boxed (W.setCell p u) b t v := (Below.heap_setCell _ _ _ _ hp).trans h
theorem cell_put {W : World} {D : Nat} {o : Obj} {p : Addr} {v : Value} (o' : Obj) (h : W.cell? p = some v) (hD : W.heap[D]? = some o) (ho : o.isCells = false) : (W.putObj D o').cell? p = some v :=
  cell_kept h (grownBy_putObj' W D o') (fun r e => by cases e; exact ⟨_, hD, ho⟩)
theorem KeptA.set {n₀ n₁ : Nat} {t : TypeId} {W W' : World} (h : KeptA n₀ n₁ t W W') {p : Addr} (h0 : n₀ ≤ p.block) (h1 : p.block < n₁) (u : Value) : KeptA n₀ n₁ t W (W'.setCell p u) :=
  ⟨h.1.setCell h0 u, fun b cs k hb ho => (Below.heap_setCell _ _ _ _ (by omega)).trans (h.2 b cs k hb ho)⟩
theorem kept_append {W w1 : World} {n₀ n₁ : Nat} {t e : TypeId} {size k : Nat} {v : Value} {xs : List Value} {tmp : Obj} (hte : t ≠ e) (hrow : W.ownsRow n₀ e size v k xs) (hn : n₀ ≤ W.heap.size) (hgrow : (W.alloc tmp).grownBy w1 v.ownBlock) : KeptA n₀ n₁ t W w1 := by
  refine (KeptA.grown (World.grownBy_alloc W tmp none) hn (fun g e => by cases e)).t (KeptA.grown hgrow (by simp; omega) fun g eg => ?_)
  rcases (hrow.alloc tmp).2 with ⟨rfl, _⟩ | ⟨g', cap, cur, rfl, h1, h2, _⟩
  · simp [Value.ownBlock] at eg
  · obtain rfl : g' = g := by simpa [Value.ownBlock] using eg
    refine ⟨h1, .inr fun cs k hh => ?_⟩
    rw [h2] at hh
    injection hh with hh
    injection hh with _ hh _
    exact hte hh.symm
theorem boxed_append {W w1 : World} {n₀ B : Nat} {t e : TypeId} {size k : Nat} {v u : Value} {xs : List Value} {tmp : Obj} (h : Boxed W B t u) (hte : t ≠ e) (hrow : W.ownsRow n₀ e size v k xs) (hgrow : (W.alloc tmp).grownBy w1 v.ownBlock) : Boxed w1 B t u :=
  (h.alloc tmp).kept hgrow (h.not_row hte hrow)
theorem boxed_two {W : World} {p q : Nat} {tp tq : TypeId} {a b : Value} (h1 : Boxed W p tp a) (h2 : Boxed W q tq b) (hne : p ≠ q) (u v : Value) :
    Boxed ((W.setCell ⟨p, 0, none⟩ u).setCell ⟨q, 0, none⟩ v) p tp u ∧ Boxed ((W.setCell ⟨p, 0, none⟩ u).setCell ⟨q, 0, none⟩ v) q tq v :=
  ⟨boxed_apart (h1.set u) hne v, (boxed_apart h2 (p := ⟨p, 0, none⟩) (Ne.symm hne) u).set v⟩
theorem others_two {W : World} {D : Nat} {o : Obj} (hK : W.heap[D]? = some o) (ho : o.isCells = false) (p q : Addr) (u v : Value) : ((W.setCell p u).setCell q v).heap[D]? = some o :=
  (KeepsOthers.setCell _ q v).same D _ ((KeepsOthers.setCell W p u).same D _ hK ho) ho
/-- make([]T, n), in a fence: a row of the call's own, full of zeros. -/
theorem wpListIn_made {F : Fence} {n : Nat} {P : Program} (w : World) {ops : Array Oper} {rest : List Oper} {o : Oper} {a : Act} {Q : Exit → Act → World → Prop}
    (hg : o.guard = none) (l c : Operand) (t : TypeId) (hop : o.op = Op.makeSlice t l c)
    (base : Nat) (e : TypeId) (i : TypeInfo) (z : Value) (size : Nat) (h1 : P.underlying t = some (.slice e)) (h2 : P.info? e = some i) (h3 : i.zero = some z) (h4 : i.size = size)
    (kl kc : IntKind) (L C : Int) (m : Nat) (hl : a.eval l = .int kl L) (hc : a.eval c = .int kc C) (hL : L = (m : Int)) (hC : C = (m : Int)) (b2 : i.bytes * m ≤ 281474976710656) (b3 : m ≤ maxLen) (b4 : base ≤ w.heap.size)
    (hK : ∀ w', w'.ownsRow base e size (.slice (some ⟨w.heap.size, 0, none⟩) m m) m (madeCells z.cells (m * size)).toList → w.grownBy w' none → wpListIn F n P ops Q rest (a.put o.dst (.slice (some ⟨w.heap.size, 0, none⟩) m m)) w') :
    wpListIn F n P ops Q (o :: rest) a w := by
  obtain ⟨w', hrun, r1, r2⟩ := run_make_full (P := P) w base t e i z size h1 h2 h3 h4 kl kc m b2 b3 b4
  rw [← hL] at hrun
  refine wpListIn_plain hg fun K hK' => ⟨?_, ?_⟩
  · simp [Oper.about, hop]
  · rw [Oper.semAt_plain F _ _ (fun c h => by rw [hop] at h; cases h)]
    simp [execOp, hop, hl, hc, hC, ← hL, hrun, Result.andThen]
    exact hK' _ _ (hK w' r1 r2)

/-- What holds of blocks below B alone abides the loop's own blocks. -/
theorem ownFrom_of_below {β : Type} {B : Nat} {I : β → World → Prop} (hs : ∀ s W, I s W → B ≤ W.heap.size) (h : ∀ s W W', I s W → Below B W W' → I s W') : OwnFrom B I :=
  fun s W W' _ hi hg hr => h s W W' hi ((Below.refl B W).grown hg (hs s W hi) fun k e => (hr k e).1)

theorem two_ways {e : Ending} {A B : Prop} (h : (e = .returned (.bool true) ∧ A) ∨ (e = .returned (.bool false) ∧ B)) : ∃ q : Bool, e = .returned (.bool q) ∧ Hid ((q = true ∧ A) ∨ (q = false ∧ B)) := by
  rcases h with ⟨h, a⟩ | ⟨h, b⟩
  · exact ⟨true, h, Lib.hid (.inl ⟨rfl, a⟩)⟩
  · exact ⟨false, h, Lib.hid (.inr ⟨rfl, b⟩)⟩
theorem below_drew1 (w : World) : Below w.heap.size w w.drew := below_drawn w 1
set_option maxHeartbeats 1000000 in
theorem pairsOf_any (p : Option Addr) (n cap : Nat) (w : World) :
    Calls Try.prog 140 #[.slice p n cap] w fun e w' => e = .returned (.func (.func 191) #[] #[.pointer (some ⟨w.heap.size, 0, none⟩)]) ∧ w' = w.alloc (.cells #[.slice p n cap] 22) := by
  go_enter Try.func140, Try.ntmps140
  go_wp2_with fail
  go_ret
  exact ⟨rfl, rfl⟩

set_option maxRecDepth 100000 in
set_option maxHeartbeats 4000000 in
theorem pairs1_in (l Bn n₀ n₁ m n b o cap : Nat) (xs : List Int) (hm : xs.length = m * 2) (hm1 : 1 ≤ m) (hm2 : m ≤ 1000) (hn : 2 ≤ n) (J Jx : List (PairIn xs) → World → Prop)
    (W : World) (hJ : AbidesFrom W.heap.size J)
    (hY : ∀ pre x W1, J pre W1 → pre.length < m → YieldAt Fence.wide (n - 1) Try.prog l (pairV xs x) W1 fun e W' =>
      (e = .returned (.bool true) ∧ J (pre ++ [x]) W' ∧ KeptA n₀ n₁ 22 W1 W') ∨ (e = .returned (.bool false) ∧ Jx (pre ++ [x]) W'))
    (hBn : W.cell? ⟨Bn, 0, none⟩ = some (.slice (some ⟨b, o, none⟩) (m * 2) cap)) (hL : LstI n₀ W (.slice (some ⟨b, o, none⟩) (m * 2) cap) xs) (hn₁ : n₁ ≤ W.heap.size) (hn₀ : n₀ ≤ n₁) (h0 : J [] W)
    (hRo : Hid (∀ w', CallsIn Fence.wide (n - 1) Try.prog 164 #[.slice (some ⟨b, o, none⟩) (m * 2) cap, .int .i64 2] w' fun e w'' => ∃ v', e = .returned v' ∧ Lst.Own w'.heap.size w''.heap.size w'' v' 22 1 m (rowsL b o 2 m) ∧ Below w'.heap.size w' w'')) :
    CallsIn Fence.wide n Try.prog 191 #[.func (.yield l) #[] #[], .pointer (some ⟨Bn, 0, none⟩)] W fun e W' => (∃ v, e = .returned v) ∧
      ((∃ ys : List (PairIn xs), ys.map (·.1) = pairsL xs ∧ J ys W') ∨ (∃ pre : List (PairIn xs), pre.map (·.1) <+: pairsL xs ∧ Jx pre W')) := by
  obtain ⟨a', cap', hv, hl1, hl2, hl3, hc⟩ := hL.at_
  injection hv with q1 q2 q3
  clear q2
  subst q1 q3
  have h1 : 1 ≤ n := by omega
  have hAt : Hid (∀ k, k < m → ∃ x : PairIn xs, x.1 = pairAt xs k) := Lib.hid fun k hk => ⟨⟨pairAt xs k, by unfold pairsL pairsTo; exact List.mem_map.2 ⟨k, List.mem_range.2 (by omega), rfl⟩⟩, rfl⟩
  have hCe : Hid (∀ k, k < m * 2 → b < n₀ ∧ W.cell? ⟨b, o + k, none⟩ = some (.int .i64 (xs.getD k 0))) := Lib.hid fun k hk => by
    obtain ⟨b', o', x, he, hb, hx, hcell⟩ := hc k (by omega)
    injection he with he
    injection he with e1 e2 _
    subst e1 e2
    rw [getD_of hx]
    exact ⟨hb, hcell⟩
  clear hc hL hl1 hl2 hl3
  have hM := Lib.hid hm
  clear hm
  have hYy := Lib.hid hY
  clear hY
  have hJj := Lib.hid hJ
  clear hJ
  refine callsIn_of_wp Try.func191 rfl trivial ?_ rfl
  simp only [Try.ntmps191, List.size_toArray, List.length_cons, List.length_nil, Nat.reduceAdd, Nat.reduceSub, Array.replicate_succ, Array.replicate_zero, List.push_toArray, List.append_toArray, List.nil_append, List.cons_append]
  gi_wp2_with (refine ⟨trivial, ?_⟩; gi_at_call 164; refine (hRo.out _).mono ?_; rintro e w2 ⟨v2, rfl, hO2, hb2⟩)
  have hWB := Lib.hid hb2
  have hJ2 := hJj.out [] _ _ none h0 (grown_of_below hb2) (fun r e => by cases e)
  obtain ⟨g, capg, cur, rfl, hg1, hgb, hcur⟩ : ∃ (g capg : Nat) (cur : Array Value), v2 = .slice (some ⟨g, 0, none⟩) m capg ∧ n₁ ≤ g ∧ w2.heap[g]? = some (.cells cur 22 (0, 0)) ∧ ∀ k, k < m → cur[k]? = some (rowV b o 2 k) := by
    rcases hO2.1.2 with ⟨rfl, h9⟩ | ⟨g, capg, cur, rfl, hg1, hgb, hg2⟩
    · omega
    · exact ⟨g, capg, cur, rfl, by omega, hgb, fun k hk => by
        have e1 := rowsL_get b o 2 m k hk
        rw [← hg2.2.2.2, List.getElem?_take, if_pos (by omega), Array.getElem?_toList] at e1
        exact e1⟩
  clear hO2 hb2 h0
  have hGb := Lib.hid hgb
  have hCu := Lib.hid hcur
  have hJ3 := Lib.hid hJ2
  clear hgb hcur hJ2
  gi_wp2
  have hh2 : (Builtin.len_ #[103] 3 #[Value.slice (some ⟨g, 0, none⟩) m capg]).run Try.prog w2 = .ok (.int .i64 m) w2 := by simp [go_sem]
  simp only [hh2, Result.andThen]
  gi_wp2
  gi_loopw [8] (fun i wr => ∃ (k : Nat) (pre : List (PairIn xs)), k ≤ m ∧ i = .int .i64 k ∧ pre.map (·.1) = pairsTo xs k ∧ J pre wr ∧ Hid (wr.heap[g]? = some (.cells cur 22 (0, 0))) ∧ Hid (Below n₀ W wr)) (fun i _ => m - (intOf i).toNat)
  case atStart => exact ⟨0, [], Nat.zero_le _, rfl, rfl, hJ3.out, hGb, Lib.hid (hWB.out.mono (by omega))⟩
  case round =>
    obtain ⟨k, pre, hk, rfl, hpre, hJs, hG, hB⟩ := hrel
    by_cases hlt : k < m
    · obtain ⟨x, hx⟩ := hAt.out k hlt
      obtain ⟨hbn, c0⟩ := hCe.out (2 * k) (by omega)
      have c1 := (hCe.out (2 * k + 1) (by omega)).2
      rw [← hB.out.cell (p := ⟨b, o + 2 * k, none⟩) hbn] at c0
      rw [← hB.out.cell (p := ⟨b, o + (2 * k + 1), none⟩) hbn] at c1
      rw [show xs.getD (2 * k) 0 = x.1.1 by rw [hx]; rfl, show o + 2 * k = o + k * 2 by omega] at c0
      rw [show xs.getD (2 * k + 1) 0 = x.1.2 by rw [hx]; rfl, show o + (2 * k + 1) = o + k * 2 + 1 by omega] at c1
      have hXx := Lib.hid hx
      have hPre := Lib.hid hpre
      have hJk := Lib.hid hJs
      obtain ⟨fn, tmps, assign, body, hy, hR⟩ := hYy.out pre x wr.drew (hJj.out pre _ _ none hJs (grown_of_below (below_drew1 wr)) (fun r e => by cases e)) (by rw [← List.length_map (f := (·.1)), hpre, pairsTo_length]; exact hlt)
      have cr : wr.cell? ⟨g, k, none⟩ = some (rowV b o 2 k) := (cell_of_row wr g k cur _ (0, 0) hG.out).trans (hCu.out k hlt)
      unfold rowV at cr
      clear hx hpre hJs
      dsimp only [pairV] at hy
      have hmix : Try.prog.follows .mixedOrders = true := by kernel_rfl
      gi_wp2
      gi_region_with (with_reducible refine hR.mono ?_; rintro e W3 hE; obtain ⟨q, rfl, hE2⟩ := two_ways hE; clear hE)
      all_goals
        rcases hE2.out with ⟨rfl, hJ4, hk4⟩ | ⟨rfl, hJx4⟩
        · have hJ5 := Lib.hid hJ4
          have hK5 := Lib.hid hk4
          clear hE2 hJ4 hk4 hR hy cr c0 c1
          gi_wp2
          go_roundw
          case rel => exact ⟨k + 1, pre ++ [x], by omega, by go_num, by rw [List.map_append, hPre.out, pairsTo_succ]; simp [hXx.out], hJ5.out, Lib.hid (hK5.out.2 g _ _ hg1 hG.out), Lib.hid (hB.out.trans (((below_drew1 wr).mono (by have := hB.out.size; omega)).trans hK5.out.1))⟩
          case measure => simp [intOf]; omega
        · have hJ5 := Lib.hid hJx4
          clear hE2 hJx4 hR hy cr c0 c1
          gi_wp2
          refine bodyPost_ret (results_none rfl _ _ _) rfl ?_
          exact ⟨⟨_, rfl⟩, .inr ⟨pre ++ [x], by
            rw [List.map_append, hPre.out, List.map_cons, List.map_nil, hXx.out, ← pairsTo_succ]
            exact pairsTo_prefix (by have := hM.out; omega), hJ5.out⟩⟩
    · have hkm : k = m := by omega
      have hPre := Lib.hid hpre
      have hJk := Lib.hid hJs
      clear hpre hJs
      gi_wp2
      go_end0
      exact ⟨⟨_, rfl⟩, .inl ⟨pre, by rw [hPre.out, hkm]; unfold pairsL; rw [hM.out, Nat.mul_div_cancel _ (by omega)], hJk.out⟩⟩

set_option maxHeartbeats 1000000 in
theorem rowsOf0_any (a : Option Addr) (cap : Nat) (w : World) :
    Calls Try.prog 164 #[.slice a 0 cap, .int .i64 2] w fun e w' => e = .returned (.slice none 0 0) ∧ w' = w := by
  go_enter Try.func164, Try.ntmps164
  go_wp2_with fail
  go_loopw [5, 6] (fun v f wr => v = .slice none 0 0 ∧ f = .int .i64 0 ∧ wr = w) (fun _ _ _ => 0)
  case atStart => exact ⟨rfl, rfl, rfl⟩
  case round =>
    obtain ⟨rfl, rfl, rfl⟩ := hrel
    go_wp2_with fail
    go_ret
    exact ⟨rfl, rfl⟩

set_option maxRecDepth 100000 in
set_option maxHeartbeats 2000000 in
theorem pairs0_in (l Bn n cap : Nat) (h1 : 1 ≤ n) (a : Option Addr) (α : Type) (J : List α → World → Prop) (W : World) (hBn : W.cell? ⟨Bn, 0, none⟩ = some (.slice a 0 cap)) (h0 : J [] W) :
    CallsIn Fence.wide n Try.prog 191 #[.func (.yield l) #[] #[], .pointer (some ⟨Bn, 0, none⟩)] W fun e W' => (∃ v, e = .returned v) ∧ J [] W' := by
  have hJj := Lib.hid h0
  clear h0
  have hRo := Lib.hid (fun w' => rowsOf0_any a cap w')
  refine callsIn_of_wp Try.func191 rfl trivial ?_ rfl
  simp only [Try.ntmps191, List.size_toArray, List.length_cons, List.length_nil, Nat.reduceAdd, Nat.reduceSub, Array.replicate_succ, Array.replicate_zero, List.push_toArray, List.append_toArray, List.nil_append, List.cons_append]
  gi_wp2_with (refine ⟨trivial, ?_⟩; gi_at_call 164; refine (callsIn_wide.2 (hRo.out _)).mono ?_; rintro e w2 ⟨rfl, e2⟩; subst e2)
  gi_loopw [8] (fun i wr => i = .int .i64 0 ∧ Hid (J [] wr)) (fun _ _ => 0)
  case atStart => exact ⟨rfl, hJj⟩
  case round =>
    obtain ⟨rfl, hJs⟩ := hrel
    gi_wp2
    go_end0
    exact ⟨⟨_, rfl⟩, hJs.out⟩

/-- The pairs of a list, for every loop body that keeps what lay below n₀, and the table of rows. -/
theorem pairs_stops (n Bn n₀ : Nat) (hn : 2 ≤ n) (v : Value) (xs : List Int) (w : World) (hBn : Bn < w.heap.size) (hn₀ : n₀ ≤ w.heap.size) (hc : w.cell? ⟨Bn, 0, none⟩ = some v) (hL : LstI n₀ w v xs)
    (he : xs.length % 2 = 0) (hm : xs.length ≤ 2000) :
    SeqStopsK Fence.wide n Try.prog 191 #[.pointer (some ⟨Bn, 0, none⟩)] (pairV xs) (KeptA n₀ w.heap.size 22) (fun ys => ys.map (·.1) = pairsL xs) (fun pre => pre.map (·.1) <+: pairsL xs) (xs.length / 2) w := fun l J Jx W hW hJ _ hY h0 => by
  have hcW : W.cell? ⟨Bn, 0, none⟩ = some v := (hW.cell (p := ⟨Bn, 0, none⟩) hBn).trans hc
  have hLW : LstI n₀ W v xs := hL.below hW hn₀
  obtain ⟨a, cap, rfl, hl1, hl2, hl3, hcc⟩ := hLW.at_
  by_cases h9 : xs.length = 0
  · have hnil : xs = [] := List.eq_nil_of_length_eq_zero h9
    subst hnil
    refine (pairs0_in l Bn n cap (by omega) a _ J W hcW h0).mono ?_
    rintro e W' ⟨he, hj⟩
    exact ⟨he, .inl ⟨[], rfl, hj⟩⟩
  · obtain ⟨m, hm2⟩ : ∃ m, xs.length = m * 2 := ⟨xs.length / 2, by omega⟩
    obtain ⟨b, o, rfl, hb⟩ := lstI_block hLW (by omega)
    rw [show xs.length / 2 = m by omega] at hY
    have hc2 := hcW
    have hL2 := hLW
    rw [hm2] at hc2 hL2
    exact pairs1_in l Bn n₀ w.heap.size m n b o cap xs hm2 (by omega) (by omega) hn J Jx W hJ hY hc2 hL2 hW.size hn₀ h0
      (Lib.hid fun w' => callsIn_wide.2 (rowsOf_any b o 2 m cap w' (by omega) (by omega) (by omega) (by omega) hl3))
end Go.Proofs.Ytpnndajfaghaaaa
