/- A law: a range over a function whose values are only lent. The iterator says at each value what memory tells of it then (Lt); the body may lean on that. No condition. -/
import Derived.Test.YtnkbnkiaokkjhaaPairs
namespace Go.Proofs.Ytnkbnkiaokkjhaa
open Go.RowKit Go.Lst Go.Shelf

/-- What is said abides new blocks, and turns of the c blocks from B on, or of an iterator over a map. -/
def LentFrom {β : Type} (B c : Nat) (J : β → World → Prop) : Prop :=
  ∀ s X Y row, J s X → X.grownBy Y row → (∀ r, row = some r → B ≤ r ∧ (r < B + c ∨ ∃ o : Obj, X.heap[r]? = some o ∧ o.isWalk = true)) → J s Y
/-- The same of a caller's word, whose loop keeps two blocks of its own from B on. -/
def OwnLent {β : Type} (B c : Nat) (I : β → World → Prop) : Prop :=
  ∀ s X Y row, I s X → X.grownBy Y row → (∀ r, row = some r → (B + 2 ≤ r ∧ r < B + 2 + c) ∨ (B ≤ r ∧ ∃ o : Obj, X.heap[r]? = some o ∧ o.isCells = false)) → I s Y
theorem OwnLent.from {β : Type} {B c : Nat} {I : β → World → Prop} (h : OwnLent B c I) : OwnFrom B I := fun s X Y row hs hg hr => h s X Y row hs hg fun r e => .inr (hr r e)
theorem OwnLent.and {β : Type} {B c : Nat} {I K : β → World → Prop} (h : OwnLent B c I) (k : OwnLent B c K) : OwnLent B c (fun s W => I s W ∧ K s W) := fun s X Y row hs hg hr => ⟨h s X Y row hs.1 hg hr, k s X Y row hs.2 hg hr⟩
/-- What an iterator of lent values promises: as SeqStopsK, but each yield is made in a world where Lt tells of its value. -/
def SeqStopsL {α : Type} (F : Fence) (n : Nat) (P : Program) (g : Nat) (lb : Array Value) (encs : α → Array Value) (Lt : α → World → Prop) (Kp : World → World → Prop) (S Sp : List α → Prop) (N c : Nat) (w : World) : Prop :=
  ∀ (l : Nat) (J Jx : List α → World → Prop) (W : World), Below w.heap.size w W → LentFrom W.heap.size c J → LentFrom W.heap.size c Jx →
    (∀ pre x W1, J pre W1 → Lt x W1 → W.heap.size + c ≤ W1.heap.size → pre.length < N → YieldAt F (n - 1) P l (encs x) W1 fun e W' =>
      (e = .returned (.bool true) ∧ J (pre ++ [x]) W' ∧ Kp W1 W') ∨ (e = .returned (.bool false) ∧ Jx (pre ++ [x]) W')) →
    J [] W →
    CallsIn F n P g (#[.func (.yield l) #[] #[]] ++ lb) W fun e W' => (∃ v, e = .returned v) ∧ ((∃ xs, S xs ∧ J xs W') ∨ (∃ pre, Sp pre ∧ Jx pre W'))

/-- How a body that may write what lay ahead of the loop leaves a round: the kept objects and what is to hold, in one word for all ways out. -/
theorem wpIn_rangeFunc_lent {F : Fence} {n : Nat} {P : Program} {α : Type} {g : Operand} {ps : Array Tmp} {assign body : Code} {Q : Exit → Act → World → Prop} {a : Act} {w : World}
    (hro : F.round = none) (h1 : 1 ≤ n) {gf : Nat} {lb : Array Value} (hg : a.eval g = .func (.func gf) #[] lb) (hFg : F.fn gf) (eg : ∀ args w, (callFunc gf args).run P w = .ok (.enter gf args) w)
    {encs : α → Array Value} {Lt : α → World → Prop} {Kp : World → World → Prop} {S Sp : List α → Prop} {N c : Nat} {w0 : World} (hseq : SeqStopsL F (n - 1) P gf lb encs Lt Kp S Sp N c w0)
    (hKt : ∀ {A B C : World}, Kp A B → Kp B C → Kp A C) (hKb : ∀ (W : World) (l : Nat) (o o' : Obj), w.heap.size ≤ l → W.heap[l]? = some o → o.isCells = false → o.isWalk = false → Kp W (W.putObj l o'))
    (hLt : ∀ x, OwnFrom w.heap.size (fun (_ : Unit) W => Lt x W)) (hb0 : Below w0.heap.size w0 w) (hps : ∀ x, (encs x).size = ps.size)
    (I : List α → World → Prop) (Ix : Code → List α → World → Prop) (hI : OwnLent w.heap.size c I) (hIx : ∀ z, OwnLent w.heap.size c (Ix z)) (h0 : I [] w) (a₁ : α → Act)
    (hassign : ∀ (l : Nat) (x : α) (W : World) (K : Act → World → Prop), K (a₁ x) W →
      assign.wpIn (F.inRound l) (n - 1 - 1) P (Exit.then K (fun _ _ _ => False)) { tmps := (ps.zip (encs x)).foldl (fun t (p, v) => t.setIfInBounds p v) a.tmps, defers := [] } W)
    (hbody : ∀ (l : Nat) (pre : List α) (x : α) (W : World), I pre W → Lt x W → w.heap.size + 2 + c ≤ W.heap.size → pre.length < N → body.wpIn (F.inRound l) (n - 1 - 1) P (ownPostG w.heap.size Kp I Ix (pre ++ [x]) W) (a₁ x) W)
    (hdone : ∀ (D : Nat) (xs : List α) (W : World), w.heap.size ≤ D → S xs → I xs W → W.heap[D]? = some (.deferred (some [])) → Q .normal { a with defers := { target := .collected D, args := #[] } :: a.defers } W)
    (hstop : ∀ (D : Nat) (c : Code) (pre : List α) (W : World), w.heap.size ≤ D → Sp pre → Ix c pre W → W.heap[D]? = some (.deferred (some [])) → c.wpIn F n P Q { a with defers := { target := .collected D, args := #[] } :: a.defers } W) :
    (Code.rangeFunc g ps assign body).wpIn F n P Q a w := by
  refine wpIn_rangeFunc fun fn hfn => ?_
  rw [hro]
  -- the loop's record L, and the block D of the rounds' deferred calls
  obtain ⟨D, hD⟩ : ∃ D, D = w.heap.size := ⟨_, rfl⟩
  obtain ⟨R, hR⟩ : ∃ R : LoopState → Option Code → Loop, R = fun st pe => { state := st, pending := pe, fn, tmps := a.tmps, params := ps, assign, body, defers := D } := ⟨_, rfl⟩
  obtain ⟨X0, hX0⟩ : ∃ X0, X0 = w.alloc (.deferred (some [])) := ⟨_, rfl⟩
  obtain ⟨X1, hX1⟩ : ∃ X1, X1 = X0.alloc (.loop (R .ready none)) := ⟨_, rfl⟩
  have sz0 : X0.heap.size = D + 1 := by rw [hX0, hD]; simp
  have sz1 : X1.heap.size = D + 2 := by rw [hX1]; simp [sz0]
  have oL : X1.heap[D + 1]? = some (.loop (R .ready none)) := by rw [hX1]; have := World.alloc_heap_new X0 (.loop (R .ready none)); rwa [sz0] at this
  have oD : X1.heap[D]? = some (.deferred (some [])) := by rw [hX1]; exact (Below.heap_alloc _ _ _ (by omega)).trans (by rw [hX0, hD]; exact World.alloc_heap_new w (.deferred (some [])))
  have bX : Below w0.heap.size w0 X1 := by rw [hX1, hX0]; exact hb0.trans ((((Below.refl _ w).alloc (Nat.le_refl _) _).alloc (by simp) _).mono hb0.size)
  have iX : I [] X1 := by rw [hX1, hX0]; exact hI.from.alloc _ (hI.from.alloc _ h0)
  have hw : ∀ {A : World} {row : Option Nat}, (∀ r, row = some r → X1.heap.size ≤ r ∧ (r < X1.heap.size + c ∨ ∃ o : Obj, A.heap[r]? = some o ∧ o.isWalk = true)) → (∀ r, row = some r → (w.heap.size + 2 ≤ r ∧ r < w.heap.size + 2 + c) ∨ (w.heap.size ≤ r ∧ ∃ o : Obj, A.heap[r]? = some o ∧ o.isCells = false)) :=
    fun hr r e => by
      obtain ⟨h, h2⟩ := hr r e
      rcases h2 with h2 | ⟨o, ho, hk⟩
      · exact .inl ⟨by omega, by omega⟩
      · exact .inr ⟨by omega, o, ho, Obj.not_cells_of_walk hk⟩
  have hin : ∀ {k : Nat} {o : Obj} {A B : World} {row : Option Nat}, k < D + 2 → A.heap[k]? = some o → A.grownBy B row → (∀ r, row = some r → X1.heap.size ≤ r ∧ (r < X1.heap.size + c ∨ ∃ o : Obj, A.heap[r]? = some o ∧ o.isWalk = true)) → B.heap[k]? = some o := fun hk ho hg' hr =>
    (hg'.block _ (Array.getElem?_eq_some_iff.1 ho).1 (fun e => by have := (hr _ e.symm).1; omega)).trans ho
  refine ⟨D + 1, [{ target := .collected D, args := #[] }], X1, { target := .fn (.func gf) lb, args := #[.func (.yield (D + 1)) #[] #[]] }, X1, gf, #[.func (.yield (D + 1)) #[] #[]] ++ lb, X1, ?_, ?_, ?_, ?_, fun _ => h1, ?_⟩
  · rw [hX1, hX0, hR, hD]; exact run_enterLoop_outer _ _ _ _ _
  · simp only [resolve, hg]; simp [go_sem]
  · intro f' hf'; simp [Target.leads] at hf'; subst hf'; exact hFg
  · simp [invoke, go_sem, eg]
  refine (hseq (D + 1)
    (fun pre W => I pre W ∧ W.heap[D + 1]? = some (.loop (R .ready none)) ∧ W.heap[D]? = some (.deferred (some [])))
    (fun pre W => ∃ c, Ix c pre W ∧ W.heap[D + 1]? = some (.loop (R .done (some c))) ∧ W.heap[D]? = some (.deferred (some [])))
    X1 bX
    (fun s A B row hs hg' hr => ⟨hI s A B row hs.1 hg' (hw hr), hin (by omega) hs.2.1 hg' hr, hin (by omega) hs.2.2 hg' hr⟩)
    (fun s A B row ⟨z, hc, hl, hk⟩ hg' hr => ⟨z, hIx z s A B row hc hg' (hw hr), hin (by omega) hl hg' hr, hin (by omega) hk hg' hr⟩)
    ?_ ⟨iX, oL, oD⟩).mono ?_
  · rintro pre x W ⟨hi, hl, hk⟩ hx hszc hlen
    have hlt : D + 1 < W.heap.size := (Array.getElem?_eq_some_iff.1 hl).1
    have hy := run_yield (P := P) (args := encs x) hl (by rw [hR]; exact hps x)
    rw [hR] at hy
    refine ⟨fn, _, assign, body, hy, roundIn_of_wpIn hfn (hassign _ x W _ ⟨_, run_beginRound hl (by rw [hR]), ?_⟩)⟩
    obtain ⟨Y, hY⟩ : ∃ Y, Y = W.putObj (D + 1) (.loop { R .ready none with state := .busy }) := ⟨_, rfl⟩
    have yl : Y.heap[D + 1]? = some (.loop { R .ready none with state := .busy }) := by rw [hY]; exact World.putObj_heap_same hlt
    have yk : Y.heap[D]? = some (.deferred (some [])) := by rw [hY]; exact (World.putObj_heap_other (by omega)).trans hk
    have yp : Kp W Y := by rw [hY]; exact hKb _ _ _ _ (by omega) hl rfl rfl
    have yi : I pre Y := by rw [hY]; exact hI.from.putObj _ hi (by omega) hl rfl
    have yx : Lt x Y := by rw [hY]; exact (hLt x).putObj (s := ()) _ hx (by omega) hl rfl
    rw [← hY]
    have ys : Y.heap.size = W.heap.size := by rw [hY]; simp [World.putObj]
    refine wpIn_mono (hbody _ pre x Y yi yx (by omega) hlen) ?_
    have fin : ∀ (jump : Option Code) (Z : World), KeepsFrom w.heap.size Y Z → ∃ Z', Z' = Z.putObj (D + 1) (.loop (R (if jump.isNone then .ready else .done) jump)) ∧
        (Instr.endRound (D + 1) jump).run P Z = .ok (.bool jump.isNone) Z' ∧ Z'.heap[D + 1]? = some (.loop (R (if jump.isNone then .ready else .done) jump)) ∧ Z'.heap[D]? = some (.deferred (some [])) ∧
        (∀ {J : List α → World → Prop} {s : List α}, OwnFrom w.heap.size J → J s Z → J s Z') ∧ Kp Z Z' := fun jump Z hk3 => by
      have zl := hk3.same _ _ (by omega) yl rfl
      have hrun := run_endRound (P := P) jump zl
      refine ⟨_, rfl, by rw [hR] at hrun ⊢; exact hrun, World.putObj_heap_same (Array.getElem?_eq_some_iff.1 zl).1, (World.putObj_heap_other (by omega)).trans (hk3.same _ _ (by omega) yk rfl), fun hJ hs => hJ.putObj _ hs (by omega) zl rfl, hKb _ _ _ _ (by omega) zl rfl rfl⟩
    have out : ∀ (c : Code) (Z : World), KeepsFrom w.heap.size Y Z → Ix c (pre ++ [x]) Z → ∃ Z', (Instr.endRound (D + 1) (some c)).run P Z = .ok (.bool false) Z' ∧ (∃ c, Ix c (pre ++ [x]) Z' ∧ Z'.heap[D + 1]? = some (.loop (R .done (some c))) ∧ Z'.heap[D]? = some (.deferred (some []))) := fun c Z hk3 hi3 => by
      obtain ⟨Z', _, hr, zl, zk, zi, _⟩ := fin (some c) Z hk3
      exact ⟨Z', hr, c, zi (hIx c).from hi3, zl, zk⟩
    rintro e a3 Z hp
    cases e with
    | normal =>
      obtain ⟨hk3, hkp3, hi3⟩ := hp
      obtain ⟨Z', _, hr, zl, zk, zi, zp⟩ := fin none Z hk3
      exact ⟨_, _, hr, .inl ⟨rfl, ⟨zi hI.from hi3, zl, zk⟩, hKt (hKt yp hkp3) zp⟩⟩
    | ret => obtain ⟨Z', hr, h⟩ := out _ Z hp.1 hp.2; exact ⟨_, _, hr, .inr ⟨rfl, h⟩⟩
    | exit id => obtain ⟨Z', hr, h⟩ := out _ Z hp.1 hp.2; exact ⟨_, _, hr, .inr ⟨rfl, h⟩⟩
    | goto t => obtain ⟨Z', hr, h⟩ := out _ Z hp.1 hp.2; exact ⟨_, _, hr, .inr ⟨rfl, h⟩⟩
    | panic ch => exact hp.elim
    | outgrown => exact hp.elim
  · rintro e Z ⟨⟨v, rfl⟩, (⟨xs, hS, hi, hl, hk⟩ | ⟨pre, hSp, c, hi, hl, hk⟩)⟩
    · exact ⟨none, _, by have := run_endLoop (P := P) hl (by rw [hR]; simp); rw [hR] at this; exact this, hdone _ xs _ (by omega) hS (hI.from.putObj _ hi (by omega) hl rfl) ((World.putObj_heap_other (by omega)).trans hk)⟩
    · exact ⟨some c, _, by have := run_endLoop (P := P) hl (by rw [hR]; simp); rw [hR] at this; exact this, hstop _ c pre _ (by omega) hSp ((hIx c).from.putObj _ hi (by omega) hl rfl) ((World.putObj_heap_other (by omega)).trans hk)⟩

/-- What a round keeps: all below n₀, and from n₁ on each block of cells. -/
def KeptC (n₀ n₁ : Nat) (W W' : World) : Prop := Below n₀ W W' ∧ ∀ (b : Nat) (cs : Array Value) (t : TypeId) (k : Nat × Nat), n₁ ≤ b → W.heap[b]? = some (.cells cs t k) → W'.heap[b]? = some (.cells cs t k)
theorem KeptC.t {n₀ n₁ : Nat} {A B C : World} (h : KeptC n₀ n₁ A B) (k : KeptC n₀ n₁ B C) : KeptC n₀ n₁ A C :=
  ⟨h.1.trans k.1, fun b cs t q hb ho => k.2 b cs t q hb (h.2 b cs t q hb ho)⟩
theorem KeptC.b {n₀ n₁ : Nat} {w : World} (hn : n₀ ≤ w.heap.size) (W : World) (l : Nat) (o o' : Obj) (hl : w.heap.size ≤ l) (h : W.heap[l]? = some o) (hc : o.isCells = false) (hw : o.isWalk = false) : KeptC n₀ n₁ W (W.putObj l o') :=
  ⟨belowK_b hn W l o o' hl h hc hw, fun b cs t k _ hb => by
    have hne : some b ≠ some l := fun e => by
      cases e
      rw [h] at hb; cases hb; cases hc
    exact ((grownBy_putObj' W l o').block b (Array.getElem?_eq_some_iff.1 hb).1 hne).trans hb⟩
theorem Within.keptC {n₀ B : Nat} {W W' : World} (h : Within n₀ B W W') : KeptC n₀ B W W' :=
  ⟨h.1, fun b cs t k hb ho => (h.2 b hb (Array.getElem?_eq_some_iff.1 ho).1).trans ho⟩
theorem KeptC.cell {n₀ n₁ : Nat} {W W' : World} (h : KeptC n₀ n₁ W W') {p : Addr} {v : Value} (hp : n₁ ≤ p.block) (hc : W.cell? p = some v) : W'.cell? p = some v := by
  obtain ⟨o, ho, hk⟩ := cells_of_cell hc
  cases o with
  | cells cs t k => exact (World.cell?_of_block ((h.2 _ _ _ _ hp ho).trans ho.symm)).trans hc
  | _ => simp [Obj.isCells] at hk
theorem KeptC.cell2 {n₀ n₁ : Nat} {W W' : World} (h : KeptC n₀ n₁ W W') {p : Addr} {v : Value} (hp : p.block < n₀ ∨ n₁ ≤ p.block) (hc : W.cell? p = some v) : W'.cell? p = some v := by
  rcases hp with hp | hp
  · exact (h.1.cell hp).trans hc
  · exact h.cell hp hc
theorem ownLent_of_below {β : Type} {B c : Nat} {I : β → World → Prop} (hs : ∀ s W, I s W → B ≤ W.heap.size) (h : ∀ s W W', I s W → Below B W W' → I s W') : OwnLent B c I := fun s X Y row hi hg hr =>
  h s X Y hi ((Below.refl B X).grown hg (hs s X hi) fun k e => by rcases hr k e with h | h <;> omega)
/-- A row of the body's own, made behind the iterator's blocks, is kept. -/
theorem row_lent {B c A e k n m g : Nat} {X Y : World} {cs : List Value} {row : Option Nat} (ho : X.ownsRow A e k (.slice (some ⟨g, 0, none⟩) n m) n cs) (hg : X.grownBy Y row) (hr : ∀ r, row = some r → (B + 2 ≤ r ∧ r < B + 2 + c) ∨ (B ≤ r ∧ ∃ o : Obj, X.heap[r]? = some o ∧ o.isCells = false)) (hgg : B + 2 + c ≤ g) :
    Y.ownsRow A e k (.slice (some ⟨g, 0, none⟩) n m) n cs := by
  refine ho.kept hg (.inr fun e => ?_)
  rcases hr g e.symm with h | ⟨_, o, hoo, hcc⟩
  · omega
  · rcases ho.2 with ⟨e1, _⟩ | ⟨g', _, _, e1, _, h3, _⟩
    · cases e1
    · injection e1 with e1
      injection e1 with e1
      injection e1 with e1
      rw [e1] at hoo
      rw [h3] at hoo
      injection hoo with hoo
      rw [← hoo] at hcc; cases hcc
/-- The first one of a list with the least cost. -/
def leastG {α : Type} (f : α → Int) : List α → Option α
  | [] => none
  | k :: ks => some (ks.foldl (fun b k => if f k < f b then k else b) k)
theorem leastG_snoc {α : Type} (f : α → Int) (ks : List α) (k : α) : leastG f (ks ++ [k]) = match leastG f ks with | none => some k | some b => some (if f k < f b then k else b) := by
  cases ks with
  | nil => rfl
  | cons x xs => simp [leastG, List.foldl_append]
theorem leastG_map {α β : Type} (g : α → β) (f : α → Int) (f2 : β → Int) (hf : ∀ x, f x = f2 (g x)) (ks : List α) : (leastG f ks).map g = leastG f2 (ks.map g) := by
  cases ks with
  | nil => rfl
  | cons x xs =>
    show some (g _) = some _
    congr 1
    induction xs generalizing x with
    | nil => rfl
    | cons y ys ih =>
      simp only [List.foldl_cons, List.map_cons]
      rw [ih]
      congr 1
      rw [hf, hf]
      split <;> rfl
theorem leastG_nil {α : Type} (f : α → Int) (ks : List α) : leastG f ks = none ↔ ks = [] := by
  cases ks <;> simp [leastG]
theorem whole_own {B b : Nat} {t : TypeId} {cs : Array Value} : OwnFrom B (fun (_ : Unit) W => Whole W b t cs) := fun _ X Y row hs hg hr =>
  (hg.block b (Array.getElem?_eq_some_iff.1 hs).1 (fun e' => by obtain ⟨_, o, ho, hc⟩ := hr b e'.symm; rw [show X.heap[b]? = _ from hs] at ho; cases ho; cases hc)).trans hs
end Go.Proofs.Ytnkbnkiaokkjhaa
