/- Contracts: a new desk, the model's and the program's; the law's marks in a desk. -/
import Derived.Test.YtpolhjkjgbfdhaaDeskEq
import Derived.Test.YtpolhjkjgbfdhaaHeldJob
namespace Go.Proofs.Ytpolhjkjgbfdhaa
open Go.RowKit Go.Lst

/-- The value is a desk whose lists are rows of the call's own, in blocks from A on and below B, the jobs' below the counts'. -/
def OwnDesk (A B : Nat) (w : World) (V : Value) (r : ShiftRuleD) (p : ByteArray) (n m : Nat) (cj ci : List Value) : Prop :=
  ∃ vj vc M, V = deskV vj vc r p ∧ (A ≤ M ∧ M ≤ B) ∧ Own A M w vj 65 4 n cj ∧ Own M B w vc 2 1 m ci
def newD : DeskD := ⟨[⟨2, 0, 4, 1⟩, ⟨1, 0, 2, 1⟩], ⟨3, 1, 2, 2, 1⟩, [2, 1], ⟨#[100, 100, 46]⟩⟩
/-- A block whose whole content is known is a row. -/
theorem own_whole {A B g n k : Nat} {w : World} {t : TypeId} {cs : Array Value} (X : Whole w g t cs) (hA : A ≤ g) (hB : g < B) (hc : cs.size = n * k) (hn : n ≤ maxLen) : Own A B w (.slice (some ⟨g, 0, none⟩) n n) t k n cs.toList :=
  ⟨⟨by rw [Array.length_toList]; exact hc, .inr ⟨g, n, cs, rfl, hA, X, Nat.le_refl _, hn, hc, by rw [← hc, ← Array.length_toList, List.take_length]⟩⟩, hn, fun g' hg => by cases hg; exact hB⟩
theorem newD_own {A B g1 g2 : Nat} {w : World} (X1 : Whole w g1 65 #[Value.int IntKind.i64 2, Value.int IntKind.i64 0, Value.int IntKind.i64 4, Value.int IntKind.i64 1, Value.int IntKind.i64 1, Value.int IntKind.i64 0, Value.int IntKind.i64 2, Value.int IntKind.i64 1]) (X2 : Whole w g2 2 #[Value.int IntKind.i64 2, Value.int IntKind.i64 1]) (h1 : A ≤ g1) (h2 : g1 < g2) (h3 : g2 < B) :
    OwnDesk A B w (.agg #[Value.slice (some ⟨g1, 0, none⟩) 2 2, Value.int IntKind.i64 3, Value.int IntKind.i64 1, Value.int IntKind.i64 2, Value.int IntKind.i64 2, Value.int IntKind.i64 1, Value.slice (some ⟨g2, 0, none⟩) 2 2, Value.string { data := #[100, 100, 46] }]) newD.rule newD.pat 2 2 (cellsJob newD.jobs) (newD.counts.map (Value.int .i64)) :=
  ⟨_, _, g2, rfl, ⟨by omega, Nat.le_of_lt h3⟩, own_whole (n := 2) (k := 4) X1 h1 h2 rfl (by unfold maxLen; omega), own_whole (n := 2) (k := 1) X2 (Nat.le_refl _) h3 rfl (by unfold maxLen; omega)⟩
set_option maxHeartbeats 2000000 in
set_option maxRecDepth 100000 in
theorem newDesk_any (w : World) : Calls Try.prog 16 #[] w fun e w' => ∃ V, e = .returned V ∧ OwnDesk w.heap.size w'.heap.size w' V newD.rule newD.pat 2 2 (cellsJob newD.jobs) (newD.counts.map (Value.int .i64)) ∧ Below w.heap.size w w' := by
  have hF : Hid (OwnDesk w.heap.size (((w.alloc (.cells #[Value.slice (some ⟨w.heap.size + 1, 0, none⟩) 2 2, Value.int IntKind.i64 3, Value.int IntKind.i64 1, Value.int IntKind.i64 2, Value.int IntKind.i64 2, Value.int IntKind.i64 1, Value.slice (some ⟨w.heap.size + 1 + 1, 0, none⟩) 2 2, Value.string { data := #[100, 100, 46] }] 33)).alloc (.cells #[Value.int IntKind.i64 2, Value.int IntKind.i64 0, Value.int IntKind.i64 4, Value.int IntKind.i64 1, Value.int IntKind.i64 1, Value.int IntKind.i64 0, Value.int IntKind.i64 2, Value.int IntKind.i64 1] 65)).alloc (.cells #[Value.int IntKind.i64 2, Value.int IntKind.i64 1] 2)).heap.size (((w.alloc (.cells #[Value.slice (some ⟨w.heap.size + 1, 0, none⟩) 2 2, Value.int IntKind.i64 3, Value.int IntKind.i64 1, Value.int IntKind.i64 2, Value.int IntKind.i64 2, Value.int IntKind.i64 1, Value.slice (some ⟨w.heap.size + 1 + 1, 0, none⟩) 2 2, Value.string { data := #[100, 100, 46] }] 33)).alloc (.cells #[Value.int IntKind.i64 2, Value.int IntKind.i64 0, Value.int IntKind.i64 4, Value.int IntKind.i64 1, Value.int IntKind.i64 1, Value.int IntKind.i64 0, Value.int IntKind.i64 2, Value.int IntKind.i64 1] 65)).alloc (.cells #[Value.int IntKind.i64 2, Value.int IntKind.i64 1] 2)) (.agg #[Value.slice (some ⟨w.heap.size + 1, 0, none⟩) 2 2, Value.int IntKind.i64 3, Value.int IntKind.i64 1, Value.int IntKind.i64 2, Value.int IntKind.i64 2, Value.int IntKind.i64 1, Value.slice (some ⟨w.heap.size + 1 + 1, 0, none⟩) 2 2, Value.string { data := #[100, 100, 46] }]) newD.rule newD.pat 2 2 (cellsJob newD.jobs) (newD.counts.map (Value.int .i64)) ∧ Below w.heap.size w (((w.alloc (.cells #[Value.slice (some ⟨w.heap.size + 1, 0, none⟩) 2 2, Value.int IntKind.i64 3, Value.int IntKind.i64 1, Value.int IntKind.i64 2, Value.int IntKind.i64 2, Value.int IntKind.i64 1, Value.slice (some ⟨w.heap.size + 1 + 1, 0, none⟩) 2 2, Value.string { data := #[100, 100, 46] }] 33)).alloc (.cells #[Value.int IntKind.i64 2, Value.int IntKind.i64 0, Value.int IntKind.i64 4, Value.int IntKind.i64 1, Value.int IntKind.i64 1, Value.int IntKind.i64 0, Value.int IntKind.i64 2, Value.int IntKind.i64 1] 65)).alloc (.cells #[Value.int IntKind.i64 2, Value.int IntKind.i64 1] 2))) := Lib.hid ⟨newD_own
    ((Whole.made (w.alloc (.cells #[Value.slice (some ⟨w.heap.size + 1, 0, none⟩) 2 2, Value.int IntKind.i64 3, Value.int IntKind.i64 1, Value.int IntKind.i64 2, Value.int IntKind.i64 2, Value.int IntKind.i64 1, Value.slice (some ⟨w.heap.size + 1 + 1, 0, none⟩) 2 2, Value.string { data := #[100, 100, 46] }] 33)) 65 #[Value.int IntKind.i64 2, Value.int IntKind.i64 0, Value.int IntKind.i64 4, Value.int IntKind.i64 1, Value.int IntKind.i64 1, Value.int IntKind.i64 0, Value.int IntKind.i64 2, Value.int IntKind.i64 1] (b := w.heap.size + 1) (by rw [World.size_alloc])).more _)
    (Whole.made _ 2 #[Value.int IntKind.i64 2, Value.int IntKind.i64 1] (b := w.heap.size + 1 + 1) (by rw [World.size_alloc, World.size_alloc])) (by omega) (by omega) (by rw [World.size_alloc, World.size_alloc, World.size_alloc]; omega), below_alloc (below_alloc (below_alloc (Below.refl _ _) _) _) _⟩
  go_enter Try.func16, Try.ntmps16
  go_wp2_with fail
  exact bodyPost_ret (v := .agg #[Value.slice (some ⟨w.heap.size + 1, 0, none⟩) 2 2, Value.int IntKind.i64 3, Value.int IntKind.i64 1, Value.int IntKind.i64 2, Value.int IntKind.i64 2, Value.int IntKind.i64 1, Value.slice (some ⟨w.heap.size + 1 + 1, 0, none⟩) 2 2, Value.string { data := #[100, 100, 46] }]) (by simp [results, Try.results16, go_sem]) rfl ⟨_, rfl, hF.out⟩
set_option maxHeartbeats 2000000 in
set_option maxRecDepth 100000 in
theorem specNewDesk_any (w : World) : Calls Try.prog 15 #[] w fun e w' => ∃ V, e = .returned V ∧ OwnDesk w.heap.size w'.heap.size w' V newD.rule newD.pat 2 2 (cellsJob newD.jobs) (newD.counts.map (Value.int .i64)) ∧ Below w.heap.size w w' := by
  have hF : Hid (OwnDesk w.heap.size ((((w.alloc (.cells #[Value.slice (some ⟨w.heap.size + 1, 0, none⟩) 2 2, Value.int IntKind.i64 3, Value.int IntKind.i64 1, Value.int IntKind.i64 2, Value.int IntKind.i64 2, Value.int IntKind.i64 1, Value.slice (some ⟨w.heap.size + 1 + 1 + 1, 0, none⟩) 2 2, Value.string { data := #[100, 100, 46] }] 33)).alloc (.cells #[Value.int IntKind.i64 2, Value.int IntKind.i64 0, Value.int IntKind.i64 4, Value.int IntKind.i64 1, Value.int IntKind.i64 1, Value.int IntKind.i64 0, Value.int IntKind.i64 2, Value.int IntKind.i64 1] 65)).alloc (.cells #[Value.slice (some ⟨w.heap.size + 1, 0, none⟩) 2 2, Value.int IntKind.i64 3, Value.int IntKind.i64 1, Value.int IntKind.i64 2, Value.int IntKind.i64 2, Value.int IntKind.i64 1, Value.slice (some ⟨w.heap.size + 1 + 1 + 1, 0, none⟩) 2 2, Value.string { data := #[100, 100, 46] }] 33)).alloc (.cells #[Value.int IntKind.i64 2, Value.int IntKind.i64 1] 2)).heap.size ((((w.alloc (.cells #[Value.slice (some ⟨w.heap.size + 1, 0, none⟩) 2 2, Value.int IntKind.i64 3, Value.int IntKind.i64 1, Value.int IntKind.i64 2, Value.int IntKind.i64 2, Value.int IntKind.i64 1, Value.slice (some ⟨w.heap.size + 1 + 1 + 1, 0, none⟩) 2 2, Value.string { data := #[100, 100, 46] }] 33)).alloc (.cells #[Value.int IntKind.i64 2, Value.int IntKind.i64 0, Value.int IntKind.i64 4, Value.int IntKind.i64 1, Value.int IntKind.i64 1, Value.int IntKind.i64 0, Value.int IntKind.i64 2, Value.int IntKind.i64 1] 65)).alloc (.cells #[Value.slice (some ⟨w.heap.size + 1, 0, none⟩) 2 2, Value.int IntKind.i64 3, Value.int IntKind.i64 1, Value.int IntKind.i64 2, Value.int IntKind.i64 2, Value.int IntKind.i64 1, Value.slice (some ⟨w.heap.size + 1 + 1 + 1, 0, none⟩) 2 2, Value.string { data := #[100, 100, 46] }] 33)).alloc (.cells #[Value.int IntKind.i64 2, Value.int IntKind.i64 1] 2)) (.agg #[Value.slice (some ⟨w.heap.size + 1, 0, none⟩) 2 2, Value.int IntKind.i64 3, Value.int IntKind.i64 1, Value.int IntKind.i64 2, Value.int IntKind.i64 2, Value.int IntKind.i64 1, Value.slice (some ⟨w.heap.size + 1 + 1 + 1, 0, none⟩) 2 2, Value.string { data := #[100, 100, 46] }]) newD.rule newD.pat 2 2 (cellsJob newD.jobs) (newD.counts.map (Value.int .i64)) ∧ Below w.heap.size w ((((w.alloc (.cells #[Value.slice (some ⟨w.heap.size + 1, 0, none⟩) 2 2, Value.int IntKind.i64 3, Value.int IntKind.i64 1, Value.int IntKind.i64 2, Value.int IntKind.i64 2, Value.int IntKind.i64 1, Value.slice (some ⟨w.heap.size + 1 + 1 + 1, 0, none⟩) 2 2, Value.string { data := #[100, 100, 46] }] 33)).alloc (.cells #[Value.int IntKind.i64 2, Value.int IntKind.i64 0, Value.int IntKind.i64 4, Value.int IntKind.i64 1, Value.int IntKind.i64 1, Value.int IntKind.i64 0, Value.int IntKind.i64 2, Value.int IntKind.i64 1] 65)).alloc (.cells #[Value.slice (some ⟨w.heap.size + 1, 0, none⟩) 2 2, Value.int IntKind.i64 3, Value.int IntKind.i64 1, Value.int IntKind.i64 2, Value.int IntKind.i64 2, Value.int IntKind.i64 1, Value.slice (some ⟨w.heap.size + 1 + 1 + 1, 0, none⟩) 2 2, Value.string { data := #[100, 100, 46] }] 33)).alloc (.cells #[Value.int IntKind.i64 2, Value.int IntKind.i64 1] 2))) := Lib.hid ⟨newD_own
    (((Whole.made (w.alloc (.cells #[Value.slice (some ⟨w.heap.size + 1, 0, none⟩) 2 2, Value.int IntKind.i64 3, Value.int IntKind.i64 1, Value.int IntKind.i64 2, Value.int IntKind.i64 2, Value.int IntKind.i64 1, Value.slice (some ⟨w.heap.size + 1 + 1 + 1, 0, none⟩) 2 2, Value.string { data := #[100, 100, 46] }] 33)) 65 #[Value.int IntKind.i64 2, Value.int IntKind.i64 0, Value.int IntKind.i64 4, Value.int IntKind.i64 1, Value.int IntKind.i64 1, Value.int IntKind.i64 0, Value.int IntKind.i64 2, Value.int IntKind.i64 1] (b := w.heap.size + 1) (by rw [World.size_alloc])).more _).more _)
    (Whole.made _ 2 #[Value.int IntKind.i64 2, Value.int IntKind.i64 1] (b := w.heap.size + 1 + 1 + 1) (by rw [World.size_alloc, World.size_alloc, World.size_alloc])) (by omega) (by omega) (by rw [World.size_alloc, World.size_alloc, World.size_alloc, World.size_alloc]; omega), below_alloc (below_alloc (below_alloc (below_alloc (Below.refl _ _) _) _) _) _⟩
  go_enter Try.func15, Try.ntmps15
  go_wp2_with fail
  exact bodyPost_ret (v := .agg #[Value.slice (some ⟨w.heap.size + 1, 0, none⟩) 2 2, Value.int IntKind.i64 3, Value.int IntKind.i64 1, Value.int IntKind.i64 2, Value.int IntKind.i64 2, Value.int IntKind.i64 1, Value.slice (some ⟨w.heap.size + 1 + 1 + 1, 0, none⟩) 2 2, Value.string { data := #[100, 100, 46] }]) (by simp [results, Try.results15, go_sem]) rfl ⟨_, rfl, hF.out⟩
theorem OwnDesk.lst {A B : Nat} {w : World} {V : Value} {d : DeskD} (h : OwnDesk A B w V d.rule d.pat d.jobs.length d.counts.length (cellsJob d.jobs) (d.counts.map (Value.int .i64))) : LstDesk B w V d := by
  obtain ⟨vj, vc, M, rfl, hM, hj, hc⟩ := h
  exact ⟨vj, vc, rfl, hj.lstK hM.2, hc.lstK (Nat.le_refl _)⟩
theorem OwnDesk.below {A B C : Nat} {w w' : World} {V : Value} {r : ShiftRuleD} {p : ByteArray} {n m : Nat} {cj ci : List Value} (h : OwnDesk A B w V r p n m cj ci) (hb : Below C w w') (hC : B ≤ C) : OwnDesk A B w' V r p n m cj ci := by
  obtain ⟨vj, vc, M, rfl, hM, hj, hc⟩ := h
  exact ⟨vj, vc, M, rfl, hM, hj.below hb (Nat.le_trans hM.2 hC), hc.below hb hC⟩
def marksD (n m : Nat) (k0 : Int) : List Value × List Value := ((marksFrom k0 (n * 4)).map (Value.int .i64), (marksFrom (k0 + n * 4) m).map (Value.int .i64))
set_option maxHeartbeats 2000000 in
set_option maxRecDepth 100000 in
theorem markDesk_any (A B : Nat) (V : Value) (r : ShiftRuleD) (p : ByteArray) (n m : Nat) (cj ci : List Value) (k0 : Int) (w : World) (h : OwnDesk A B w V r p n m cj ci) (hB : B ≤ w.heap.size) (h0 : 0 ≤ k0) (hk0 : k0 ≤ 1048576) (hn : n ≤ 1048576) (hm : m ≤ 1048576) (hA : A ≤ w.heap.size) :
    Calls Try.prog 17 #[V, .int .i64 k0] w fun e w' => e = .returned (.int .i64 (k0 + n * 4 + m)) ∧ OwnDesk A B w' V r p n m (marksD n m k0).1 (marksD n m k0).2 ∧ Below A w w' ∧ (w.heap.size ≤ w'.heap.size ∧ ∀ b t cs, Whole w b t cs → b < A ∨ B ≤ b → Whole w' b t cs) := by
  obtain ⟨vj, vc, M, rfl, hM, hj, hc⟩ := h
  have hJ := Lib.hid (fun w' (hb : Below w.heap.size w w') => markJobS_any A M vj cj n k0 w' (hj.below hb (Nat.le_trans hM.2 hB)) h0 (by omega) (by omega))
  have hC := Lib.hid (fun w' (hx : Own M B w' vc 2 1 m ci) => markInt64S_any M B vc ci m (k0 + n * 4) w' hx (by omega) (by omega) (by omega))
  have hjB := Lib.hid hj.block_ge
  have hcB := Lib.hid hc.block_ge
  have hc0 := Lib.hid hc
  have hMs := Lib.hid hM
  have hMk : Hid (∀ w', Own A M w' vj 65 4 n (marksD n m k0).1 → Own M B w' vc 2 1 m (marksD n m k0).2 → OwnDesk A B w' (deskV vj vc r p) r p n m (marksD n m k0).1 (marksD n m k0).2) := Lib.hid fun w' a b => ⟨vj, vc, M, rfl, hMs.out, a, b⟩
  obtain ⟨a1, c1, rfl, -⟩ := hj.lstK (Nat.le_refl M)
  obtain ⟨a2, c2, rfl, -⟩ := hc.lstK (Nat.le_refl B)
  obtain ⟨hM1, hM2⟩ := hM
  have B1 := Lib.hid (below_alloc (Below.refl w.heap.size w) (.cells #[Value.slice a1 n c1, Value.int IntKind.i64 r.Slots, Value.int IntKind.i64 r.Least, Value.int IntKind.i64 r.Most, Value.int IntKind.i64 r.Row, Value.int IntKind.i64 r.Pause, Value.slice a2 m c2, Value.string p] 33))
  have X1 := Lib.hid (Whole.made w 33 #[Value.slice a1 n c1, Value.int IntKind.i64 r.Slots, Value.int IntKind.i64 r.Least, Value.int IntKind.i64 r.Most, Value.int IntKind.i64 r.Row, Value.int IntKind.i64 r.Pause, Value.slice a2 m c2, Value.string p] rfl)
  have hwB := Lib.hid hB
  have hwA := Lib.hid hA
  clear hj hc
  go_enter Try.func17, Try.ntmps17
  go_wp2_with fail
  generalize w.alloc _ = w1 at *
  refine (hJ.out w1 B1.out).mono ?_
  rintro e w2 ⟨rfl, hoj, hg⟩
  have hB2 := Lib.hid ((B1.out.mono hwA.out).grown hg (Nat.le_trans hwA.out B1.out.size) (fun g hg => (hjB.out g hg).1))
  have hC2 := Lib.hid ((hc0.out.below B1.out hwB.out).beside hg (fun g hg => .inl (hjB.out g hg).2) (Nat.le_trans hwB.out B1.out.size))
  have X2 := Lib.hid (X1.out.beside hg (fun e => by have := (hjB.out _ e.symm).2; have := hwB.out; omega))
  have J2 := Lib.hid hoj
  have S2 := Lib.hid (Nat.le_trans (Nat.le_trans hwB.out B1.out.size) hg.size)
  have W2 := Lib.hid (show w.heap.size ≤ w2.heap.size ∧ ∀ b t cs, Whole w b t cs → b < A ∨ B ≤ b → Whole w2 b t cs from ⟨Nat.le_trans B1.out.size hg.size, fun b t cs hw ho => (hw.kept B1.out).beside hg (fun e => by have := hjB.out _ e.symm; omega)⟩)
  have d6 : w2.cell? ⟨w.heap.size, 6, none⟩ = some (.slice a2 m c2) := X2.out.at_ (i := 6) rfl
  clear hoj hg X1 B1 hJ
  go_wp2_with fail
  refine (hC.out w2 hC2.out).mono ?_
  rintro e w3 ⟨rfl, hoc, hg⟩
  have hF := Lib.hid (hMk.out w3 (J2.out.beside hg (fun g hg => .inr (hcB.out g hg).1) (Nat.le_trans hM2 S2.out)) hoc)
  have W3 := Lib.hid (show w.heap.size ≤ w3.heap.size ∧ ∀ b t cs, Whole w b t cs → b < A ∨ B ≤ b → Whole w3 b t cs from ⟨Nat.le_trans W2.out.1 hg.size, fun b t cs hw ho => (W2.out.2 b t cs hw ho).beside hg (fun e => by have := hcB.out _ e.symm; omega)⟩)
  have hB3 := Lib.hid (hB2.out.grown hg (Nat.le_trans hM1 (Nat.le_trans hM2 S2.out)) (fun g hg => Nat.le_trans hM1 (hcB.out g hg).1))
  clear hoc hg d6
  go_wp2_with fail
  go_ret
  exact ⟨rfl, hF.out, hB3.out, W3.out⟩
set_option maxHeartbeats 2000000 in
set_option maxRecDepth 100000 in
theorem heldDesk_any (A B : Nat) (V : Value) (r : ShiftRuleD) (p : ByteArray) (n m : Nat) (k0 : Int) (w : World) (h : OwnDesk A B w V r p n m (marksD n m k0).1 (marksD n m k0).2) (hB : B ≤ w.heap.size) (h0 : 0 ≤ k0) (hk0 : k0 ≤ 1048576) (hn : n ≤ 1048576) (hm : m ≤ 1048576) :
    Calls Try.prog 18 #[V, .int .i64 k0] w fun e w' => e = .returned (.int .i64 (k0 + n * 4 + m)) ∧ Below w.heap.size w w' := by
  obtain ⟨vj, vc, M, rfl, ⟨hM1, hM2⟩, hj, hc⟩ := h
  have hJ := Lib.hid (fun w' (hb : Below w.heap.size w w') => ret_below (heldJobS_any w.heap.size vj n k0 w' ((hj.lstK (Nat.le_trans hM2 hB)).below hb (Nat.le_refl _)) h0 (by omega) (by omega)))
  have hC := Lib.hid (fun w' (hb : Below w.heap.size w w') => ret_below (heldInt64S_any w.heap.size vc m (k0 + n * 4) w' (((hc.lstK hB).below hb (Nat.le_refl _)).lst) (by omega) (by omega) (by omega)))
  obtain ⟨a1, c1, rfl, -⟩ := hj.lstK (Nat.le_refl M)
  obtain ⟨a2, c2, rfl, -⟩ := hc.lstK (Nat.le_refl B)
  have B1 := Lib.hid (below_alloc (Below.refl w.heap.size w) (.cells #[Value.slice a1 n c1, Value.int IntKind.i64 r.Slots, Value.int IntKind.i64 r.Least, Value.int IntKind.i64 r.Most, Value.int IntKind.i64 r.Row, Value.int IntKind.i64 r.Pause, Value.slice a2 m c2, Value.string p] 33))
  have X1 := Lib.hid (Whole.made w 33 #[Value.slice a1 n c1, Value.int IntKind.i64 r.Slots, Value.int IntKind.i64 r.Least, Value.int IntKind.i64 r.Most, Value.int IntKind.i64 r.Row, Value.int IntKind.i64 r.Pause, Value.slice a2 m c2, Value.string p] rfl)
  clear hj hc
  go_enter Try.func18, Try.ntmps18
  go_wp2_with fail
  generalize w.alloc _ = w1 at *
  refine (hJ.out w1 B1.out).mono ?_
  rintro e w2 ⟨rfl, hb⟩
  have X2 := Lib.hid (X1.out.kept hb)
  have B2 := Lib.hid (below_on B1.out (Nat.le_refl _) hb)
  have d6 : w2.cell? ⟨w.heap.size, 6, none⟩ = some (.slice a2 m c2) := X2.out.at_ (i := 6) rfl
  clear hb X1 B1 hJ
  go_wp2_with fail
  refine (hC.out w2 B2.out).mono ?_
  rintro e w3 ⟨rfl, hb⟩
  have B3 := Lib.hid (below_on B2.out (Nat.le_refl _) hb)
  clear hb d6
  go_wp2_with fail
  go_ret
  exact ⟨rfl, B3.out⟩
end Go.Proofs.Ytpolhjkjgbfdhaa
