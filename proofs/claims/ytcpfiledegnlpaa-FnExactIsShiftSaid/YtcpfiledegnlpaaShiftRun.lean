/- Contracts: the stage behind all letters of a text, and whether a text is a shift, by the program. -/
import Derived.Test.YtcpfiledegnlpaaShiftImpl
namespace Go.Proofs.Ytcpfiledegnlpaa
open Go.RowKit Go.Lst

theorem whole_iterAt {w : World} {b k : Nat} {t : TypeId} {cs : Array Value} (h : Whole w b t cs) (hk : b ≠ k) (s : ByteArray) (p : Nat) : Whole (w.iterAt k s p) b t cs := (Lib.iterAt_other w k b s p hk).trans h
theorem iter_four {w : World} {b : Nat} {o : Obj} (h : w.heap[b]? = some o) (x : Obj) {g : Nat} (hg : b ≠ g) (u0 u1 u2 u3 : Value) : (((((w.alloc x).setCell ⟨g, 0, none⟩ u0).setCell ⟨g, 1, none⟩ u1).setCell ⟨g, 2, none⟩ u2).setCell ⟨g, 3, none⟩ u3).heap[b]? = some o := by
  have hb : b < w.heap.size := (Array.getElem?_eq_some_iff.1 h).1
  rw [Below.heap_setCell _ _ _ b hg, Below.heap_setCell _ _ _ b hg, Below.heap_setCell _ _ _ b hg, Below.heap_setCell _ _ _ b hg, Below.heap_alloc w x b hb]
  exact h
theorem below_fours {B : Nat} {a w : World} (h : Below B a w) {g : Nat} (hg : B ≤ g) (u0 u1 u2 u3 : Value) : Below B a ((((w.setCell ⟨g, 0, none⟩ u0).setCell ⟨g, 1, none⟩ u1).setCell ⟨g, 2, none⟩ u2).setCell ⟨g, 3, none⟩ u3) :=
  (((h.setCell (p := ⟨g, 0, none⟩) hg u0).setCell (p := ⟨g, 1, none⟩) hg u1).setCell (p := ⟨g, 2, none⟩) hg u2).setCell (p := ⟨g, 3, none⟩) hg u3
theorem below_four {B : Nat} {a w : World} (h : Below B a w) (x : Obj) {g : Nat} (hB : B ≤ w.heap.size) (hg : B ≤ g) (u0 u1 u2 u3 : Value) : Below B a (((((w.alloc x).setCell ⟨g, 0, none⟩ u0).setCell ⟨g, 1, none⟩ u1).setCell ⟨g, 2, none⟩ u2).setCell ⟨g, 3, none⟩ u3) :=
  below_fours (h.alloc hB x) hg u0 u1 u2 u3
theorem size_four (w : World) (x : Obj) (g : Nat) (u0 u1 u2 u3 : Value) : (((((w.alloc x).setCell ⟨g, 0, none⟩ u0).setCell ⟨g, 1, none⟩ u1).setCell ⟨g, 2, none⟩ u2).setCell ⟨g, 3, none⟩ u3).heap.size = w.heap.size + 1 := by simp [World.setCell]
theorem stage_bounds {r : ShiftRuleD} {p : PlaceD} {k : Nat} (hr : okRule r = true) (hg : Good p k) (hk : k ≤ 9223372036854775806) :
    (-9223372036854775806 ≤ (stageAt r p k).left ∧ (stageAt r p k).left ≤ 9223372036854775806) ∧ (0 ≤ (stageAt r p k).worked ∧ (stageAt r p k).worked ≤ 9223372036854775806) ∧ (0 ≤ (stageAt r p k).row ∧ (stageAt r p k).row ≤ 9223372036854775806) ∧ (-1 ≤ (stageAt r p k).pause ∧ (stageAt r p k).pause ≤ 9223372036854775806) := by
  have h1 := (okRule_of hr).1
  unfold Good at hg
  unfold stageAt pauseOf
  obtain ⟨h2, h3, h4, h5, h6⟩ := hg
  refine ⟨⟨by simp; omega, by simp; omega⟩, ⟨?_, by simp; omega⟩, ⟨h3, by simp; omega⟩, ?_⟩
  · rcases h2 with ⟨a, _⟩ | ⟨a, _⟩ <;> (simp; omega)
  · simp only
    split
    · rcases h2 with ⟨a, b⟩ | ⟨a, b⟩ <;> omega
    · omega
def StagePost (st : StageD) (ok : Bool) (w : World) (e : Ending) (w' : World) : Prop := e = .returned (.tuple #[st.agg, .bool ok]) ∧ Below w.heap.size w w'
set_option maxHeartbeats 8000000 in
set_option maxRecDepth 100000 in
theorem stageOf_any (r : ShiftRuleD) (s : ByteArray) (hr : okRule r = true) (hs : s.size ≤ 9223372036854775807) (w : World) :
    Calls Try.prog 82 #[r.agg, .string s] w (StagePost (stageRes r s) (stageOk r s) w) := by
  have hStepF := Lib.hid (fun (p : PlaceD) (k : Nat) (hg : Good p k) (hk : k ≤ 9223372036854775806) (g : Nat) (wq : World) (hq : Whole wq g 47 r.cells) => step_free r g (stageAt r p k) wq hq (stage_bounds hr hg hk).1 (stage_bounds hr hg hk).2.1 (stage_bounds hr hg hk).2.2.2)
  have hStepW := Lib.hid (fun (p : PlaceD) (k : Nat) (hg : Good p k) (hk : k ≤ 9223372036854775806) (g : Nat) (wq : World) (hq : Whole wq g 47 r.cells) => step_work r g (stageAt r p k) wq hq (stage_bounds hr hg hk).1 (stage_bounds hr hg hk).2.1 (stage_bounds hr hg hk).2.2.1)
  have hStepO := Lib.hid (fun (p : PlaceD) (k : Nat) (c : Int) (h1 : ¬ c = 46) (h2 : ¬ c = 119) (hg : Good p k) (hk : k ≤ 9223372036854775806) (g : Nat) (wq : World) => step_other r g (stageAt r p k) c wq h1 h2 (stage_bounds hr hg hk).1)
  have hNone : Hid (∀ k w', k ≤ s.size → runP r s k = none → Below w.heap.size w w' → StagePost (stageRes r s) (stageOk r s) w (.returned (.tuple #[.agg #[.int .i64 0, .int .i64 0, .int .i64 0, .int .i64 0], .bool false])) w') := Lib.hid fun k w' hk h hb => by
    unfold stageRes stageOk
    rw [runP_none h s.size hk]
    exact ⟨rfl, hb⟩
  have hSome : Hid (∀ k p w', k = s.size → runP r s k = some p → Below w.heap.size w w' → StagePost (stageRes r s) (stageOk r s) w (.returned (.tuple #[(stageAt r p k).agg, .bool true])) w') := Lib.hid fun k p w' hk h hb => by
    subst hk
    unfold stageRes stageOk
    rw [h]
    exact ⟨rfl, hb⟩
  have hBy := Lib.hid (fun (wq : World) => stepBy_any r wq)
  have h0 : Hid (stageAt r startP 0 = ⟨r.Slots, 0, 0, 0⟩) := Lib.hid (by simp [stageAt, startP, pauseOf])
  have hRun0 : Hid (runP r s 0 = some startP) := Lib.hid rfl
  generalize StagePost (stageRes r s) (stageOk r s) w = Q at *
  go_enter Try.func82, Try.ntmps82
  go_wp2_with (go_at_call 88; (with_reducible refine (hBy.out _).mono ?_); rintro e w' ⟨rfl, rfl⟩)
  have hB0 := Lib.hid (show Below w.heap.size w (World.iter ((((w.alloc (.cells #[.int .i64 r.Slots, .int .i64 r.Least, .int .i64 r.Most, .int .i64 r.Row, .int .i64 r.Pause] 47)).alloc (.cells #[.int .i64 0, .int .i64 0, .int .i64 0, .int .i64 0] 100)).alloc (.cells r.cells 47)).alloc (.cells #[.int .i64 r.Slots, .int .i64 0, .int .i64 0, .int .i64 0] 100)) s 0) from below_alloc (below_alloc (below_alloc (below_alloc (below_alloc (Below.refl _ _) _) _) _) _) _)
  have hW1 := Lib.hid (show Whole (World.iter ((((w.alloc (.cells #[.int .i64 r.Slots, .int .i64 r.Least, .int .i64 r.Most, .int .i64 r.Row, .int .i64 r.Pause] 47)).alloc (.cells #[.int .i64 0, .int .i64 0, .int .i64 0, .int .i64 0] 100)).alloc (.cells r.cells 47)).alloc (.cells #[.int .i64 r.Slots, .int .i64 0, .int .i64 0, .int .i64 0] 100)) s 0) (w.heap.size + 1) 100 #[.int .i64 0, .int .i64 0, .int .i64 0, .int .i64 0] from (((Whole.made (w.alloc (.cells #[.int .i64 r.Slots, .int .i64 r.Least, .int .i64 r.Most, .int .i64 r.Row, .int .i64 r.Pause] 47)) 100 #[.int .i64 0, .int .i64 0, .int .i64 0, .int .i64 0] (by simp)).more (.cells r.cells 47)).more (.cells #[.int .i64 r.Slots, .int .i64 0, .int .i64 0, .int .i64 0] 100)).more (.stringIter s 0))
  have hW2 := Lib.hid (show Whole (World.iter ((((w.alloc (.cells #[.int .i64 r.Slots, .int .i64 r.Least, .int .i64 r.Most, .int .i64 r.Row, .int .i64 r.Pause] 47)).alloc (.cells #[.int .i64 0, .int .i64 0, .int .i64 0, .int .i64 0] 100)).alloc (.cells r.cells 47)).alloc (.cells #[.int .i64 r.Slots, .int .i64 0, .int .i64 0, .int .i64 0] 100)) s 0) (w.heap.size + 1 + 1) 47 r.cells from ((Whole.made ((w.alloc (.cells #[.int .i64 r.Slots, .int .i64 r.Least, .int .i64 r.Most, .int .i64 r.Row, .int .i64 r.Pause] 47)).alloc (.cells #[.int .i64 0, .int .i64 0, .int .i64 0, .int .i64 0] 100)) 47 r.cells (by simp)).more (.cells #[.int .i64 r.Slots, .int .i64 0, .int .i64 0, .int .i64 0] 100)).more (.stringIter s 0))
  have hW3 := Lib.hid (show Whole (World.iter ((((w.alloc (.cells #[.int .i64 r.Slots, .int .i64 r.Least, .int .i64 r.Most, .int .i64 r.Row, .int .i64 r.Pause] 47)).alloc (.cells #[.int .i64 0, .int .i64 0, .int .i64 0, .int .i64 0] 100)).alloc (.cells r.cells 47)).alloc (.cells #[.int .i64 r.Slots, .int .i64 0, .int .i64 0, .int .i64 0] 100)) s 0) (w.heap.size + 1 + 1 + 1) 100 (stageAt r startP 0).cells from by rw [h0.out]; exact (Whole.made (((w.alloc (.cells #[.int .i64 r.Slots, .int .i64 r.Least, .int .i64 r.Most, .int .i64 r.Row, .int .i64 r.Pause] 47)).alloc (.cells #[.int .i64 0, .int .i64 0, .int .i64 0, .int .i64 0] 100)).alloc (.cells r.cells 47)) 100 #[.int .i64 r.Slots, .int .i64 0, .int .i64 0, .int .i64 0] (by simp)).more (.stringIter s 0))
  have hI0 : ((World.iter ((((w.alloc (.cells #[.int .i64 r.Slots, .int .i64 r.Least, .int .i64 r.Most, .int .i64 r.Row, .int .i64 r.Pause] 47)).alloc (.cells #[.int .i64 0, .int .i64 0, .int .i64 0, .int .i64 0] 100)).alloc (.cells r.cells 47)).alloc (.cells #[.int .i64 r.Slots, .int .i64 0, .int .i64 0, .int .i64 0] 100)) s 0)).heap[w.heap.size + 1 + 1 + 1 + 1]? = some (.stringIter s 0) := by have h5 := World.iter_heap ((((w.alloc (.cells #[.int .i64 r.Slots, .int .i64 r.Least, .int .i64 r.Most, .int .i64 r.Row, .int .i64 r.Pause] 47)).alloc (.cells #[.int .i64 0, .int .i64 0, .int .i64 0, .int .i64 0] 100)).alloc (.cells r.cells 47)).alloc (.cells #[.int .i64 r.Slots, .int .i64 0, .int .i64 0, .int .i64 0] 100)) s 0; simpa using h5
  have hz0 : w.heap.size + 5 ≤ ((World.iter ((((w.alloc (.cells #[.int .i64 r.Slots, .int .i64 r.Least, .int .i64 r.Most, .int .i64 r.Row, .int .i64 r.Pause] 47)).alloc (.cells #[.int .i64 0, .int .i64 0, .int .i64 0, .int .i64 0] 100)).alloc (.cells r.cells 47)).alloc (.cells #[.int .i64 r.Slots, .int .i64 0, .int .i64 0, .int .i64 0] 100)) s 0)).heap.size := by simp [World.iter]
  generalize (World.iter ((((w.alloc (.cells #[.int .i64 r.Slots, .int .i64 r.Least, .int .i64 r.Most, .int .i64 r.Row, .int .i64 r.Pause] 47)).alloc (.cells #[.int .i64 0, .int .i64 0, .int .i64 0, .int .i64 0] 100)).alloc (.cells r.cells 47)).alloc (.cells #[.int .i64 r.Slots, .int .i64 0, .int .i64 0, .int .i64 0] 100)) s 0) = WI at *
  generalize hgg : w.heap.size = g at *
  have hGg := Lib.hid hgg
  clear hgg
  go_loopw [11] (fun _ wr => ∃ (k : Nat) (p : PlaceD), k ≤ s.size ∧ Hid (runP r s k = some p) ∧ wr.heap[g + 1 + 1 + 1 + 1]? = some (.stringIter s k) ∧ Hid (Whole wr (g + 1) 100 #[.int .i64 0, .int .i64 0, .int .i64 0, .int .i64 0]) ∧ Hid (Whole wr (g + 1 + 1) 47 r.cells) ∧ Hid (Whole wr (g + 1 + 1 + 1) 100 (stageAt r p k).cells) ∧ Hid (Below g w wr) ∧ g + 5 ≤ wr.heap.size) (fun _ wr => s.size - wr.iterPos (g + 1 + 1 + 1 + 1))
  case atStart => exact ⟨0, _, Nat.zero_le _, hRun0, hI0, hW1, hW2, hW3, hB0, hz0⟩
  case round =>
    clear hB0 hW1 hW2 hW3 hI0 hz0
    obtain ⟨k, p, hk, hRun, hI, hT1, hT2, hT3, hB, hz⟩ := hrel
    have hg := runP_good hRun.out
    by_cases hlt : k < s.size
    · have hgd := byte_getD s k hlt
      by_cases h128 : (s[k]'hlt).toNat < 128
      · have hnx : ∀ ty, (Instr.next (.pointer (some ⟨g + 1 + 1 + 1 + 1, 0, none⟩)) true ty).run Try.prog wr = _ := fun ty => Lib.run_next_ascii_at wr (g + 1 + 1 + 1 + 1) s k ty hI hlt h128
        have hI1 := Lib.hid (Lib.iterAt_heap wr (g + 1 + 1 + 1 + 1) s k (k + 1) hI)
        have hB1 := Lib.hid (Lib.below_iterAt hB.out (k := g + 1 + 1 + 1 + 1) (by omega) s (k + 1))
        have hU1 := Lib.hid (whole_iterAt hT1.out (k := g + 1 + 1 + 1 + 1) (by omega) s (k + 1))
        have hU2 := Lib.hid (whole_iterAt hT2.out (k := g + 1 + 1 + 1 + 1) (by omega) s (k + 1))
        have hU3 := Lib.hid (whole_iterAt hT3.out (k := g + 1 + 1 + 1 + 1) (by omega) s (k + 1))
        have hz1 : g + 5 ≤ (wr.iterAt (g + 1 + 1 + 1 + 1) s (k + 1)).heap.size := by rw [Lib.iterAt_size]; exact hz
        clear hT1 hT2 hT3 hB hz
        generalize wr.iterAt (g + 1 + 1 + 1 + 1) s (k + 1) = W1 at *
        have hF := Lib.hid (hStepF.out p k hg (by omega) (g + 1 + 1) W1 hU2.out)
        have hWk := Lib.hid (hStepW.out p k hg (by omega) (g + 1 + 1) W1 hU2.out)
        have hOt := Lib.hid (fun c h1 h2 => hStepO.out p k c h1 h2 hg (by omega) (g + 1 + 1) W1)
        have hmay := stage_may (r := r) hg
        have c0 : W1.cell? ⟨g + 1 + 1 + 1, 0, none⟩ = some (.int .i64 (stageAt r p k).left) := hU3.out.at_ (i := 0) rfl
        have c1 : W1.cell? ⟨g + 1 + 1 + 1, 1, none⟩ = some (.int .i64 (stageAt r p k).worked) := hU3.out.at_ (i := 1) rfl
        have c2 : W1.cell? ⟨g + 1 + 1 + 1, 2, none⟩ = some (.int .i64 (stageAt r p k).row) := hU3.out.at_ (i := 2) rfl
        have c3 : W1.cell? ⟨g + 1 + 1 + 1, 3, none⟩ = some (.int .i64 (stageAt r p k).pause) := hU3.out.at_ (i := 3) rfl
        by_cases h46 : (s[k]'hlt).toNat = 46
        · have hr46 : (s.data.toList.getD k 0).toNat = 46 := by rw [hgd]; exact h46
          clear hgd hWk hOt hmay
          have hRun2 := Lib.hid (runP_free hRun.out hr46)
          have hCall := Lib.hid (hF.out)
          have hNew := Lib.hid (show freeStage (stageAt r p k) = stageAt r _ (k + 1) from stage_free hg)
          have hcI : ((s[k]'hlt).toNat : Int) = 46 := by omega
          generalize hns : freeStage (stageAt r p k) = ns at *
          clear hns hg
          obtain ⟨n0, n1, n2, n3⟩ := ns
          generalize hst : stageAt r p k = st0 at *
          have hST := Lib.hid hst
          clear hst
          obtain ⟨m0, m1, m2, m3⟩ := st0
          have hCall2 : Hid (Calls Try.prog 89 #[.agg #[.int .i64 m0, .int .i64 m1, .int .i64 m2, .int .i64 m3], .int .i32 ((s[k]'hlt).toNat : Int), .pointer (some ⟨g + 1 + 1, 0, none⟩)] W1 fun e w' => e = .returned (.tuple #[.agg #[.int .i64 n0, .int .i64 n1, .int .i64 n2, .int .i64 n3], .bool true]) ∧ Below W1.heap.size W1 w') := Lib.hid (by rw [hcI]; exact hCall.out)
          clear hcI hCall h46 hr46 hF
          simp only at c0 c1 c2 c3
          go_wp2_with (go_at_call 89; go_loud ((with_reducible refine (hCall2.out).mono ?_); rintro e W2 ⟨rfl, hb2⟩; have hB2 := Lib.hid (below_on hB1.out (Nat.le_of_eq hGg.out.symm) hb2); have hV1 := Lib.hid (hU1.out.kept hb2); have hV2 := Lib.hid (hU2.out.kept hb2); have hV3 := Lib.hid ((hU3.out.kept hb2).more (.cells #[.int .i64 n0, .int .i64 n1, .int .i64 n2, .int .i64 n3] 100)); have hI2 := Lib.hid ((hb2.block (g + 1 + 1 + 1 + 1) (by omega)).trans hI1.out); have hz2 : g + 5 ≤ W2.heap.size := Nat.le_trans hz1 hb2.size; have q0 := hV3.out.at_ (i := 0) rfl; have q1 := hV3.out.at_ (i := 1) rfl; have q2 := hV3.out.at_ (i := 2) rfl; have q3 := hV3.out.at_ (i := 3) rfl; have z0 := hV3.out.free 0; have z1 := hV3.out.free 1; have z2 := hV3.out.free 2; have z3 := hV3.out.free 3; clear hb2 c0 c1 c2 c3))
          have hX3 := Lib.hid ((((hV3.out.put 0 (.int .i64 n0)).put 1 (.int .i64 n1)).put 2 (.int .i64 n2)).put 3 (.int .i64 n3))
          have hX1 := Lib.hid (((((hV1.out.more (.cells #[.int .i64 n0, .int .i64 n1, .int .i64 n2, .int .i64 n3] 100)).apart (p := ⟨g + 1 + 1 + 1, 0, none⟩) (by show g + 1 ≠ g + 1 + 1 + 1; omega) (.int .i64 n0)).apart (p := ⟨g + 1 + 1 + 1, 1, none⟩) (by show g + 1 ≠ g + 1 + 1 + 1; omega) (.int .i64 n1)).apart (p := ⟨g + 1 + 1 + 1, 2, none⟩) (by show g + 1 ≠ g + 1 + 1 + 1; omega) (.int .i64 n2)).apart (p := ⟨g + 1 + 1 + 1, 3, none⟩) (by show g + 1 ≠ g + 1 + 1 + 1; omega) (.int .i64 n3))
          have hX2 := Lib.hid (((((hV2.out.more (.cells #[.int .i64 n0, .int .i64 n1, .int .i64 n2, .int .i64 n3] 100)).apart (p := ⟨g + 1 + 1 + 1, 0, none⟩) (by show g + 1 + 1 ≠ g + 1 + 1 + 1; omega) (.int .i64 n0)).apart (p := ⟨g + 1 + 1 + 1, 1, none⟩) (by show g + 1 + 1 ≠ g + 1 + 1 + 1; omega) (.int .i64 n1)).apart (p := ⟨g + 1 + 1 + 1, 2, none⟩) (by show g + 1 + 1 ≠ g + 1 + 1 + 1; omega) (.int .i64 n2)).apart (p := ⟨g + 1 + 1 + 1, 3, none⟩) (by show g + 1 + 1 ≠ g + 1 + 1 + 1; omega) (.int .i64 n3))
          have hI3 := iter_four hI2.out (.cells #[.int .i64 n0, .int .i64 n1, .int .i64 n2, .int .i64 n3] 100) (g := g + 1 + 1 + 1) (by omega) (.int .i64 n0) (.int .i64 n1) (.int .i64 n2) (.int .i64 n3)
          have hB3 := Lib.hid (below_four hB2.out (.cells #[.int .i64 n0, .int .i64 n1, .int .i64 n2, .int .i64 n3] 100) (g := g + 1 + 1 + 1) (by omega) (by omega) (.int .i64 n0) (.int .i64 n1) (.int .i64 n2) (.int .i64 n3))
          have hz3 := size_four W2 (.cells #[.int .i64 n0, .int .i64 n1, .int .i64 n2, .int .i64 n3] 100) (g + 1 + 1 + 1) (.int .i64 n0) (.int .i64 n1) (.int .i64 n2) (.int .i64 n3)
          have hC3 : Hid (#[Value.int .i64 n0, .int .i64 n1, .int .i64 n2, .int .i64 n3] = (stageAt r _ (k + 1)).cells) := Lib.hid (by rw [← hNew.out]; rfl)
          clear q0 q1 q2 q3 z0 z1 z2 z3
          go_roundw
          case rel => exact ⟨k + 1, _, by omega, hRun2, hI3, hX1, hX2, (by have := hX3.out; rw [← hC3.out]; exact Lib.hid this), hB3, by omega⟩
          case measure =>
            have e1 : wr.iterPos (g + 1 + 1 + 1 + 1) = k := by simp [World.iterPos, hI]
            rw [e1]
            simp only [World.iterPos, hI3]
            omega
        · by_cases h119 : (s[k]'hlt).toNat = 119
          · have hr119 : (s.data.toList.getD k 0).toNat = 119 := by rw [hgd]; exact h119
            cases hm : mayWork r p
            · rw [hm] at hmay
              rw [hmay] at hWk
              clear hgd hF hOt hmay
              have hRun2 := Lib.hid (runP_not hRun.out hr119 hm)
              have hCall := Lib.hid (hWk.out)
              have hcI : ((s[k]'hlt).toNat : Int) = 119 := by omega
              generalize hns : workStage (stageAt r p k) = ns at *
              clear hns hg
              obtain ⟨n0, n1, n2, n3⟩ := ns
              generalize hst : stageAt r p k = st0 at *
              have hST := Lib.hid hst
              clear hst
              obtain ⟨m0, m1, m2, m3⟩ := st0
              have hCall2 : Hid (Calls Try.prog 89 #[.agg #[.int .i64 m0, .int .i64 m1, .int .i64 m2, .int .i64 m3], .int .i32 ((s[k]'hlt).toNat : Int), .pointer (some ⟨g + 1 + 1, 0, none⟩)] W1 fun e w' => e = .returned (.tuple #[.agg #[.int .i64 n0, .int .i64 n1, .int .i64 n2, .int .i64 n3], .bool false]) ∧ Below W1.heap.size W1 w') := Lib.hid (by rw [hcI]; exact hCall.out)
              clear hcI hCall h46 h119 hr119 hWk
              simp only at c0 c1 c2 c3
              go_wp2_with (go_at_call 89; go_loud ((with_reducible refine (hCall2.out).mono ?_); rintro e W2 ⟨rfl, hb2⟩; have hB2 := Lib.hid (below_on hB1.out (Nat.le_of_eq hGg.out.symm) hb2); have hV1 := Lib.hid ((hU1.out.kept hb2).more (.cells #[.int .i64 n0, .int .i64 n1, .int .i64 n2, .int .i64 n3] 100)); have hz2 : g + 5 ≤ W2.heap.size := Nat.le_trans hz1 hb2.size; have q0 := hV1.out.at_ (i := 0) rfl; have q1 := hV1.out.at_ (i := 1) rfl; have q2 := hV1.out.at_ (i := 2) rfl; have q3 := hV1.out.at_ (i := 3) rfl; have z0 := hV1.out.free 0; have z1 := hV1.out.free 1; have z2 := hV1.out.free 2; have z3 := hV1.out.free 3; clear hb2 c0 c1 c2 c3))
              have hB3 := Lib.hid (below_four hB2.out (.cells #[.int .i64 n0, .int .i64 n1, .int .i64 n2, .int .i64 n3] 100) (g := g + 1) (by omega) (by omega) (.int .i64 0) (.int .i64 0) (.int .i64 0) (.int .i64 0))
              have hX1 := (((hV1.out.put 0 (.int .i64 0)).put 1 (.int .i64 0)).put 2 (.int .i64 0)).put 3 (.int .i64 0)
              have y0 := hX1.at_ (i := 0) rfl
              have y1 := hX1.at_ (i := 1) rfl
              have y2 := hX1.at_ (i := 2) rfl
              have y3 := hX1.at_ (i := 3) rfl
              have hR := Lib.hid (hNone.out (k + 1) _ (by omega) hRun2.out hB3.out)
              clear q0 q1 q2 q3 z0 z1 z2 z3 hX1
              exact bodyPost_ret (v := .tuple #[.agg #[.int .i64 0, .int .i64 0, .int .i64 0, .int .i64 0], .bool false]) (by simp [results, Try.results82, go_sem, y0, y1, y2, y3]) rfl hR.out
            · rw [hm] at hmay
              rw [hmay] at hWk
              clear hgd hF hOt hmay
              have hRun2 := Lib.hid (runP_work hRun.out hr119 hm)
              have hCall := Lib.hid (hWk.out)
              have hNew := Lib.hid (show workStage (stageAt r p k) = stageAt r _ (k + 1) from stage_work hg)
              have hcI : ((s[k]'hlt).toNat : Int) = 119 := by omega
              generalize hns : workStage (stageAt r p k) = ns at *
              clear hns hg
              obtain ⟨n0, n1, n2, n3⟩ := ns
              generalize hst : stageAt r p k = st0 at *
              have hST := Lib.hid hst
              clear hst
              obtain ⟨m0, m1, m2, m3⟩ := st0
              have hCall2 : Hid (Calls Try.prog 89 #[.agg #[.int .i64 m0, .int .i64 m1, .int .i64 m2, .int .i64 m3], .int .i32 ((s[k]'hlt).toNat : Int), .pointer (some ⟨g + 1 + 1, 0, none⟩)] W1 fun e w' => e = .returned (.tuple #[.agg #[.int .i64 n0, .int .i64 n1, .int .i64 n2, .int .i64 n3], .bool true]) ∧ Below W1.heap.size W1 w') := Lib.hid (by rw [hcI]; exact hCall.out)
              clear hcI hCall h46 h119 hr119 hWk
              simp only at c0 c1 c2 c3
              go_wp2_with (go_at_call 89; go_loud ((with_reducible refine (hCall2.out).mono ?_); rintro e W2 ⟨rfl, hb2⟩; have hB2 := Lib.hid (below_on hB1.out (Nat.le_of_eq hGg.out.symm) hb2); have hV1 := Lib.hid (hU1.out.kept hb2); have hV2 := Lib.hid (hU2.out.kept hb2); have hV3 := Lib.hid ((hU3.out.kept hb2).more (.cells #[.int .i64 n0, .int .i64 n1, .int .i64 n2, .int .i64 n3] 100)); have hI2 := Lib.hid ((hb2.block (g + 1 + 1 + 1 + 1) (by omega)).trans hI1.out); have hz2 : g + 5 ≤ W2.heap.size := Nat.le_trans hz1 hb2.size; have q0 := hV3.out.at_ (i := 0) rfl; have q1 := hV3.out.at_ (i := 1) rfl; have q2 := hV3.out.at_ (i := 2) rfl; have q3 := hV3.out.at_ (i := 3) rfl; have z0 := hV3.out.free 0; have z1 := hV3.out.free 1; have z2 := hV3.out.free 2; have z3 := hV3.out.free 3; clear hb2 c0 c1 c2 c3))
              have hX3 := Lib.hid ((((hV3.out.put 0 (.int .i64 n0)).put 1 (.int .i64 n1)).put 2 (.int .i64 n2)).put 3 (.int .i64 n3))
              have hX1 := Lib.hid (((((hV1.out.more (.cells #[.int .i64 n0, .int .i64 n1, .int .i64 n2, .int .i64 n3] 100)).apart (p := ⟨g + 1 + 1 + 1, 0, none⟩) (by show g + 1 ≠ g + 1 + 1 + 1; omega) (.int .i64 n0)).apart (p := ⟨g + 1 + 1 + 1, 1, none⟩) (by show g + 1 ≠ g + 1 + 1 + 1; omega) (.int .i64 n1)).apart (p := ⟨g + 1 + 1 + 1, 2, none⟩) (by show g + 1 ≠ g + 1 + 1 + 1; omega) (.int .i64 n2)).apart (p := ⟨g + 1 + 1 + 1, 3, none⟩) (by show g + 1 ≠ g + 1 + 1 + 1; omega) (.int .i64 n3))
              have hX2 := Lib.hid (((((hV2.out.more (.cells #[.int .i64 n0, .int .i64 n1, .int .i64 n2, .int .i64 n3] 100)).apart (p := ⟨g + 1 + 1 + 1, 0, none⟩) (by show g + 1 + 1 ≠ g + 1 + 1 + 1; omega) (.int .i64 n0)).apart (p := ⟨g + 1 + 1 + 1, 1, none⟩) (by show g + 1 + 1 ≠ g + 1 + 1 + 1; omega) (.int .i64 n1)).apart (p := ⟨g + 1 + 1 + 1, 2, none⟩) (by show g + 1 + 1 ≠ g + 1 + 1 + 1; omega) (.int .i64 n2)).apart (p := ⟨g + 1 + 1 + 1, 3, none⟩) (by show g + 1 + 1 ≠ g + 1 + 1 + 1; omega) (.int .i64 n3))
              have hI3 := iter_four hI2.out (.cells #[.int .i64 n0, .int .i64 n1, .int .i64 n2, .int .i64 n3] 100) (g := g + 1 + 1 + 1) (by omega) (.int .i64 n0) (.int .i64 n1) (.int .i64 n2) (.int .i64 n3)
              have hB3 := Lib.hid (below_four hB2.out (.cells #[.int .i64 n0, .int .i64 n1, .int .i64 n2, .int .i64 n3] 100) (g := g + 1 + 1 + 1) (by omega) (by omega) (.int .i64 n0) (.int .i64 n1) (.int .i64 n2) (.int .i64 n3))
              have hz3 := size_four W2 (.cells #[.int .i64 n0, .int .i64 n1, .int .i64 n2, .int .i64 n3] 100) (g + 1 + 1 + 1) (.int .i64 n0) (.int .i64 n1) (.int .i64 n2) (.int .i64 n3)
              have hC3 : Hid (#[Value.int .i64 n0, .int .i64 n1, .int .i64 n2, .int .i64 n3] = (stageAt r _ (k + 1)).cells) := Lib.hid (by rw [← hNew.out]; rfl)
              clear q0 q1 q2 q3 z0 z1 z2 z3
              go_roundw
              case rel => exact ⟨k + 1, _, by omega, hRun2, hI3, hX1, hX2, (by have := hX3.out; rw [← hC3.out]; exact Lib.hid this), hB3, by omega⟩
              case measure =>
                have e1 : wr.iterPos (g + 1 + 1 + 1 + 1) = k := by simp [World.iterPos, hI]
                rw [e1]
                simp only [World.iterPos, hI3]
                omega
          · have hr1 : ¬ (s.data.toList.getD k 0).toNat = 46 := by rw [hgd]; exact h46
            have hr2 : ¬ (s.data.toList.getD k 0).toNat = 119 := by rw [hgd]; exact h119
            clear hgd hF hWk hmay
            have hRun2 := Lib.hid (runP_bad hRun.out hr1 hr2)
            have hCall := Lib.hid (hOt.out ((s[k]'hlt).toNat : Int) (by omega) (by omega))
            generalize hns : (StageD.mk ((stageAt r p k).left - 1) (stageAt r p k).worked (stageAt r p k).row (stageAt r p k).pause) = ns at *
            clear hns hg
            obtain ⟨n0, n1, n2, n3⟩ := ns
            generalize hst : stageAt r p k = st0 at *
            have hST := Lib.hid hst
            clear hst
            obtain ⟨m0, m1, m2, m3⟩ := st0
            have hCall2 : Hid (Calls Try.prog 89 #[.agg #[.int .i64 m0, .int .i64 m1, .int .i64 m2, .int .i64 m3], .int .i32 ((s[k]'hlt).toNat : Int), .pointer (some ⟨g + 1 + 1, 0, none⟩)] W1 fun e w' => e = .returned (.tuple #[.agg #[.int .i64 n0, .int .i64 n1, .int .i64 n2, .int .i64 n3], .bool false]) ∧ Below W1.heap.size W1 w') := Lib.hid (by exact hCall.out)
            clear hCall hr1 hr2 hOt
            simp only at c0 c1 c2 c3
            go_wp2_with (go_at_call 89; go_loud ((with_reducible refine (hCall2.out).mono ?_); rintro e W2 ⟨rfl, hb2⟩; have hB2 := Lib.hid (below_on hB1.out (Nat.le_of_eq hGg.out.symm) hb2); have hV1 := Lib.hid ((hU1.out.kept hb2).more (.cells #[.int .i64 n0, .int .i64 n1, .int .i64 n2, .int .i64 n3] 100)); have hz2 : g + 5 ≤ W2.heap.size := Nat.le_trans hz1 hb2.size; have q0 := hV1.out.at_ (i := 0) rfl; have q1 := hV1.out.at_ (i := 1) rfl; have q2 := hV1.out.at_ (i := 2) rfl; have q3 := hV1.out.at_ (i := 3) rfl; have z0 := hV1.out.free 0; have z1 := hV1.out.free 1; have z2 := hV1.out.free 2; have z3 := hV1.out.free 3; clear hb2 c0 c1 c2 c3))
            have hB3 := Lib.hid (below_four hB2.out (.cells #[.int .i64 n0, .int .i64 n1, .int .i64 n2, .int .i64 n3] 100) (g := g + 1) (by omega) (by omega) (.int .i64 0) (.int .i64 0) (.int .i64 0) (.int .i64 0))
            have hX1 := (((hV1.out.put 0 (.int .i64 0)).put 1 (.int .i64 0)).put 2 (.int .i64 0)).put 3 (.int .i64 0)
            have y0 := hX1.at_ (i := 0) rfl
            have y1 := hX1.at_ (i := 1) rfl
            have y2 := hX1.at_ (i := 2) rfl
            have y3 := hX1.at_ (i := 3) rfl
            have hR := Lib.hid (hNone.out (k + 1) _ (by omega) hRun2.out hB3.out)
            clear q0 q1 q2 q3 z0 z1 z2 z3 hX1
            exact bodyPost_ret (v := .tuple #[.agg #[.int .i64 0, .int .i64 0, .int .i64 0, .int .i64 0], .bool false]) (by simp [results, Try.results82, go_sem, y0, y1, y2, y3]) rfl hR.out
      · have hnx : ∀ ty, (Instr.next (.pointer (some ⟨g + 1 + 1 + 1 + 1, 0, none⟩)) true ty).run Try.prog wr = _ := fun ty => Lib.run_next_any_at wr (g + 1 + 1 + 1 + 1) s k ty hI hlt
        have hd := (decode_high s k hlt (by omega)).1
        have hr1 : ¬ (s.data.toList.getD k 0).toNat = 46 := by rw [hgd]; omega
        have hr2 : ¬ (s.data.toList.getD k 0).toNat = 119 := by rw [hgd]; omega
        generalize k + (Utf8.decode s k).2 = k2 at *
        have hB1 := Lib.hid (Lib.below_iterAt hB.out (k := g + 1 + 1 + 1 + 1) (by omega) s k2)
        have hU1 := Lib.hid (whole_iterAt hT1.out (k := g + 1 + 1 + 1 + 1) (by omega) s k2)
        have hU3 := Lib.hid (whole_iterAt hT3.out (k := g + 1 + 1 + 1 + 1) (by omega) s k2)
        have hz1 : g + 5 ≤ (wr.iterAt (g + 1 + 1 + 1 + 1) s k2).heap.size := by rw [Lib.iterAt_size]; exact hz
        clear hT1 hT2 hT3 hB hz
        generalize wr.iterAt (g + 1 + 1 + 1 + 1) s k2 = W1 at *
        have hOt := Lib.hid (fun c h1 h2 => hStepO.out p k c h1 h2 hg (by omega) (g + 1 + 1) W1)
        have c0 : W1.cell? ⟨g + 1 + 1 + 1, 0, none⟩ = some (.int .i64 (stageAt r p k).left) := hU3.out.at_ (i := 0) rfl
        have c1 : W1.cell? ⟨g + 1 + 1 + 1, 1, none⟩ = some (.int .i64 (stageAt r p k).worked) := hU3.out.at_ (i := 1) rfl
        have c2 : W1.cell? ⟨g + 1 + 1 + 1, 2, none⟩ = some (.int .i64 (stageAt r p k).row) := hU3.out.at_ (i := 2) rfl
        have c3 : W1.cell? ⟨g + 1 + 1 + 1, 3, none⟩ = some (.int .i64 (stageAt r p k).pause) := hU3.out.at_ (i := 3) rfl
        have hd46 : ¬ ((Utf8.decode s k).1 : Int) = 46 := by omega
        have hd119 : ¬ ((Utf8.decode s k).1 : Int) = 119 := by omega
        clear hgd hd
        have hRun2 := Lib.hid (runP_bad hRun.out hr1 hr2)
        have hCall := Lib.hid (hOt.out ((Utf8.decode s k).1 : Int) hd46 hd119)
        generalize hns : (StageD.mk ((stageAt r p k).left - 1) (stageAt r p k).worked (stageAt r p k).row (stageAt r p k).pause) = ns at *
        clear hns hg
        obtain ⟨n0, n1, n2, n3⟩ := ns
        generalize hst : stageAt r p k = st0 at *
        have hST := Lib.hid hst
        clear hst
        obtain ⟨m0, m1, m2, m3⟩ := st0
        have hCall2 : Hid (Calls Try.prog 89 #[.agg #[.int .i64 m0, .int .i64 m1, .int .i64 m2, .int .i64 m3], .int .i32 ((Utf8.decode s k).1 : Int), .pointer (some ⟨g + 1 + 1, 0, none⟩)] W1 fun e w' => e = .returned (.tuple #[.agg #[.int .i64 n0, .int .i64 n1, .int .i64 n2, .int .i64 n3], .bool false]) ∧ Below W1.heap.size W1 w') := Lib.hid (by exact hCall.out)
        clear hCall hr1 hr2 hOt
        simp only at c0 c1 c2 c3
        go_wp2_with (go_at_call 89; go_loud ((with_reducible refine (hCall2.out).mono ?_); rintro e W2 ⟨rfl, hb2⟩; have hB2 := Lib.hid (below_on hB1.out (Nat.le_of_eq hGg.out.symm) hb2); have hV1 := Lib.hid ((hU1.out.kept hb2).more (.cells #[.int .i64 n0, .int .i64 n1, .int .i64 n2, .int .i64 n3] 100)); have hz2 : g + 5 ≤ W2.heap.size := Nat.le_trans hz1 hb2.size; have q0 := hV1.out.at_ (i := 0) rfl; have q1 := hV1.out.at_ (i := 1) rfl; have q2 := hV1.out.at_ (i := 2) rfl; have q3 := hV1.out.at_ (i := 3) rfl; have z0 := hV1.out.free 0; have z1 := hV1.out.free 1; have z2 := hV1.out.free 2; have z3 := hV1.out.free 3; clear hb2 c0 c1 c2 c3))
        have hB3 := Lib.hid (below_four hB2.out (.cells #[.int .i64 n0, .int .i64 n1, .int .i64 n2, .int .i64 n3] 100) (g := g + 1) (by omega) (by omega) (.int .i64 0) (.int .i64 0) (.int .i64 0) (.int .i64 0))
        have hX1 := (((hV1.out.put 0 (.int .i64 0)).put 1 (.int .i64 0)).put 2 (.int .i64 0)).put 3 (.int .i64 0)
        have y0 := hX1.at_ (i := 0) rfl
        have y1 := hX1.at_ (i := 1) rfl
        have y2 := hX1.at_ (i := 2) rfl
        have y3 := hX1.at_ (i := 3) rfl
        have hR := Lib.hid (hNone.out (k + 1) _ (by omega) hRun2.out hB3.out)
        clear q0 q1 q2 q3 z0 z1 z2 z3 hX1
        exact bodyPost_ret (v := .tuple #[.agg #[.int .i64 0, .int .i64 0, .int .i64 0, .int .i64 0], .bool false]) (by simp [results, Try.results82, go_sem, y0, y1, y2, y3]) rfl hR.out
    · have hnx : ∀ ty, (Instr.next (.pointer (some ⟨g + 1 + 1 + 1 + 1, 0, none⟩)) true ty).run Try.prog wr = _ := fun ty => Lib.run_next_end_at wr (g + 1 + 1 + 1 + 1) s k ty hI hlt
      have hS2 := Lib.hid (fun w' hb => hSome.out k p w' (by omega) hRun.out hb)
      have c0 : wr.cell? ⟨g + 1 + 1 + 1, 0, none⟩ = some (.int .i64 (stageAt r p k).left) := hT3.out.at_ (i := 0) rfl
      have c1 : wr.cell? ⟨g + 1 + 1 + 1, 1, none⟩ = some (.int .i64 (stageAt r p k).worked) := hT3.out.at_ (i := 1) rfl
      have c2 : wr.cell? ⟨g + 1 + 1 + 1, 2, none⟩ = some (.int .i64 (stageAt r p k).row) := hT3.out.at_ (i := 2) rfl
      have c3 : wr.cell? ⟨g + 1 + 1 + 1, 3, none⟩ = some (.int .i64 (stageAt r p k).pause) := hT3.out.at_ (i := 3) rfl
      generalize stageAt r p k = ns at *
      obtain ⟨n0, n1, n2, n3⟩ := ns
      simp only at c0 c1 c2 c3
      have q0 := hT1.out.at_ (i := 0) rfl
      have q1 := hT1.out.at_ (i := 1) rfl
      have q2 := hT1.out.at_ (i := 2) rfl
      have q3 := hT1.out.at_ (i := 3) rfl
      have z0 := hT1.out.free 0
      have z1 := hT1.out.free 1
      have z2 := hT1.out.free 2
      have z3 := hT1.out.free 3
      clear hg
      go_wp2_with fail
      have hX1 := (((hT1.out.put 0 (.int .i64 n0)).put 1 (.int .i64 n1)).put 2 (.int .i64 n2)).put 3 (.int .i64 n3)
      have y0 := hX1.at_ (i := 0) rfl
      have y1 := hX1.at_ (i := 1) rfl
      have y2 := hX1.at_ (i := 2) rfl
      have y3 := hX1.at_ (i := 3) rfl
      have hB3 := Lib.hid (below_fours hB.out (g := g + 1) (by omega) (.int .i64 n0) (.int .i64 n1) (.int .i64 n2) (.int .i64 n3))
      have hR := Lib.hid (hS2.out _ hB3.out)
      clear q0 q1 q2 q3 z0 z1 z2 z3 hX1 c0 c1 c2 c3
      exact bodyPost_ret (v := .tuple #[.agg #[.int .i64 n0, .int .i64 n1, .int .i64 n2, .int .i64 n3], .bool true]) (by simp [results, Try.results82, go_sem, y0, y1, y2, y3]) rfl hR.out
end Go.Proofs.Ytcpfiledegnlpaa
