/- What is saved (a name, tasks, starts): a word for it, and contracts of the law's own functions on it (measured, copied, compared). -/
import Derived.Test.YtdggbjpfllnenaaTaskFns
import Derived.Test.YtdggbjpfllnenaaTasks
import Derived.Test.YtdggbjpfllnenaaName7
import Derived.Test.YtdggbjpfllnenaaNear
import Derived.Deep.RegionHeld3
namespace Go.Proofs.Ytdggbjpfllnenaa
open Go.RowKit Go.Lst

structure SavedD where
  name : ByteArray
  tasks : List TaskD
  starts : List Int
def SavedD.wf (d : SavedD) : Prop := d.name.size ≤ maxLen ∧ (∀ y ∈ d.tasks, y.wf) ∧ ∀ y ∈ d.starts, (Lit.int .i64 y).wf = true
@[reducible] def savedV (nm : ByteArray) (vt vs : Value) : Value := .agg #[.string nm, vt, vs]
/-- The value is such a one, whose lists lie below B. -/
def LstSaved (B : Nat) (w : World) (V : Value) (d : SavedD) : Prop := ∃ vt vs, V = savedV d.name vt vs ∧ LstTask B w vt d.tasks ∧ LstI B w vs d.starts
theorem LstSaved.below {B B' : Nat} {w w' : World} {V : Value} {d : SavedD} (h : LstSaved B w V d) (hb : Below B' w w') (hB : B ≤ B') : LstSaved B w' V d := by
  obtain ⟨vt, vs, rfl, ht, hs⟩ := h
  exact ⟨vt, vs, rfl, ht.below hb hB, hs.below hb hB⟩
theorem LstSaved.mono {B B' : Nat} {w : World} {V : Value} {d : SavedD} (h : LstSaved B w V d) (hB : B ≤ B') : LstSaved B' w V d := by
  obtain ⟨vt, vs, rfl, ht, hs⟩ := h
  exact ⟨vt, vs, rfl, ht.mono hB, hs.mono hB⟩
def szV (nn nt ns : Nat) : Int := if (1048576 : Int) < nn then -1 else if (1048576 : Int) - nn < nt then -1 else if (1048576 : Int) - nn - nt < ns then -1 else (1048576 : Int) - nn - nt - ns
theorem szV_fits {nn nt ns : Nat} (h : ¬ szV nn nt ns < 0) : nt ≤ 1048576 ∧ ns ≤ 1048576 := by
  unfold szV at h
  by_cases h1 : (1048576 : Int) < nn
  · rw [if_pos h1] at h; omega
  · rw [if_neg h1] at h
    by_cases h2 : (1048576 : Int) - nn < nt
    · rw [if_pos h2] at h; omega
    · rw [if_neg h2] at h
      by_cases h3 : (1048576 : Int) - nn - nt < ns
      · rw [if_pos h3] at h; omega
      · omega
theorem szV_le (nn nt ns : Nat) : szV nn nt ns ≤ 1048576 ∧ -1 ≤ szV nn nt ns := by
  unfold szV
  repeat (split; omega)
  omega
set_option maxHeartbeats 2000000 in
theorem szSaved_any (B : Nat) (V : Value) (d : SavedD) (w : World) (h : LstSaved B w V d) (hB : B ≤ w.heap.size) (hp : d.name.size ≤ maxLen) :
    Calls Try.prog 4 #[V, .int .i64 1048576] w fun e w' => e = .returned (.int .i64 (szV d.name.size (tsz d.tasks) d.starts.length)) ∧ Below w.heap.size w w' := by
  obtain ⟨vt, vs, rfl, ht, hs⟩ := h
  have hT1 := Lib.hid (fun w' (hb : Below w.heap.size w w') left h0 h1 => szTaskS_fits B vt d.tasks left w' (ht.below hb hB) (Nat.le_trans hB hb.size) h0 h1)
  have hT2 := Lib.hid (fun w' (hb : Below w.heap.size w w') left h0 h1 h2 => szTaskS_over B vt d.tasks left w' (ht.below hb hB) (Nat.le_trans hB hb.size) h0 h1 h2)
  obtain ⟨a1, c1, rfl, l1, -⟩ := ht
  obtain ⟨a2, c2, rfl, l2, -⟩ := hs
  have m2 := l2
  generalize d.tasks.length = n1 at *
  generalize d.starts.length = n2 at *
  generalize d.name = nm at *
  generalize tsz d.tasks = z at *
  unfold szV
  unfold maxLen at l1 l2 hp
  have hb0 := Lib.hid (below_alloc (Below.refl w.heap.size w) (.cells #[.string nm, .slice a1 n1 c1, .slice a2 n2 c2] 25))
  have hX := Lib.hid (Whole.made w 25 #[.string nm, .slice a1 n1 c1, .slice a2 n2 c2] (b := w.heap.size) rfl)
  by_cases e1 : (1048576 : Int) < nm.size
  · rw [if_pos e1]
    go_enter Try.func4, Try.ntmps4
    go_wp2_with fail
    go_ret
    exact ⟨rfl, hb0.out⟩
  rw [if_neg e1]
  by_cases e2 : (1048576 : Int) - nm.size < z
  · rw [if_pos e2]
    have hC := Lib.hid (hT2.out _ hb0.out ((1048576 : Int) - nm.size) e2 (by omega) (by omega))
    clear hT1 hT2 hX
    go_enter Try.func4, Try.ntmps4
    go_wp2_with (go_at_call 9; (with_reducible refine (hC.out).mono ?_); rintro e w' ⟨rfl, hb⟩; have hB1 := Lib.hid (below_on hb0.out (Nat.le_refl _) hb); clear hb)
    go_ret
    exact ⟨rfl, hB1.out⟩
  rw [if_neg e2]
  have hC := Lib.hid (hT1.out _ hb0.out ((1048576 : Int) - nm.size) (by omega) (by omega))
  clear hT1 hT2
  by_cases e3 : (1048576 : Int) - nm.size - z < n2
  · rw [if_pos e3]
    have hD := Lib.hid (fun w => szInt64S_over a2 n2 c2 ((1048576 : Int) - nm.size - z) w e3 (by omega) m2 (by omega))
    go_enter Try.func4, Try.ntmps4
    go_wp2_with (first | (go_at_call 9; (with_reducible refine (hC.out).mono ?_); rintro e w' ⟨rfl, hb⟩; have hB1 := Lib.hid (below_on hb0.out (Nat.le_refl _) hb); have hX1 := Lib.hid (hX.out.kept hb); have x2 := hX1.out.at_ (i := 2) rfl; clear hb) | (go_at_call 10; (with_reducible refine (hD.out _).mono ?_); rintro e w' ⟨rfl, rfl⟩))
    go_ret
    exact ⟨rfl, hB1.out⟩
  rw [if_neg e3]
  have hD := Lib.hid (fun w => szInt64S_fits a2 n2 c2 ((1048576 : Int) - nm.size - z) w (by omega) (by omega))
  go_enter Try.func4, Try.ntmps4
  go_wp2_with (first | (go_at_call 9; (with_reducible refine (hC.out).mono ?_); rintro e w' ⟨rfl, hb⟩; have hB1 := Lib.hid (below_on hb0.out (Nat.le_refl _) hb); have hX1 := Lib.hid (hX.out.kept hb); have x2 := hX1.out.at_ (i := 2) rfl; clear hb) | (go_at_call 10; (with_reducible refine (hD.out _).mono ?_); rintro e w' ⟨rfl, rfl⟩))
  go_ret
  exact ⟨rfl, hB1.out⟩
set_option maxHeartbeats 4000000 in
set_option maxRecDepth 100000 in
theorem toSavedD_any (B : Nat) (V : Value) (d : SavedD) (w : World) (h : LstSaved B w V d) (h1 : tsz d.tasks ≤ 1048576) (h2 : d.starts.length ≤ 1048576) (hB : B ≤ w.heap.size) :
    Calls Try.prog 6 #[V] w fun e w' => ∃ U, e = .returned U ∧ (∀ w'' : World, (∀ g, w.heap.size ≤ g → g < w'.heap.size → w''.heap[g]? = w'.heap[g]?) → LstSaved w'.heap.size w'' U d) ∧ Below w.heap.size w w' := by
  obtain ⟨vt, vs, rfl, ht, hs⟩ := h
  have hJ := Lib.hid (fun w' (hb : Below w.heap.size w w') => copiedTask w.heap.size vt d.tasks w' ((ht.mono hB).below hb (Nat.le_refl _)) hb.size h1)
  have hC := Lib.hid (fun w' (hb : Below w.heap.size w w') => copiedI w.heap.size vs d.starts w' ((hs.mono hB).below hb (Nat.le_refl _)) hb.size h2)
  have hMk : Hid (∀ ut us w', (∀ w'' : World, (∀ g, w.heap.size ≤ g → g < w'.heap.size → w''.heap[g]? = w'.heap[g]?) → LstTask w'.heap.size w'' ut d.tasks ∧ LstI w'.heap.size w'' us d.starts) → Below w.heap.size w w' → ∃ U, Ending.returned (savedV d.name ut us) = .returned U ∧ (∀ w'' : World, (∀ g, w.heap.size ≤ g → g < w'.heap.size → w''.heap[g]? = w'.heap[g]?) → LstSaved w'.heap.size w'' U d) ∧ Below w.heap.size w w') := Lib.hid fun ut us w' a c => ⟨_, rfl, fun w'' hs => ⟨ut, us, rfl, (a w'' hs).1, (a w'' hs).2⟩, c⟩
  have hOt : Hid (∀ (A B' : Nat) W v, OwnTask A B' W v d.tasks → ∃ a c, v = .slice a d.tasks.length c) := Lib.hid fun A B' W v h => by
    obtain ⟨a, c, rfl, -⟩ := h.lst (Nat.le_refl _)
    exact ⟨a, c, rfl⟩
  obtain ⟨a1, c1, rfl, -⟩ := ht
  obtain ⟨a2, c2, rfl, -⟩ := hs
  generalize hTs : d.tasks = ts at *
  generalize hSs : d.starts = ss at *
  generalize d.name = nm at *
  generalize ts.length = n1 at *
  clear h1 h2 hTs
  have E0 := Lib.hid (((Whole.made w 25 #[.string nm, .slice a1 n1 c1, .slice a2 ss.length c2] (b := w.heap.size) rfl).more (.cells #[.string ⟨#[]⟩, .slice none 0 0, .slice none 0 0] 31)).more (.cells #[.string nm, .slice none 0 0, .slice none 0 0] 31))
  have E1 := Lib.hid ((Whole.made (w.alloc (.cells #[.string nm, .slice a1 n1 c1, .slice a2 ss.length c2] 25)) 31 #[.string ⟨#[]⟩, .slice none 0 0, .slice none 0 0] (b := w.heap.size + 1) (by simp)).more (.cells #[.string nm, .slice none 0 0, .slice none 0 0] 31))
  have E2 := Lib.hid (Whole.made ((w.alloc (.cells #[.string nm, .slice a1 n1 c1, .slice a2 ss.length c2] 25)).alloc (.cells #[.string ⟨#[]⟩, .slice none 0 0, .slice none 0 0] 31)) 31 #[.string nm, .slice none 0 0, .slice none 0 0] (b := w.heap.size + 1 + 1) (by simp))
  have B3 := Lib.hid (below_alloc (below_alloc (below_alloc (Below.refl w.heap.size w) (.cells #[.string nm, .slice a1 n1 c1, .slice a2 ss.length c2] 25)) (.cells #[.string ⟨#[]⟩, .slice none 0 0, .slice none 0 0] 31)) (.cells #[.string nm, .slice none 0 0, .slice none 0 0] 31))
  go_enter Try.func6, Try.ntmps6
  go_wp2_with fail
  generalize ((w.alloc (.cells #[.string nm, .slice a1 n1 c1, .slice a2 ss.length c2] 25)).alloc (.cells #[.string ⟨#[]⟩, .slice none 0 0, .slice none 0 0] 31)).alloc (.cells #[.string nm, .slice none 0 0, .slice none 0 0] 31) = w3 at *
  have hg3 := Lib.hid (show w.heap.size + 1 + 1 < w3.heap.size from E2.out.size)
  refine (hJ.out w3 B3.out).mono ?_
  rintro e w4 ⟨ut, rfl, ot, b4⟩
  obtain ⟨at1, ct1, rfl⟩ := hOt.out _ _ _ _ ot
  have X0 := Lib.hid (E0.out.kept b4)
  have X1 := Lib.hid (E1.out.kept b4)
  have X2 := Lib.hid (E2.out.kept b4)
  have B4 := Lib.hid (below_on B3.out (Nat.le_refl _) b4)
  have hs4 := Lib.hid b4.size
  have T4 := Lib.hid ot
  clear ot b4 E0 E1 E2 B3 hJ
  have z1 := X2.out.at_ (i := 1) rfl
  have y1 := X2.out.free 1
  have X2a := Lib.hid (show Whole (w4.setCell ⟨w.heap.size + 1 + 1, 1, none⟩ (.slice at1 n1 ct1)) (w.heap.size + 1 + 1) 31 #[.string nm, .slice at1 n1 ct1, .slice none 0 0] from X2.out.put 1 (.slice at1 n1 ct1))
  have X0a := Lib.hid (X0.out.apart (p := ⟨w.heap.size + 1 + 1, 1, none⟩) (show w.heap.size ≠ w.heap.size + 1 + 1 by omega) (.slice at1 n1 ct1))
  have X1a := Lib.hid (X1.out.apart (p := ⟨w.heap.size + 1 + 1, 1, none⟩) (show w.heap.size + 1 ≠ w.heap.size + 1 + 1 by omega) (.slice at1 n1 ct1))
  have B4a := Lib.hid (B4.out.setCell (p := ⟨w.heap.size + 1 + 1, 1, none⟩) (show w.heap.size ≤ w.heap.size + 1 + 1 by omega) (.slice at1 n1 ct1))
  have T4a := Lib.hid (T4.out.same (w' := w4.setCell ⟨w.heap.size + 1 + 1, 1, none⟩ (.slice at1 n1 ct1)) fun g h1 _ => Below.heap_setCell w4 ⟨w.heap.size + 1 + 1, 1, none⟩ _ g (by have := hg3.out; show g ≠ w.heap.size + 1 + 1; omega))
  have hs4a := Lib.hid (show w4.heap.size ≤ (w4.setCell ⟨w.heap.size + 1 + 1, 1, none⟩ (.slice at1 n1 ct1)).heap.size by rw [World.size_setCell]; exact Nat.le_refl _)
  have c2a := X0a.out.at_ (i := 2) rfl
  clear X0 X1 X2 B4 T4
  go_wp2_with fail
  generalize w4.setCell ⟨w.heap.size + 1 + 1, 1, none⟩ (.slice at1 n1 ct1) = w5 at *
  refine (hC.out w5 B4a.out).mono ?_
  rintro e w6 ⟨us, rfl, os, b6⟩
  have hsl : ∃ a c, us = .slice a ss.length c := by
    obtain ⟨a, c, rfl, -⟩ := os.lstI (Nat.le_refl _)
    exact ⟨a, c, rfl⟩
  obtain ⟨as1, cs1, rfl⟩ := hsl
  have X1 := Lib.hid (X1a.out.kept b6)
  have X2 := Lib.hid (X2a.out.kept b6)
  have B6 := Lib.hid (below_on B4a.out (Nat.le_refl _) b6)
  have T6 := Lib.hid (T4a.out.below b6 hs4a.out)
  have S6 := Lib.hid os
  have hs6 := Lib.hid (Nat.le_trans hs4a.out b6.size)
  have h56 := Lib.hid (show w4.heap.size ≤ w5.heap.size from hs4a.out)
  have h46 := hs4.out
  clear os b6 X0a X1a X2a B4a T4a hs4a z1 y1 c2a hC
  have z2 := X2.out.at_ (i := 2) rfl
  have y2 := X2.out.free 2
  obtain ⟨w7, hw7⟩ : ∃ W, W = w6.setCell ⟨w.heap.size + 1 + 1, 2, none⟩ (.slice as1 ss.length cs1) := ⟨_, rfl⟩
  have X2b := Lib.hid (show Whole w7 (w.heap.size + 1 + 1) 31 #[.string nm, .slice at1 n1 ct1, .slice as1 ss.length cs1] by rw [hw7]; exact X2.out.put 2 (.slice as1 ss.length cs1))
  have X1b := Lib.hid (show Whole w7 (w.heap.size + 1) 31 #[.string ⟨#[]⟩, .slice none 0 0, .slice none 0 0] by rw [hw7]; exact X1.out.apart (p := ⟨w.heap.size + 1 + 1, 2, none⟩) (show w.heap.size + 1 ≠ w.heap.size + 1 + 1 by omega) _)
  have B7 := Lib.hid (show Below w.heap.size w w7 by rw [hw7]; exact B6.out.setCell (p := ⟨w.heap.size + 1 + 1, 2, none⟩) (show w.heap.size ≤ w.heap.size + 1 + 1 by omega) _)
  have T7 := Lib.hid (T6.out.same (w' := w7) fun g h1 _ => by rw [hw7]; exact Below.heap_setCell w6 ⟨w.heap.size + 1 + 1, 2, none⟩ _ g (by have := hg3.out; show g ≠ w.heap.size + 1 + 1; omega))
  have S7 := Lib.hid (S6.out.same (w' := w7) fun g h1 _ => by rw [hw7]; exact Below.heap_setCell w6 ⟨w.heap.size + 1 + 1, 2, none⟩ _ g (by have := hg3.out; have := h56.out; show g ≠ w.heap.size + 1 + 1; omega))
  have hs7 := Lib.hid (show w6.heap.size = w7.heap.size by rw [hw7, World.size_setCell])
  have e0 := X2b.out.at_ (i := 0) rfl
  have e1 := X2b.out.at_ (i := 1) rfl
  have e2 := X2b.out.at_ (i := 2) rfl
  have v0 := X1b.out.at_ (i := 0) rfl
  have v1 := X1b.out.at_ (i := 1) rfl
  have v2 := X1b.out.at_ (i := 2) rfl
  have q0 := X1b.out.free 0
  have q1 := X1b.out.free 1
  have q2 := X1b.out.free 2
  rw [hw7] at e0 e1 e2 v0 v1 v2 q0 q1 q2
  have hW7 := Lib.hid hw7
  clear hw7 X1 X2 B6 T6 S6 X2b
  go_wp2_with fail
  rw [← hW7.out]
  clear e0 e1 e2 v0 v1 v2 q0 q1 q2 hW7
  obtain ⟨w8, hw8⟩ : ∃ W, W = ((w7.setCell ⟨w.heap.size + 1, 0, none⟩ (.string nm)).setCell ⟨w.heap.size + 1, 1, none⟩ (.slice at1 n1 ct1)).setCell ⟨w.heap.size + 1, 2, none⟩ (.slice as1 ss.length cs1) := ⟨_, rfl⟩
  have X8 : Whole w8 (w.heap.size + 1) 31 #[.string nm, .slice at1 n1 ct1, .slice as1 ss.length cs1] := by
    rw [hw8]
    exact ((X1b.out.put 0 (.string nm)).put 1 (.slice at1 n1 ct1)).put 2 (.slice as1 ss.length cs1)
  have B8 : Below w.heap.size w w8 := by
    rw [hw8]
    exact ((B7.out.setCell (p := ⟨w.heap.size + 1, 0, none⟩) (Nat.le_succ _) _).setCell (p := ⟨w.heap.size + 1, 1, none⟩) (Nat.le_succ _) _).setCell (p := ⟨w.heap.size + 1, 2, none⟩) (Nat.le_succ _) _
  have same : ∀ g, w3.heap.size ≤ g → w8.heap[g]? = w7.heap[g]? := fun g hg => by
    have := hg3.out
    rw [hw8, Below.heap_setCell _ _ _ g (by show g ≠ w.heap.size + 1; omega), Below.heap_setCell _ _ _ g (by show g ≠ w.heap.size + 1; omega), Below.heap_setCell _ _ _ g (by show g ≠ w.heap.size + 1; omega)]
  have hs8 : w7.heap.size = w8.heap.size := by rw [hw8]; simp
  have h34 : w3.heap.size ≤ w4.heap.size := h46
  have T8 := T7.out.same (w' := w8) fun g h1 _ => same g h1
  have S8 := S7.out.same (w' := w8) fun g h1 _ => same g (by have := h56.out; omega)
  have hF := hMk.out _ _ w8 (fun w'' hsm => ⟨(T8.same (w' := w'') fun g h1 h2 => hsm g (by have := hg3.out; omega) (by have := hs6.out; have := hs7.out; omega)).lst (by have := hs6.out; have := hs7.out; omega), (S8.same (w' := w'') fun g h1 h2 => hsm g (by have := hg3.out; have := h56.out; omega) (by have := hs7.out; omega)).lstI (by have := hs7.out; omega)⟩) B8
  have x0 := X8.at_ (i := 0) rfl
  have x1 := X8.at_ (i := 1) rfl
  have x2 := X8.at_ (i := 2) rfl
  rw [← hw8]
  exact bodyPost_ret (v := savedV nm (.slice at1 n1 ct1) (.slice as1 ss.length cs1)) (by simp [results, Try.results6, go_sem, x0, x1, x2]) rfl hF
theorem toSaved_any (B : Nat) (V : Value) (d : SavedD) (w : World) (h : LstSaved B w V d) (h1 : tsz d.tasks ≤ 1048576) (h2 : d.starts.length ≤ 1048576) (hB : B ≤ w.heap.size) :
    Calls Try.prog 6 #[V] w fun e w' => ∃ U, e = .returned U ∧ LstSaved w'.heap.size w' U d ∧ Below w.heap.size w w' :=
  (toSavedD_any B V d w h h1 h2 hB).mono fun _ w' ⟨U, he, hs, hb⟩ => ⟨U, he, hs w' (fun _ _ _ => rfl), hb⟩
set_option maxHeartbeats 2000000 in
theorem eqSaved_yes (B : Nat) (U V : Value) (d : SavedD) (w : World) (h1 : LstSaved B w U d) (h2 : LstSaved B w V d) (hB : B ≤ w.heap.size) :
    Calls Try.prog 8 #[U, V] w fun e w' => e = .returned (.bool true) ∧ Below w.heap.size w w' := by
  obtain ⟨ut, us, rfl, ht1, hs1⟩ := h1
  obtain ⟨vt, vs, rfl, ht2, hs2⟩ := h2
  have hT := Lib.hid (fun w' (hb : Below w.heap.size w w') => eqTaskS_yes w'.heap.size ut vt d.tasks w' ((ht1.below hb hB).mono (Nat.le_trans hB hb.size)) ((ht2.below hb hB).mono (Nat.le_trans hB hb.size)) (Nat.le_refl _))
  have hS := Lib.hid (fun w' (hb : Below w.heap.size w w') => eqInt64S_yes B us vs d.starts w' (hs1.below hb hB) (hs2.below hb hB))
  obtain ⟨a1, c1, rfl, -⟩ := ht1
  obtain ⟨a2, c2, rfl, -⟩ := hs1
  obtain ⟨a3, c3, rfl, -⟩ := ht2
  obtain ⟨a4, c4, rfl, -⟩ := hs2
  generalize d.tasks.length = n1 at *
  generalize d.starts.length = n2 at *
  generalize d.name = nm at *
  have X1 := Lib.hid ((Whole.made w 31 #[.string nm, .slice a1 n1 c1, .slice a2 n2 c2] (b := w.heap.size) rfl).more (.cells #[.string nm, .slice a3 n1 c3, .slice a4 n2 c4] 31))
  have X2 := Lib.hid (Whole.made (w.alloc (.cells #[.string nm, .slice a1 n1 c1, .slice a2 n2 c2] 31)) 31 #[.string nm, .slice a3 n1 c3, .slice a4 n2 c4] (b := w.heap.size + 1) (by simp))
  have B2 := Lib.hid (below_alloc (below_alloc (Below.refl w.heap.size w) (.cells #[.string nm, .slice a1 n1 c1, .slice a2 n2 c2] 31)) (.cells #[.string nm, .slice a3 n1 c3, .slice a4 n2 c4] 31))
  go_enter Try.func8, Try.ntmps8
  go_wp2_with (first | (go_at_call 18; (with_reducible refine (hT.out _ B2.out).mono ?_); rintro e w3 ⟨rfl, hb3⟩; have B3 := Lib.hid (below_on B2.out (Nat.le_refl _) hb3); have Y1 := Lib.hid (X1.out.kept hb3); have Y2 := Lib.hid (X2.out.kept hb3); have u2 := Y1.out.at_ (i := 2) rfl; have v2 := Y2.out.at_ (i := 2) rfl; clear hb3) | (go_at_call 19; (with_reducible refine (hS.out _ B3.out).mono ?_); rintro e w4 ⟨j4, rfl, rfl⟩; have B4 := Lib.hid (Lst.Below.drewN B3.out j4)))
  go_ret
  exact ⟨rfl, B4.out⟩
end Go.Proofs.Ytdggbjpfllnenaa
