/- Contracts: the rule that a text spells, read by the model. No condition. -/
import Derived.Test.YtpolhjkjgbfdhaaDoorReadRule
namespace Go.Proofs.YtpolhjkjgbfdhaaDoor
open Go.RowKit Go.Lst Go

theorem rr_off {s : ByteArray} (h : okRead s = false) : okRR s = false ∧ rrR s = ⟨0, 0, 0, 0, 0⟩ := rr_no (by unfold okRow; rw [h]; rfl)
theorem rr_len {s : ByteArray} (h : (valL s).length ≠ 5) : okRR s = false ∧ rrR s = ⟨0, 0, 0, 0, 0⟩ := rr_no (by unfold okRow; rw [decide_eq_false h, Bool.and_false])
theorem rr_row {s : ByteArray} (h : okRead s = true) (hl : (valL s).length = 5) : okRow s 5 = true := by unfold okRow; rw [h, decide_eq_true hl]; rfl
theorem l06Is_at (b : Nat) (x : ShiftRuleD) (w : World) (X : Whole w b 26 #[.int .i64 x.Slots, .int .i64 x.Least, .int .i64 x.Most, .int .i64 x.Row, .int .i64 x.Pause]) : Calls Tryd.prog 36 #[.pointer (some ⟨b, 0, none⟩)] w fun e w' => e = .returned (.bool (okRule x)) ∧ Below w.heap.size w w' :=
  (l06Is_any b 0 x w (X.at_ (i := 0) rfl) (X.at_ (i := 1) rfl) (X.at_ (i := 2) rfl) (X.at_ (i := 3) rfl) (X.at_ (i := 4) rfl)).mono fun e w' ⟨m, he, hw⟩ => ⟨he, by rw [hw]; exact below_drawn _ _⟩
set_option maxHeartbeats 4000000 in
set_option maxRecDepth 100000 in
theorem l08ReadRule_any (s : ByteArray) (hs : s.size ≤ 1048576) (w : World) :
    Calls Tryd.prog 60 #[.string s] w fun e w' => e = .returned (.tuple #[(rrR s).agg, .bool (okRR s)]) ∧ Below w.heap.size w w' := by
  have X0 := Lib.hid (Whole.made w 26 #[.int .i64 0, .int .i64 0, .int .i64 0, .int .i64 0, .int .i64 0] rfl)
  have B1 := Lib.hid (below_alloc (Below.refl w.heap.size w) (.cells #[.int .i64 0, .int .i64 0, .int .i64 0, .int .i64 0, .int .i64 0] 26))
  have hR := Lib.hid (fun w' => l01Numbers_any s hs w')
  cases hq : okRead s
  · have hN := Lib.hid (rr_off hq)
    rw [hq] at hR
    clear hq
    generalize okRR s = Q at *
    generalize rrR s = R at *
    generalize valL s = V at *
    go_enter Tryd.func60, Tryd.ntmps60
    go_wp2_with fail
    generalize w.alloc _ = w1 at *
    refine (hR.out w1).mono ?_
    rintro e w2 ⟨v', rfl, ho, hb⟩
    have X2 := Lib.hid (X0.out.kept hb)
    have B2 := Lib.hid (below_on B1.out (Nat.le_refl _) hb)
    clear ho hb hR X0
    have c0 : w2.cell? ⟨w.heap.size, 0, none⟩ = some (.int .i64 0) := X2.out.at_ (i := 0) rfl
    have c1 : w2.cell? ⟨w.heap.size, 1, none⟩ = some (.int .i64 0) := X2.out.at_ (i := 1) rfl
    have c2 : w2.cell? ⟨w.heap.size, 2, none⟩ = some (.int .i64 0) := X2.out.at_ (i := 2) rfl
    have c3 : w2.cell? ⟨w.heap.size, 3, none⟩ = some (.int .i64 0) := X2.out.at_ (i := 3) rfl
    have c4 : w2.cell? ⟨w.heap.size, 4, none⟩ = some (.int .i64 0) := X2.out.at_ (i := 4) rfl
    have f0 : w2.frozen? ⟨w.heap.size, 0, none⟩ = false := X2.out.free 0
    have f1 : w2.frozen? ⟨w.heap.size, 1, none⟩ = false := X2.out.free 1
    have f2 : w2.frozen? ⟨w.heap.size, 2, none⟩ = false := X2.out.free 2
    have f3 : w2.frozen? ⟨w.heap.size, 3, none⟩ = false := X2.out.free 3
    have f4 : w2.frozen? ⟨w.heap.size, 4, none⟩ = false := X2.out.free 4
    go_wp2_with fail
    have X9 := (((((X2.out.put 0 (.int .i64 0)).put 1 (.int .i64 0)).put 2 (.int .i64 0)).put 3 (.int .i64 0)).put 4 (.int .i64 0))
    have B9 := Lib.hid (((((B2.out.setCell (p := ⟨w.heap.size, 0, none⟩) (Nat.le_refl _) (.int .i64 0)).setCell (p := ⟨w.heap.size, 1, none⟩) (Nat.le_refl _) (.int .i64 0)).setCell (p := ⟨w.heap.size, 2, none⟩) (Nat.le_refl _) (.int .i64 0)).setCell (p := ⟨w.heap.size, 3, none⟩) (Nat.le_refl _) (.int .i64 0)).setCell (p := ⟨w.heap.size, 4, none⟩) (Nat.le_refl _) (.int .i64 0))
    generalize World.setCell _ _ _ = w9 at *
    clear c0 c1 c2 c3 c4 f0 f1 f2 f3 f4 X2
    have c0 : w9.cell? ⟨w.heap.size, 0, none⟩ = some (.int .i64 0) := X9.at_ (i := 0) rfl
    have c1 : w9.cell? ⟨w.heap.size, 1, none⟩ = some (.int .i64 0) := X9.at_ (i := 1) rfl
    have c2 : w9.cell? ⟨w.heap.size, 2, none⟩ = some (.int .i64 0) := X9.at_ (i := 2) rfl
    have c3 : w9.cell? ⟨w.heap.size, 3, none⟩ = some (.int .i64 0) := X9.at_ (i := 3) rfl
    have c4 : w9.cell? ⟨w.heap.size, 4, none⟩ = some (.int .i64 0) := X9.at_ (i := 4) rfl
    exact bodyPost_ret (v := .tuple #[.agg #[.int .i64 0, .int .i64 0, .int .i64 0, .int .i64 0, .int .i64 0], .bool false]) (by simp [results, Tryd.results60, go_sem, c0, c1, c2, c3, c4]) rfl (ret_rr (y := ⟨0, 0, 0, 0, 0⟩) ⟨hN.out.2, hN.out.1⟩ B9.out)
  by_cases hl : (valL s).length = 5
  · obtain ⟨a, b, c, d, e, hv, hr, hok, hrr⟩ := rr_yes (rr_row hq hl)
    rw [hq, hv] at hR
    clear hq hr hv hl
    rw [hok, hrr]
    clear hok hrr
    have hV := Lib.hid (fun b2 w' X => l06Is_at b2 ⟨a, b, c, d, e⟩ w' X)
    have hQ := Lib.hid (show ∀ q, okRule ⟨a, b, c, d, e⟩ = q → (if okRule ⟨a, b, c, d, e⟩ then (⟨a, b, c, d, e⟩ : ShiftRuleD) else ⟨0, 0, 0, 0, 0⟩) = (if q then ⟨a, b, c, d, e⟩ else ⟨0, 0, 0, 0, 0⟩) from fun q h => by rw [h])
    generalize (if okRule ⟨a, b, c, d, e⟩ then (⟨a, b, c, d, e⟩ : ShiftRuleD) else ⟨0, 0, 0, 0, 0⟩) = R at *
    generalize okRule ⟨a, b, c, d, e⟩ = Q at *
    go_enter Tryd.func60, Tryd.ntmps60
    go_wp2_with fail
    generalize w.alloc _ = w1 at *
    refine (hR.out w1).mono ?_
    rintro e' w2 ⟨v', rfl, ho, hb⟩
    obtain ⟨g, k, rfl, hk1, hk2, hg1, hg2, d0, d1, d2, d3, d4⟩ := row_five ho rfl
    have X2 := Lib.hid (X0.out.kept hb)
    have B2 := Lib.hid (below_on B1.out (Nat.le_refl _) hb)
    have hS0 : Hid (∀ w' : World, Below w2.heap.size w2 w' → (w'.cell? ⟨g, 0, none⟩ = some (.int .i64 a) ∧ w'.cell? ⟨g, 1, none⟩ = some (.int .i64 b) ∧ w'.cell? ⟨g, 2, none⟩ = some (.int .i64 c) ∧ w'.cell? ⟨g, 3, none⟩ = some (.int .i64 d) ∧ w'.cell? ⟨g, 4, none⟩ = some (.int .i64 e)) ∧ Below w2.heap.size w2 w') := Lib.hid fun w' hb' => ⟨⟨by rw [hb'.cell (p := ⟨g, 0, none⟩) hg2]; exact d0, by rw [hb'.cell (p := ⟨g, 1, none⟩) hg2]; exact d1, by rw [hb'.cell (p := ⟨g, 2, none⟩) hg2]; exact d2, by rw [hb'.cell (p := ⟨g, 3, none⟩) hg2]; exact d3, by rw [hb'.cell (p := ⟨g, 4, none⟩) hg2]; exact d4⟩, hb'⟩
    have hR0 := Below.refl w2.heap.size w2
    unfold maxLen at hk2
    clear ho hb hR X0 hg1 hg2
    go_wp2_with fail
    go_region_held3 (fun w' => (w'.cell? ⟨g, 0, none⟩ = some (.int .i64 a) ∧ w'.cell? ⟨g, 1, none⟩ = some (.int .i64 b) ∧ w'.cell? ⟨g, 2, none⟩ = some (.int .i64 c) ∧ w'.cell? ⟨g, 3, none⟩ = some (.int .i64 d) ∧ w'.cell? ⟨g, 4, none⟩ = some (.int .i64 e)) ∧ Below w2.heap.size w2 w') ((first | exact hS0.out _ hR0 | exact hS0.out _ hR0.drew | exact hS0.out _ (below_alloc hR0 _) | exact hS0.out _ (below_alloc hR0 _).drew | exact hS0.out _ (below_alloc hR0.drew _))) (fail)
    have Y3 := Lib.hid (show Whole (w2.alloc (.cells #[.int .i64 a, .int .i64 b, .int .i64 c, .int .i64 d, .int .i64 e] 26)).drew w2.heap.size 26 #[.int .i64 a, .int .i64 b, .int .i64 c, .int .i64 d, .int .i64 e] from (Whole.made w2 26 #[.int .i64 a, .int .i64 b, .int .i64 c, .int .i64 d, .int .i64 e] rfl).draws 1)
    have X3 := Lib.hid (show Whole (w2.alloc (.cells #[.int .i64 a, .int .i64 b, .int .i64 c, .int .i64 d, .int .i64 e] 26)).drew w.heap.size 26 #[.int .i64 0, .int .i64 0, .int .i64 0, .int .i64 0, .int .i64 0] from (X2.out.more _).draws 1)
    have B3 := Lib.hid (show Below w.heap.size w (w2.alloc (.cells #[.int .i64 a, .int .i64 b, .int .i64 c, .int .i64 d, .int .i64 e] 26)).drew from (below_alloc B2.out _).drew)
    generalize World.drew _ = w3 at *
    generalize w2.heap.size = b2 at *
    clear hS0 hR0 d0 d1 d2 d3 d4 X2 B2
    have q0 : w3.cell? ⟨b2, 0, none⟩ = some (.int .i64 a) := Y3.out.at_ (i := 0) rfl
    have q1 : w3.cell? ⟨b2, 1, none⟩ = some (.int .i64 b) := Y3.out.at_ (i := 1) rfl
    have q2 : w3.cell? ⟨b2, 2, none⟩ = some (.int .i64 c) := Y3.out.at_ (i := 2) rfl
    have q3 : w3.cell? ⟨b2, 3, none⟩ = some (.int .i64 d) := Y3.out.at_ (i := 3) rfl
    have q4 : w3.cell? ⟨b2, 4, none⟩ = some (.int .i64 e) := Y3.out.at_ (i := 4) rfl
    go_wp2_with fail
    refine (hV.out b2 w3 Y3.out).mono ?_
    rintro e' w4 ⟨rfl, hb⟩
    have X4 := Lib.hid (X3.out.kept hb)
    have Y4 := Lib.hid (Y3.out.kept hb)
    have B4 := Lib.hid (below_on B3.out (Nat.le_refl _) hb)
    clear q0 q1 q2 q3 q4 hb X3 Y3 B3 hV
    have c0 : w4.cell? ⟨w.heap.size, 0, none⟩ = some (.int .i64 0) := X4.out.at_ (i := 0) rfl
    have c1 : w4.cell? ⟨w.heap.size, 1, none⟩ = some (.int .i64 0) := X4.out.at_ (i := 1) rfl
    have c2 : w4.cell? ⟨w.heap.size, 2, none⟩ = some (.int .i64 0) := X4.out.at_ (i := 2) rfl
    have c3 : w4.cell? ⟨w.heap.size, 3, none⟩ = some (.int .i64 0) := X4.out.at_ (i := 3) rfl
    have c4 : w4.cell? ⟨w.heap.size, 4, none⟩ = some (.int .i64 0) := X4.out.at_ (i := 4) rfl
    have f0 : w4.frozen? ⟨w.heap.size, 0, none⟩ = false := X4.out.free 0
    have f1 : w4.frozen? ⟨w.heap.size, 1, none⟩ = false := X4.out.free 1
    have f2 : w4.frozen? ⟨w.heap.size, 2, none⟩ = false := X4.out.free 2
    have f3 : w4.frozen? ⟨w.heap.size, 3, none⟩ = false := X4.out.free 3
    have f4 : w4.frozen? ⟨w.heap.size, 4, none⟩ = false := X4.out.free 4
    have q0 : w4.cell? ⟨b2, 0, none⟩ = some (.int .i64 a) := Y4.out.at_ (i := 0) rfl
    have q1 : w4.cell? ⟨b2, 1, none⟩ = some (.int .i64 b) := Y4.out.at_ (i := 1) rfl
    have q2 : w4.cell? ⟨b2, 2, none⟩ = some (.int .i64 c) := Y4.out.at_ (i := 2) rfl
    have q3 : w4.cell? ⟨b2, 3, none⟩ = some (.int .i64 d) := Y4.out.at_ (i := 3) rfl
    have q4 : w4.cell? ⟨b2, 4, none⟩ = some (.int .i64 e) := Y4.out.at_ (i := 4) rfl
    cases Q
    · have hQ1 := Lib.hid (hQ.out false rfl)
      clear hQ q0 q1 q2 q3 q4 Y4
      go_wp2_with fail
      have X9 := (((((X4.out.put 0 (.int .i64 0)).put 1 (.int .i64 0)).put 2 (.int .i64 0)).put 3 (.int .i64 0)).put 4 (.int .i64 0))
      have B9 := Lib.hid (((((B4.out.setCell (p := ⟨w.heap.size, 0, none⟩) (Nat.le_refl _) (.int .i64 0)).setCell (p := ⟨w.heap.size, 1, none⟩) (Nat.le_refl _) (.int .i64 0)).setCell (p := ⟨w.heap.size, 2, none⟩) (Nat.le_refl _) (.int .i64 0)).setCell (p := ⟨w.heap.size, 3, none⟩) (Nat.le_refl _) (.int .i64 0)).setCell (p := ⟨w.heap.size, 4, none⟩) (Nat.le_refl _) (.int .i64 0))
      generalize World.setCell _ _ _ = w9 at *
      clear c0 c1 c2 c3 c4 f0 f1 f2 f3 f4 X4
      have c0 : w9.cell? ⟨w.heap.size, 0, none⟩ = some (.int .i64 0) := X9.at_ (i := 0) rfl
      have c1 : w9.cell? ⟨w.heap.size, 1, none⟩ = some (.int .i64 0) := X9.at_ (i := 1) rfl
      have c2 : w9.cell? ⟨w.heap.size, 2, none⟩ = some (.int .i64 0) := X9.at_ (i := 2) rfl
      have c3 : w9.cell? ⟨w.heap.size, 3, none⟩ = some (.int .i64 0) := X9.at_ (i := 3) rfl
      have c4 : w9.cell? ⟨w.heap.size, 4, none⟩ = some (.int .i64 0) := X9.at_ (i := 4) rfl
      exact bodyPost_ret (v := .tuple #[.agg #[.int .i64 0, .int .i64 0, .int .i64 0, .int .i64 0, .int .i64 0], .bool false]) (by simp [results, Tryd.results60, go_sem, c0, c1, c2, c3, c4]) rfl (ret_rr (y := ⟨0, 0, 0, 0, 0⟩) ⟨hQ1.out, rfl⟩ B9.out)
    · have hQ1 := Lib.hid (hQ.out true rfl)
      clear hQ
      go_wp2_with fail
      clear q0 q1 q2 q3 q4 Y4
      have X9 := (((((X4.out.put 0 (.int .i64 a)).put 1 (.int .i64 b)).put 2 (.int .i64 c)).put 3 (.int .i64 d)).put 4 (.int .i64 e))
      have B9 := Lib.hid (((((B4.out.setCell (p := ⟨w.heap.size, 0, none⟩) (Nat.le_refl _) (.int .i64 a)).setCell (p := ⟨w.heap.size, 1, none⟩) (Nat.le_refl _) (.int .i64 b)).setCell (p := ⟨w.heap.size, 2, none⟩) (Nat.le_refl _) (.int .i64 c)).setCell (p := ⟨w.heap.size, 3, none⟩) (Nat.le_refl _) (.int .i64 d)).setCell (p := ⟨w.heap.size, 4, none⟩) (Nat.le_refl _) (.int .i64 e))
      generalize World.setCell _ _ _ = w9 at *
      clear c0 c1 c2 c3 c4 f0 f1 f2 f3 f4 X4
      have c0 : w9.cell? ⟨w.heap.size, 0, none⟩ = some (.int .i64 a) := X9.at_ (i := 0) rfl
      have c1 : w9.cell? ⟨w.heap.size, 1, none⟩ = some (.int .i64 b) := X9.at_ (i := 1) rfl
      have c2 : w9.cell? ⟨w.heap.size, 2, none⟩ = some (.int .i64 c) := X9.at_ (i := 2) rfl
      have c3 : w9.cell? ⟨w.heap.size, 3, none⟩ = some (.int .i64 d) := X9.at_ (i := 3) rfl
      have c4 : w9.cell? ⟨w.heap.size, 4, none⟩ = some (.int .i64 e) := X9.at_ (i := 4) rfl
      exact bodyPost_ret (v := .tuple #[.agg #[.int .i64 a, .int .i64 b, .int .i64 c, .int .i64 d, .int .i64 e], .bool true]) (by simp [results, Tryd.results60, go_sem, c0, c1, c2, c3, c4]) rfl (ret_rr (y := ⟨a, b, c, d, e⟩) ⟨hQ1.out, rfl⟩ B9.out)
  · have hN := Lib.hid (rr_len hl)
    rw [hq] at hR
    clear hq
    generalize okRR s = Q at *
    generalize rrR s = R at *
    generalize valL s = V at *
    generalize hn : V.length = n at *
    have hLn := Lib.hid hn
    have hcmp : ((n : Int) == 5) = false := by simp; omega
    have hcm2 : ((n : Int) != 5) = true := by simp; omega
    clear hl hn
    go_enter Tryd.func60, Tryd.ntmps60
    go_wp2_with fail
    generalize w.alloc _ = w1 at *
    refine (hR.out w1).mono ?_
    rintro e w2 ⟨v', rfl, ho, hb⟩
    rw [hLn.out] at ho
    obtain ⟨a, c, rfl, _⟩ := row_openI ho.1
    have X2 := Lib.hid (X0.out.kept hb)
    have B2 := Lib.hid (below_on B1.out (Nat.le_refl _) hb)
    clear ho hb hR X0
    have c0 : w2.cell? ⟨w.heap.size, 0, none⟩ = some (.int .i64 0) := X2.out.at_ (i := 0) rfl
    have c1 : w2.cell? ⟨w.heap.size, 1, none⟩ = some (.int .i64 0) := X2.out.at_ (i := 1) rfl
    have c2 : w2.cell? ⟨w.heap.size, 2, none⟩ = some (.int .i64 0) := X2.out.at_ (i := 2) rfl
    have c3 : w2.cell? ⟨w.heap.size, 3, none⟩ = some (.int .i64 0) := X2.out.at_ (i := 3) rfl
    have c4 : w2.cell? ⟨w.heap.size, 4, none⟩ = some (.int .i64 0) := X2.out.at_ (i := 4) rfl
    have f0 : w2.frozen? ⟨w.heap.size, 0, none⟩ = false := X2.out.free 0
    have f1 : w2.frozen? ⟨w.heap.size, 1, none⟩ = false := X2.out.free 1
    have f2 : w2.frozen? ⟨w.heap.size, 2, none⟩ = false := X2.out.free 2
    have f3 : w2.frozen? ⟨w.heap.size, 3, none⟩ = false := X2.out.free 3
    have f4 : w2.frozen? ⟨w.heap.size, 4, none⟩ = false := X2.out.free 4
    go_wp2_with fail
    have X9 := (((((X2.out.put 0 (.int .i64 0)).put 1 (.int .i64 0)).put 2 (.int .i64 0)).put 3 (.int .i64 0)).put 4 (.int .i64 0))
    have B9 := Lib.hid (((((B2.out.setCell (p := ⟨w.heap.size, 0, none⟩) (Nat.le_refl _) (.int .i64 0)).setCell (p := ⟨w.heap.size, 1, none⟩) (Nat.le_refl _) (.int .i64 0)).setCell (p := ⟨w.heap.size, 2, none⟩) (Nat.le_refl _) (.int .i64 0)).setCell (p := ⟨w.heap.size, 3, none⟩) (Nat.le_refl _) (.int .i64 0)).setCell (p := ⟨w.heap.size, 4, none⟩) (Nat.le_refl _) (.int .i64 0))
    generalize World.setCell _ _ _ = w9 at *
    clear c0 c1 c2 c3 c4 f0 f1 f2 f3 f4 X2
    have c0 : w9.cell? ⟨w.heap.size, 0, none⟩ = some (.int .i64 0) := X9.at_ (i := 0) rfl
    have c1 : w9.cell? ⟨w.heap.size, 1, none⟩ = some (.int .i64 0) := X9.at_ (i := 1) rfl
    have c2 : w9.cell? ⟨w.heap.size, 2, none⟩ = some (.int .i64 0) := X9.at_ (i := 2) rfl
    have c3 : w9.cell? ⟨w.heap.size, 3, none⟩ = some (.int .i64 0) := X9.at_ (i := 3) rfl
    have c4 : w9.cell? ⟨w.heap.size, 4, none⟩ = some (.int .i64 0) := X9.at_ (i := 4) rfl
    exact bodyPost_ret (v := .tuple #[.agg #[.int .i64 0, .int .i64 0, .int .i64 0, .int .i64 0, .int .i64 0], .bool false]) (by simp [results, Tryd.results60, go_sem, c0, c1, c2, c3, c4]) rfl (ret_rr (y := ⟨0, 0, 0, 0, 0⟩) ⟨hN.out.2, hN.out.1⟩ B9.out)
set_option maxHeartbeats 2000000 in
set_option maxRecDepth 100000 in
theorem specReadRule_any (s : ByteArray) (hs : s.size ≤ 1048576) (w : World) :
    Calls Tryd.prog 29 #[.string s] w fun e w' => e = .returned (.tuple #[(rrR s).agg, .bool (okRR s)]) ∧ Below w.heap.size w w' := by
  have X0 := Lib.hid (Whole.made w 26 #[.int .i64 0, .int .i64 0, .int .i64 0, .int .i64 0, .int .i64 0] rfl)
  have B1 := Lib.hid (below_alloc (Below.refl w.heap.size w) (.cells #[.int .i64 0, .int .i64 0, .int .i64 0, .int .i64 0, .int .i64 0] 26))
  have hR := Lib.hid (fun w' => l08ReadRule_any s hs w')
  generalize okRR s = Q at *
  obtain ⟨a, b, c, d, e, hr⟩ : ∃ a b c d e, rrR s = ⟨a, b, c, d, e⟩ := ⟨_, _, _, _, _, rfl⟩
  rw [hr] at hR ⊢
  clear hr
  go_enter Tryd.func29, Tryd.ntmps29
  go_wp2_with fail
  generalize w.alloc _ = w1 at *
  refine (hR.out w1).mono ?_
  rintro e' w2 ⟨rfl, hb⟩
  have X2 := Lib.hid (X0.out.kept hb)
  have B2 := Lib.hid (below_on B1.out (Nat.le_refl _) hb)
  clear hb hR X0
  have c0 : w2.cell? ⟨w.heap.size, 0, none⟩ = some (.int .i64 0) := X2.out.at_ (i := 0) rfl
  have c1 : w2.cell? ⟨w.heap.size, 1, none⟩ = some (.int .i64 0) := X2.out.at_ (i := 1) rfl
  have c2 : w2.cell? ⟨w.heap.size, 2, none⟩ = some (.int .i64 0) := X2.out.at_ (i := 2) rfl
  have c3 : w2.cell? ⟨w.heap.size, 3, none⟩ = some (.int .i64 0) := X2.out.at_ (i := 3) rfl
  have c4 : w2.cell? ⟨w.heap.size, 4, none⟩ = some (.int .i64 0) := X2.out.at_ (i := 4) rfl
  have f0 : w2.frozen? ⟨w.heap.size, 0, none⟩ = false := X2.out.free 0
  have f1 : w2.frozen? ⟨w.heap.size, 1, none⟩ = false := X2.out.free 1
  have f2 : w2.frozen? ⟨w.heap.size, 2, none⟩ = false := X2.out.free 2
  have f3 : w2.frozen? ⟨w.heap.size, 3, none⟩ = false := X2.out.free 3
  have f4 : w2.frozen? ⟨w.heap.size, 4, none⟩ = false := X2.out.free 4
  go_wp2_with fail
  have X9 := (((((X2.out.put 0 (.int .i64 a)).put 1 (.int .i64 b)).put 2 (.int .i64 c)).put 3 (.int .i64 d)).put 4 (.int .i64 e))
  have B9 := Lib.hid (((((B2.out.setCell (p := ⟨w.heap.size, 0, none⟩) (Nat.le_refl _) (.int .i64 a)).setCell (p := ⟨w.heap.size, 1, none⟩) (Nat.le_refl _) (.int .i64 b)).setCell (p := ⟨w.heap.size, 2, none⟩) (Nat.le_refl _) (.int .i64 c)).setCell (p := ⟨w.heap.size, 3, none⟩) (Nat.le_refl _) (.int .i64 d)).setCell (p := ⟨w.heap.size, 4, none⟩) (Nat.le_refl _) (.int .i64 e))
  generalize World.setCell _ _ _ = w9 at *
  clear c0 c1 c2 c3 c4 f0 f1 f2 f3 f4 X2
  have c0 : w9.cell? ⟨w.heap.size, 0, none⟩ = some (.int .i64 a) := X9.at_ (i := 0) rfl
  have c1 : w9.cell? ⟨w.heap.size, 1, none⟩ = some (.int .i64 b) := X9.at_ (i := 1) rfl
  have c2 : w9.cell? ⟨w.heap.size, 2, none⟩ = some (.int .i64 c) := X9.at_ (i := 2) rfl
  have c3 : w9.cell? ⟨w.heap.size, 3, none⟩ = some (.int .i64 d) := X9.at_ (i := 3) rfl
  have c4 : w9.cell? ⟨w.heap.size, 4, none⟩ = some (.int .i64 e) := X9.at_ (i := 4) rfl
  exact bodyPost_ret (v := .tuple #[.agg #[.int .i64 a, .int .i64 b, .int .i64 c, .int .i64 d, .int .i64 e], .bool Q]) (by simp [results, Tryd.results29, go_sem, c0, c1, c2, c3, c4]) rfl (ret_rr (y := ⟨a, b, c, d, e⟩) ⟨rfl, rfl⟩ B9.out)
theorem readRule_both (s : ByteArray) (hs : s.size ≤ 1048576) : ∃ (r0 : ShiftRuleD) (r1 : Bool),
    (∀ (B : Nat) (w : World), B ≤ w.heap.size → Calls Tryd.prog 29 #[.string s] w fun e w' => e = .returned (.tuple #[r0.agg, .bool r1]) ∧ Below w.heap.size w w') ∧
    (∀ (B : Nat) (w : World), LibAt w → B ≤ w.heap.size → Calls Tryd.prog 30 #[.string s] w fun e w' => e = .returned (.tuple #[r0.agg, .bool r1]) ∧ Below w.heap.size w w') :=
  ⟨rrR s, okRR s, fun _ w _ => specReadRule_any s hs w, fun _ w hL _ => readRule_any s hs w hL⟩
set_option maxHeartbeats 1000000 in
theorem eqRule_yes (x : ShiftRuleD) (w : World) : Calls Tryd.prog 31 #[x.agg, x.agg] w fun e w' => e = .returned (.bool true) ∧ Below w.heap.size w w' := by
  go_enter Tryd.func31, Tryd.ntmps31
  go_wp2
  go_ret
  exact ⟨rfl, by repeat (first | exact Below.refl _ _ | refine below_alloc ?_ _)⟩
end Go.Proofs.YtpolhjkjgbfdhaaDoor
