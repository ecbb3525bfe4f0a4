/- Contracts: the rule that a text spells, read by the program and by the model. Conditions: what LibAt says of Go's library (the program's side). -/
import Derived.Test.YtpolhjkjgbfdhaaDoorReadRow
import Derived.Test.YtpolhjkjgbfdhaaDoorShiftRule
import Derived.Test.YtpolhjkjgbfdhaaDoorAggShiftRule
import Derived.Deep.RegionHeld3
namespace Go.Proofs.YtpolhjkjgbfdhaaDoor
open Go.RowKit Go.Lst Go

/-- The rule of five numbers. -/
def ruleOf : List Int → ShiftRuleD
  | [a, b, c, d, e] => ⟨a, b, c, d, e⟩
  | _ => ⟨0, 0, 0, 0, 0⟩
def okRR (s : ByteArray) : Bool := okRow s 5 && okRule (ruleOf (valL s))
def rrR (s : ByteArray) : ShiftRuleD := if okRR s then ruleOf (valL s) else ⟨0, 0, 0, 0, 0⟩
theorem rr_no {s : ByteArray} (h : okRow s 5 = false) : okRR s = false ∧ rrR s = ⟨0, 0, 0, 0, 0⟩ := by
  have : okRR s = false := by unfold okRR; rw [h]; rfl
  exact ⟨this, by unfold rrR; rw [this]; rfl⟩
theorem rr_yes {s : ByteArray} (h : okRow s 5 = true) : ∃ a b c d e, valL s = [a, b, c, d, e] ∧ rowL s 5 = [a, b, c, d, e] ∧ okRR s = okRule ⟨a, b, c, d, e⟩ ∧ rrR s = if okRule ⟨a, b, c, d, e⟩ then ⟨a, b, c, d, e⟩ else ⟨0, 0, 0, 0, 0⟩ := by
  obtain ⟨h1, h2⟩ := rowL_yes h
  match hv : valL s, h2 with
  | [a, b, c, d, e], _ =>
    have e1 : okRR s = okRule ⟨a, b, c, d, e⟩ := by unfold okRR; rw [h, hv]; rfl
    exact ⟨a, b, c, d, e, rfl, by rw [h1, hv], e1, by unfold rrR; rw [e1, hv]; rfl⟩
theorem ret_rr {x y : ShiftRuleD} {p q : Bool} {w w' : World} (h : x = y ∧ p = q) (hb : Below w.heap.size w w') : Ending.returned (.tuple #[y.agg, .bool q]) = .returned (.tuple #[x.agg, .bool p]) ∧ Below w.heap.size w w' := by
  obtain ⟨rfl, rfl⟩ := h
  exact ⟨rfl, hb⟩
theorem row_five {A B n : Nat} {w : World} {v : Value} {a b c d e : Int} (h : Own A B w v 2 1 n ([a, b, c, d, e].map (Value.int .i64))) (hn : n = 5) : ∃ g k, v = .slice (some ⟨g, 0, none⟩) 5 k ∧ 5 ≤ k ∧ k ≤ maxLen ∧ A ≤ g ∧ g < w.heap.size ∧ w.cell? ⟨g, 0, none⟩ = some (.int .i64 a) ∧ w.cell? ⟨g, 1, none⟩ = some (.int .i64 b) ∧ w.cell? ⟨g, 2, none⟩ = some (.int .i64 c) ∧ w.cell? ⟨g, 3, none⟩ = some (.int .i64 d) ∧ w.cell? ⟨g, 4, none⟩ = some (.int .i64 e) := by
  subst hn
  have hO := h.1
  have hlt := h.1.lt
  have hO2 := h.1.2
  rcases hO2 with ⟨_, h0⟩ | ⟨g, cap, cur, rfl, hA, _, h3, h4, _⟩
  · omega
  · exact ⟨g, cap, rfl, h3, h4, hA, (hlt g rfl).2, hO.cellAt 0 (by omega), hO.cellAt 1 (by omega), hO.cellAt 2 (by omega), hO.cellAt 3 (by omega), hO.cellAt 4 (by omega)⟩
set_option maxHeartbeats 4000000 in
set_option maxRecDepth 100000 in
theorem readRule_any (s : ByteArray) (hs : s.size ≤ 1048576) (w : World) (hL : LibAt w) :
    Calls Tryd.prog 30 #[.string s] w fun e w' => e = .returned (.tuple #[(rrR s).agg, .bool (okRR s)]) ∧ Below w.heap.size w w' := by
  have X0 := Lib.hid (Whole.made w 26 #[.int .i64 0, .int .i64 0, .int .i64 0, .int .i64 0, .int .i64 0] rfl)
  have B1 := Lib.hid (below_alloc (Below.refl w.heap.size w) (.cells #[.int .i64 0, .int .i64 0, .int .i64 0, .int .i64 0, .int .i64 0] 26))
  have hR := Lib.hid (fun w' (hb : Below w.heap.size w w') => readRow_any s hs 5 (by omega) w' (hL.kept hb))
  cases hq : okRow s 5
  · have hN := Lib.hid (rr_no hq)
    rw [hq] at hR
    clear hq hL
    generalize okRR s = Q at *
    generalize rrR s = R at *
    generalize rowL s 5 = V at *
    go_enter Tryd.func30, Tryd.ntmps30
    go_wp2_with fail
    generalize w.alloc _ = w1 at *
    refine (hR.out w1 B1.out).mono ?_
    rintro e w2 ⟨v', rfl, ho, hb⟩
    have X2 := Lib.hid (X0.out.kept hb)
    have B2 := Lib.hid (below_on B1.out (Nat.le_refl _) hb)
    have c0 := X2.out.at_ (i := 0) rfl
    have c1 := X2.out.at_ (i := 1) rfl
    have c2 := X2.out.at_ (i := 2) rfl
    have c3 := X2.out.at_ (i := 3) rfl
    have c4 := X2.out.at_ (i := 4) rfl
    have f0 := X2.out.free 0
    have f1 := X2.out.free 1
    have f2 := X2.out.free 2
    have f3 := X2.out.free 3
    have f4 := X2.out.free 4
    clear ho hb hR X0
    go_wp2_with fail
    have X3 := (((((X2.out.put 0 (.int .i64 0)).put 1 (.int .i64 0)).put 2 (.int .i64 0)).put 3 (.int .i64 0)).put 4 (.int .i64 0))
    have B3 := Lib.hid (((((B2.out.setCell (p := ⟨w.heap.size, 0, none⟩) (Nat.le_refl _) (.int .i64 0)).setCell (p := ⟨w.heap.size, 1, none⟩) (Nat.le_refl _) (.int .i64 0)).setCell (p := ⟨w.heap.size, 2, none⟩) (Nat.le_refl _) (.int .i64 0)).setCell (p := ⟨w.heap.size, 3, none⟩) (Nat.le_refl _) (.int .i64 0)).setCell (p := ⟨w.heap.size, 4, none⟩) (Nat.le_refl _) (.int .i64 0))
    generalize World.setCell _ _ _ = w3 at *
    clear c0 c1 c2 c3 c4 f0 f1 f2 f3 f4 X2
    have c0 : w3.cell? ⟨w.heap.size, 0, none⟩ = some (.int .i64 0) := X3.at_ (i := 0) rfl
    have c1 : w3.cell? ⟨w.heap.size, 1, none⟩ = some (.int .i64 0) := X3.at_ (i := 1) rfl
    have c2 : w3.cell? ⟨w.heap.size, 2, none⟩ = some (.int .i64 0) := X3.at_ (i := 2) rfl
    have c3 : w3.cell? ⟨w.heap.size, 3, none⟩ = some (.int .i64 0) := X3.at_ (i := 3) rfl
    have c4 : w3.cell? ⟨w.heap.size, 4, none⟩ = some (.int .i64 0) := X3.at_ (i := 4) rfl
    exact bodyPost_ret (v := .tuple #[.agg #[.int .i64 0, .int .i64 0, .int .i64 0, .int .i64 0, .int .i64 0], .bool false]) (by simp [results, Tryd.results30, go_sem, c0, c1, c2, c3, c4]) rfl (ret_rr ⟨hN.out.2, hN.out.1⟩ B3.out)
  · obtain ⟨a, b, c, d, e, hv, hr, hok, hrr⟩ := rr_yes hq
    rw [hq, hr] at hR
    clear hq hr hv hL
    rw [hok, hrr]
    clear hok hrr
    have hV := Lib.hid (fun w' => validRule_any ⟨a, b, c, d, e⟩ w')
    have hQ := Lib.hid (show ∀ q, okRule ⟨a, b, c, d, e⟩ = q → (if okRule ⟨a, b, c, d, e⟩ then (⟨a, b, c, d, e⟩ : ShiftRuleD) else ⟨0, 0, 0, 0, 0⟩) = (if q then ⟨a, b, c, d, e⟩ else ⟨0, 0, 0, 0, 0⟩) from fun q h => by rw [h])
    generalize (if okRule ⟨a, b, c, d, e⟩ then (⟨a, b, c, d, e⟩ : ShiftRuleD) else ⟨0, 0, 0, 0, 0⟩) = R at *
    generalize okRule ⟨a, b, c, d, e⟩ = Q at *
    go_enter Tryd.func30, Tryd.ntmps30
    go_wp2_with fail
    generalize w.alloc _ = w1 at *
    refine (hR.out w1 B1.out).mono ?_
    rintro e' w2 ⟨v', rfl, ho, hb⟩
    obtain ⟨g, k, rfl, hk1, hk2, hg1, hg2, d0, d1, d2, d3, d4⟩ := row_five ho rfl
    have X2 := Lib.hid (X0.out.kept hb)
    have B2 := Lib.hid (below_on B1.out (Nat.le_refl _) hb)
    have hS0 : Hid (∀ w' : World, Below w2.heap.size w2 w' → (w'.cell? ⟨g, 0, none⟩ = some (.int .i64 a) ∧ w'.cell? ⟨g, 1, none⟩ = some (.int .i64 b) ∧ w'.cell? ⟨g, 2, none⟩ = some (.int .i64 c) ∧ w'.cell? ⟨g, 3, none⟩ = some (.int .i64 d) ∧ w'.cell? ⟨g, 4, none⟩ = some (.int .i64 e)) ∧ Below w2.heap.size w2 w') := Lib.hid fun w' hb' => ⟨⟨by rw [hb'.cell (p := ⟨g, 0, none⟩) hg2]; exact d0, by rw [hb'.cell (p := ⟨g, 1, none⟩) hg2]; exact d1, by rw [hb'.cell (p := ⟨g, 2, none⟩) hg2]; exact d2, by rw [hb'.cell (p := ⟨g, 3, none⟩) hg2]; exact d3, by rw [hb'.cell (p := ⟨g, 4, none⟩) hg2]; exact d4⟩, hb'⟩
    have hR0 := Below.refl w2.heap.size w2
    unfold maxLen at hk2
    clear ho hb hR X0 hg1 hg2
    go_wp2_with fail
    go_region_held3 (fun w' => (w'.cell? ⟨g, 0, none⟩ = some (.int .i64 a) ∧ w'.cell? ⟨g, 1, none⟩ = some (.int .i64 b) ∧ w'.cell? ⟨g, 2, none⟩ = some (.int .i64 c) ∧ w'.cell? ⟨g, 3, none⟩ = some (.int .i64 d) ∧ w'.cell? ⟨g, 4, none⟩ = some (.int .i64 e)) ∧ Below w2.heap.size w2 w') ((first | exact hS0.out _ hR0 | exact hS0.out _ hR0.drew | exact hS0.out _ (below_alloc hR0 _) | exact hS0.out _ (below_alloc hR0 _).drew | exact hS0.out _ (below_alloc hR0.drew _))) (fail)
    have Y3 := Lib.hid (show Whole (w2.alloc (.cells #[.int .i64 a, .int .i64 b, .int .i64 c, .int .i64 d, .int .i64 e] 26)).drew w2.heap.size 26 #[.int .i64 a, .int .i64 b, .int .i64 c, .int .i64 d, .int .i64 e] from (Whole.made w2 26 #[.int .i64 a, .int .i64 b, .int .i64 c, .int .i64 d, .int .i64 e] rfl).draws 1)
    have X3 := Lib.hid (show Whole (w2.alloc (.cells #[.int .i64 a, .int .i64 b, .int .i64 c, .int .i64 d, .int .i64 e] 26)).drew w.heap.size 26 #[.int .i64 0, .int .i64 0, .int .i64 0, .int .i64 0, .int .i64 0] from (X2.out.more _).draws 1)
    have B3 := Lib.hid (show Below w.heap.size w (w2.alloc (.cells #[.int .i64 a, .int .i64 b, .int .i64 c, .int .i64 d, .int .i64 e] 26)).drew from (below_alloc B2.out _).drew)
    generalize World.drew _ = w3 at *
    generalize w2.heap.size = b2 at *
    clear hS0 hR0 d0 d1 d2 d3 d4 X2 B2
    have q0 : w3.cell? ⟨b2, 0, none⟩ = some (.int .i64 a) := Y3.out.at_ (i := 0) rfl
    have q1 : w3.cell? ⟨b2, 1, none⟩ = some (.int .i64 b) := Y3.out.at_ (i := 1) rfl
    have q2 : w3.cell? ⟨b2, 2, none⟩ = some (.int .i64 c) := Y3.out.at_ (i := 2) rfl
    have q3 : w3.cell? ⟨b2, 3, none⟩ = some (.int .i64 d) := Y3.out.at_ (i := 3) rfl
    have q4 : w3.cell? ⟨b2, 4, none⟩ = some (.int .i64 e) := Y3.out.at_ (i := 4) rfl
    go_wp2_with fail
    refine (hV.out w3).mono ?_
    rintro e' w4 ⟨rfl, hb⟩
    have X4 := Lib.hid (X3.out.kept hb)
    have Y4 := Lib.hid (Y3.out.kept hb)
    have B4 := Lib.hid (below_on B3.out (Nat.le_refl _) hb)
    clear q0 q1 q2 q3 q4 hb X3 Y3 B3 hV
    have c0 : w4.cell? ⟨w.heap.size, 0, none⟩ = some (.int .i64 0) := X4.out.at_ (i := 0) rfl
    have c1 : w4.cell? ⟨w.heap.size, 1, none⟩ = some (.int .i64 0) := X4.out.at_ (i := 1) rfl
    have c2 : w4.cell? ⟨w.heap.size, 2, none⟩ = some (.int .i64 0) := X4.out.at_ (i := 2) rfl
    have c3 : w4.cell? ⟨w.heap.size, 3, none⟩ = some (.int .i64 0) := X4.out.at_ (i := 3) rfl
    have c4 : w4.cell? ⟨w.heap.size, 4, none⟩ = some (.int .i64 0) := X4.out.at_ (i := 4) rfl
    have f0 : w4.frozen? ⟨w.heap.size, 0, none⟩ = false := X4.out.free 0
    have f1 : w4.frozen? ⟨w.heap.size, 1, none⟩ = false := X4.out.free 1
    have f2 : w4.frozen? ⟨w.heap.size, 2, none⟩ = false := X4.out.free 2
    have f3 : w4.frozen? ⟨w.heap.size, 3, none⟩ = false := X4.out.free 3
    have f4 : w4.frozen? ⟨w.heap.size, 4, none⟩ = false := X4.out.free 4
    have q0 : w4.cell? ⟨b2, 0, none⟩ = some (.int .i64 a) := Y4.out.at_ (i := 0) rfl
    have q1 : w4.cell? ⟨b2, 1, none⟩ = some (.int .i64 b) := Y4.out.at_ (i := 1) rfl
    have q2 : w4.cell? ⟨b2, 2, none⟩ = some (.int .i64 c) := Y4.out.at_ (i := 2) rfl
    have q3 : w4.cell? ⟨b2, 3, none⟩ = some (.int .i64 d) := Y4.out.at_ (i := 3) rfl
    have q4 : w4.cell? ⟨b2, 4, none⟩ = some (.int .i64 e) := Y4.out.at_ (i := 4) rfl
    cases Q
    · have hQ1 := Lib.hid (hQ.out false rfl)
      clear hQ q0 q1 q2 q3 q4 Y4
      go_wp2_with fail
      have X9 := (((((X4.out.put 0 (.int .i64 0)).put 1 (.int .i64 0)).put 2 (.int .i64 0)).put 3 (.int .i64 0)).put 4 (.int .i64 0))
      have B9 := Lib.hid (((((B4.out.setCell (p := ⟨w.heap.size, 0, none⟩) (Nat.le_refl _) (.int .i64 0)).setCell (p := ⟨w.heap.size, 1, none⟩) (Nat.le_refl _) (.int .i64 0)).setCell (p := ⟨w.heap.size, 2, none⟩) (Nat.le_refl _) (.int .i64 0)).setCell (p := ⟨w.heap.size, 3, none⟩) (Nat.le_refl _) (.int .i64 0)).setCell (p := ⟨w.heap.size, 4, none⟩) (Nat.le_refl _) (.int .i64 0))
      generalize World.setCell _ _ _ = w9 at *
      clear c0 c1 c2 c3 c4 f0 f1 f2 f3 f4 X4
      have c0 : w9.cell? ⟨w.heap.size, 0, none⟩ = some (.int .i64 0) := X9.at_ (i := 0) rfl
      have c1 : w9.cell? ⟨w.heap.size, 1, none⟩ = some (.int .i64 0) := X9.at_ (i := 1) rfl
      have c2 : w9.cell? ⟨w.heap.size, 2, none⟩ = some (.int .i64 0) := X9.at_ (i := 2) rfl
      have c3 : w9.cell? ⟨w.heap.size, 3, none⟩ = some (.int .i64 0) := X9.at_ (i := 3) rfl
      have c4 : w9.cell? ⟨w.heap.size, 4, none⟩ = some (.int .i64 0) := X9.at_ (i := 4) rfl
      exact bodyPost_ret (v := .tuple #[.agg #[.int .i64 0, .int .i64 0, .int .i64 0, .int .i64 0, .int .i64 0], .bool false]) (by simp [results, Tryd.results30, go_sem, c0, c1, c2, c3, c4]) rfl (ret_rr (y := ⟨0, 0, 0, 0, 0⟩) ⟨hQ1.out, rfl⟩ B9.out)
    · have hQ1 := Lib.hid (hQ.out true rfl)
      clear hQ
      go_wp2_with fail
      clear q0 q1 q2 q3 q4 Y4
      have X9 := (((((X4.out.put 0 (.int .i64 a)).put 1 (.int .i64 b)).put 2 (.int .i64 c)).put 3 (.int .i64 d)).put 4 (.int .i64 e))
      have B9 := Lib.hid (((((B4.out.setCell (p := ⟨w.heap.size, 0, none⟩) (Nat.le_refl _) (.int .i64 a)).setCell (p := ⟨w.heap.size, 1, none⟩) (Nat.le_refl _) (.int .i64 b)).setCell (p := ⟨w.heap.size, 2, none⟩) (Nat.le_refl _) (.int .i64 c)).setCell (p := ⟨w.heap.size, 3, none⟩) (Nat.le_refl _) (.int .i64 d)).setCell (p := ⟨w.heap.size, 4, none⟩) (Nat.le_refl _) (.int .i64 e))
      generalize World.setCell _ _ _ = w9 at *
      clear c0 c1 c2 c3 c4 f0 f1 f2 f3 f4 X4
      have c0 : w9.cell? ⟨w.heap.size, 0, none⟩ = some (.int .i64 a) := X9.at_ (i := 0) rfl
      have c1 : w9.cell? ⟨w.heap.size, 1, none⟩ = some (.int .i64 b) := X9.at_ (i := 1) rfl
      have c2 : w9.cell? ⟨w.heap.size, 2, none⟩ = some (.int .i64 c) := X9.at_ (i := 2) rfl
      have c3 : w9.cell? ⟨w.heap.size, 3, none⟩ = some (.int .i64 d) := X9.at_ (i := 3) rfl
      have c4 : w9.cell? ⟨w.heap.size, 4, none⟩ = some (.int .i64 e) := X9.at_ (i := 4) rfl
      exact bodyPost_ret (v := .tuple #[.agg #[.int .i64 a, .int .i64 b, .int .i64 c, .int .i64 d, .int .i64 e], .bool true]) (by simp [results, Tryd.results30, go_sem, c0, c1, c2, c3, c4]) rfl (ret_rr (y := ⟨a, b, c, d, e⟩) ⟨hQ1.out, rfl⟩ B9.out)
end Go.Proofs.YtpolhjkjgbfdhaaDoor
