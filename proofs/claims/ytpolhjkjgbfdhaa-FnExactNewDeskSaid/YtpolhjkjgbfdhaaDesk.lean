/- Desks: a word for them, and contracts of the law's own functions on them (copied, measured, compared). -/
import Derived.Test.YtpolhjkjgbfdhaaSameJob
import Derived.Test.YtpolhjkjgbfdhaaShiftRule
import Derived.Test.YtpolhjkjgbfdhaaDays
import Derived.Test.YtpolhjkjgbfdhaaMixC
import Derived.Test.YtpolhjkjgbfdhaaNear
namespace Go.Proofs.Ytpolhjkjgbfdhaa
open Go.RowKit Go.Lst

structure DeskD where
  jobs : List JobD
  rule : ShiftRuleD
  counts : List Int
  pat : ByteArray
def DeskD.wf (d : DeskD) : Prop := (∀ y ∈ d.jobs, y.wf) ∧ d.rule.wf ∧ (∀ y ∈ d.counts, (Lit.int .i64 y).wf = true) ∧ d.pat.size ≤ maxLen
def DeskD.fits (d : DeskD) : Prop := d.jobs.length ≤ 1048576 ∧ d.counts.length ≤ 1048576 ∧ d.pat.size ≤ 1048576
@[reducible] def deskV (vj vc : Value) (r : ShiftRuleD) (p : ByteArray) : Value := .agg #[vj, .int .i64 r.Slots, .int .i64 r.Least, .int .i64 r.Most, .int .i64 r.Row, .int .i64 r.Pause, vc, .string p]
@[reducible] def deskC (vj vc : Value) (r : ShiftRuleD) (p : ByteArray) : Array Value := #[vj, .int .i64 r.Slots, .int .i64 r.Least, .int .i64 r.Most, .int .i64 r.Row, .int .i64 r.Pause, vc, .string p]
/-- The value is a desk whose lists lie below B. -/
def LstDesk (B : Nat) (w : World) (V : Value) (d : DeskD) : Prop := ∃ vj vc, V = deskV vj vc d.rule d.pat ∧ LstJob B w vj d.jobs ∧ LstI B w vc d.counts
theorem LstDesk.below {B B' : Nat} {w w' : World} {V : Value} {d : DeskD} (h : LstDesk B w V d) (hb : Below B' w w') (hB : B ≤ B') : LstDesk B w' V d := by
  obtain ⟨vj, vc, rfl, hj, hc⟩ := h
  exact ⟨vj, vc, rfl, hj.below hb hB, hc.below hb hB⟩
theorem LstDesk.mono {B B' : Nat} {w : World} {V : Value} {d : DeskD} (h : LstDesk B w V d) (hB : B ≤ B') : LstDesk B' w V d := by
  obtain ⟨vj, vc, rfl, hj, hc⟩ := h
  exact ⟨vj, vc, rfl, hj.mono hB, hc.mono hB⟩

theorem own_off {A B e k n : Nat} {w : World} {v : Value} {cs : List Value} (h : Own A B w v e k n cs) {p : Addr} (hp : p.block < A) (u : Value) : Own A B (w.setCell p u) v e k n cs :=
  h.same fun g h1 _ => Below.heap_setCell w p u g (by omega)
theorem own_kept {A B e k n : Nat} {w w' : World} {v : Value} {cs : List Value} (h : Own A B w v e k n cs) (hb : Below w.heap.size w w') : Own A B w' v e k n cs :=
  ⟨ownsRow_kept h.1 hb, h.2.1, h.2.2⟩
set_option maxHeartbeats 1000000 in
theorem eqShiftRule_yes (x : ShiftRuleD) (w : World) : Calls Try.prog 41 #[x.agg, x.agg] w fun e w' => e = .returned (.bool true) ∧ Below w.heap.size w w' := by
  go_enter Try.func41, Try.ntmps41
  go_wp2_with fail
  go_ret
  exact ⟨rfl, by repeat (first | exact Below.refl _ _ | refine below_alloc ?_ _ | refine below_drew ?_ _)⟩
theorem szInts_fits (a : Option Addr) (n cap : Nat) (left : Int) (w : World) (h : (n : Int) ≤ left) (h1 : left ≤ 1048576) :
    Calls Try.prog 32 #[.slice a n cap, .int .i64 left] w fun e w' => e = .returned (.int .i64 (left - n)) ∧ w = w' := by
  have h0 : 0 ≤ left := by omega
  go_enter Try.func32, Try.ntmps32
  go_wp2
  go_ret
  exact ⟨rfl, rfl⟩
theorem szInts_over (a : Option Addr) (n cap : Nat) (left : Int) (w : World) (h : left < n) (h1 : left ≤ 1048576) (hn : n ≤ maxLen) (h0 : 0 ≤ left) :
    Calls Try.prog 32 #[.slice a n cap, .int .i64 left] w fun e w' => e = .returned (.int .i64 (-1)) ∧ w = w' := by
  unfold maxLen at hn
  go_enter Try.func32, Try.ntmps32
  go_wp2
  go_ret
  exact ⟨rfl, rfl⟩
def szD (nj nc np : Nat) (left : Int) : Int := if left < nj then -1 else if left - nj < nc then -1 else if left - nj - nc < np then -1 else left - nj - nc - np
set_option maxHeartbeats 1000000 in
theorem szDesk_any (B : Nat) (V : Value) (d : DeskD) (left : Int) (w : World) (h : LstDesk B w V d) (hp : d.pat.size ≤ maxLen) (h0 : 0 ≤ left) (h1 : left ≤ 1048576) :
    Calls Try.prog 8 #[V, .int .i64 left] w fun e w' => e = .returned (.int .i64 (szD d.jobs.length d.counts.length d.pat.size left)) ∧ Below w.heap.size w w' := by
  obtain ⟨vj, vc, rfl, hj, hc⟩ := h
  obtain ⟨a1, c1, rfl, l1, -⟩ := hj
  obtain ⟨a2, c2, rfl, l2, -⟩ := hc
  generalize d.jobs.length = n1 at *
  generalize d.counts.length = n2 at *
  generalize d.rule = r
  generalize d.pat = p at *
  unfold szD
  have m2 := l2
  unfold maxLen at l1 l2 hp
  have hb0 := Lib.hid (below_alloc (Below.refl w.heap.size w) (.cells #[.slice a1 n1 c1, .int .i64 r.Slots, .int .i64 r.Least, .int .i64 r.Most, .int .i64 r.Row, .int .i64 r.Pause, .slice a2 n2 c2, .string p] 27))
  by_cases e1 : left < n1
  · rw [if_pos e1]
    go_enter Try.func8, Try.ntmps8
    go_wp2_with (go_at_call 31; (with_reducible refine (szJobS_over _ _ _ _ _ e1 h1 (by omega) h0).mono ?_); rintro e w' ⟨rfl, rfl⟩)
    go_ret
    exact ⟨rfl, hb0.out⟩
  rw [if_neg e1]
  have hA := Lib.hid (fun w => szJobS_fits a1 n1 c1 left w (by omega) h1 (by omega))
  by_cases e2 : left - n1 < n2
  · rw [if_pos e2]
    go_enter Try.func8, Try.ntmps8
    have hD := Lib.hid (fun w => szInts_over a2 n2 c2 (left - n1) w e2 (by omega) m2 (by omega))
    go_wp2_with (first | (go_at_call 31; (with_reducible refine (hA.out _).mono ?_); rintro e w' ⟨rfl, rfl⟩) | (go_at_call 32; (with_reducible refine (hD.out _).mono ?_); rintro e w' ⟨rfl, rfl⟩))
    go_ret
    exact ⟨rfl, hb0.out⟩
  rw [if_neg e2]
  have hD := Lib.hid (fun w => szInts_fits a2 n2 c2 (left - n1) w (by omega) (by omega))
  by_cases e3 : left - n1 - n2 < p.size
  · rw [if_pos e3]
    go_enter Try.func8, Try.ntmps8
    go_wp2_with (first | (go_at_call 31; (with_reducible refine (hA.out _).mono ?_); rintro e w' ⟨rfl, rfl⟩) | (go_at_call 32; (with_reducible refine (hD.out _).mono ?_); rintro e w' ⟨rfl, rfl⟩))
    go_ret
    exact ⟨rfl, hb0.out⟩
  rw [if_neg e3]
  go_enter Try.func8, Try.ntmps8
  go_wp2_with (first | (go_at_call 31; (with_reducible refine (hA.out _).mono ?_); rintro e w' ⟨rfl, rfl⟩) | (go_at_call 32; (with_reducible refine (hD.out _).mono ?_); rintro e w' ⟨rfl, rfl⟩))
  go_ret
  exact ⟨rfl, hb0.out⟩
set_option maxHeartbeats 4000000 in
set_option maxRecDepth 100000 in
theorem toDesk_any (B : Nat) (V : Value) (d : DeskD) (w : World) (h : LstDesk B w V d) (hf : d.fits) (hB : B ≤ w.heap.size) :
    Calls Try.prog 10 #[V] w fun e w' => ∃ U, e = .returned U ∧ LstDesk w'.heap.size w' U d ∧ Below w.heap.size w w' := by
  obtain ⟨vj, vc, rfl, hj, hc⟩ := h
  obtain ⟨f1, f2, -⟩ := hf
  have hJ := Lib.hid (fun w' (hb : Below w.heap.size w w') => copiedJob w.heap.size vj d.jobs w' ((hj.mono hB).below hb (Nat.le_refl _)) hb.size f1)
  have hC := Lib.hid (fun w' (hb : Below w.heap.size w w') => copiedI w.heap.size vc d.counts w' ((hc.mono hB).below hb (Nat.le_refl _)) hb.size f2)
  have hR := Lib.hid (fun w' => toShiftRule_any d.rule w')
  have hMk : Hid (∀ uj uc w', LstK 4 w'.heap.size w' uj d.jobs.length (cellsJob d.jobs) → LstK 1 w'.heap.size w' uc d.counts.length (d.counts.map (Value.int .i64)) → Below w.heap.size w w' → ∃ U, Ending.returned (deskV uj uc d.rule d.pat) = .returned U ∧ LstDesk w'.heap.size w' U d ∧ Below w.heap.size w w') := Lib.hid fun uj uc w' a b c => ⟨_, rfl, ⟨uj, uc, rfl, a, b⟩, c⟩
  obtain ⟨a1, c1, rfl, -⟩ := hj
  obtain ⟨a2, c2, rfl, -⟩ := hc
  generalize d.jobs.length = n1 at *
  generalize d.counts.length = n2 at *
  generalize d.rule = r at *
  generalize d.pat = p at *
  have E0 := Lib.hid (((Whole.made w 27 #[Value.slice a1 n1 c1, Value.int IntKind.i64 r.Slots, Value.int IntKind.i64 r.Least, Value.int IntKind.i64 r.Most, Value.int IntKind.i64 r.Row, Value.int IntKind.i64 r.Pause, Value.slice a2 n2 c2, Value.string p] rfl).more (.cells #[Value.slice none 0 0, Value.int IntKind.i64 0, Value.int IntKind.i64 0, Value.int IntKind.i64 0, Value.int IntKind.i64 0, Value.int IntKind.i64 0, Value.slice none 0 0, Value.string { data := #[] }] 33)).more (.cells #[Value.slice none 0 0, Value.int IntKind.i64 0, Value.int IntKind.i64 0, Value.int IntKind.i64 0, Value.int IntKind.i64 0, Value.int IntKind.i64 0, Value.slice none 0 0, Value.string { data := #[] }] 33))
  have E1 := Lib.hid ((Whole.made (w.alloc (.cells #[Value.slice a1 n1 c1, Value.int IntKind.i64 r.Slots, Value.int IntKind.i64 r.Least, Value.int IntKind.i64 r.Most, Value.int IntKind.i64 r.Row, Value.int IntKind.i64 r.Pause, Value.slice a2 n2 c2, Value.string p] 27)) 33 #[Value.slice none 0 0, Value.int IntKind.i64 0, Value.int IntKind.i64 0, Value.int IntKind.i64 0, Value.int IntKind.i64 0, Value.int IntKind.i64 0, Value.slice none 0 0, Value.string { data := #[] }] (show w.heap.size + 1 = _ by rw [World.size_alloc])).more (.cells #[Value.slice none 0 0, Value.int IntKind.i64 0, Value.int IntKind.i64 0, Value.int IntKind.i64 0, Value.int IntKind.i64 0, Value.int IntKind.i64 0, Value.slice none 0 0, Value.string { data := #[] }] 33))
  have E2 := Lib.hid (Whole.made ((w.alloc (.cells #[Value.slice a1 n1 c1, Value.int IntKind.i64 r.Slots, Value.int IntKind.i64 r.Least, Value.int IntKind.i64 r.Most, Value.int IntKind.i64 r.Row, Value.int IntKind.i64 r.Pause, Value.slice a2 n2 c2, Value.string p] 27)).alloc (.cells #[Value.slice none 0 0, Value.int IntKind.i64 0, Value.int IntKind.i64 0, Value.int IntKind.i64 0, Value.int IntKind.i64 0, Value.int IntKind.i64 0, Value.slice none 0 0, Value.string { data := #[] }] 33)) 33 #[Value.slice none 0 0, Value.int IntKind.i64 0, Value.int IntKind.i64 0, Value.int IntKind.i64 0, Value.int IntKind.i64 0, Value.int IntKind.i64 0, Value.slice none 0 0, Value.string { data := #[] }] (show w.heap.size + 1 + 1 = _ by rw [World.size_alloc, World.size_alloc]))
  have B3 := Lib.hid (below_alloc (below_alloc (below_alloc (Below.refl w.heap.size w) (.cells #[Value.slice a1 n1 c1, Value.int IntKind.i64 r.Slots, Value.int IntKind.i64 r.Least, Value.int IntKind.i64 r.Most, Value.int IntKind.i64 r.Row, Value.int IntKind.i64 r.Pause, Value.slice a2 n2 c2, Value.string p] 27)) (.cells #[Value.slice none 0 0, Value.int IntKind.i64 0, Value.int IntKind.i64 0, Value.int IntKind.i64 0, Value.int IntKind.i64 0, Value.int IntKind.i64 0, Value.slice none 0 0, Value.string { data := #[] }] 33)) (.cells #[Value.slice none 0 0, Value.int IntKind.i64 0, Value.int IntKind.i64 0, Value.int IntKind.i64 0, Value.int IntKind.i64 0, Value.int IntKind.i64 0, Value.slice none 0 0, Value.string { data := #[] }] 33))
  go_enter Try.func10, Try.ntmps10
  go_wp2_with fail
  generalize (((w.alloc (.cells #[Value.slice a1 n1 c1, Value.int IntKind.i64 r.Slots, Value.int IntKind.i64 r.Least, Value.int IntKind.i64 r.Most, Value.int IntKind.i64 r.Row, Value.int IntKind.i64 r.Pause, Value.slice a2 n2 c2, Value.string p] 27)).alloc (.cells #[Value.slice none 0 0, Value.int IntKind.i64 0, Value.int IntKind.i64 0, Value.int IntKind.i64 0, Value.int IntKind.i64 0, Value.int IntKind.i64 0, Value.slice none 0 0, Value.string { data := #[] }] 33)).alloc (.cells #[Value.slice none 0 0, Value.int IntKind.i64 0, Value.int IntKind.i64 0, Value.int IntKind.i64 0, Value.int IntKind.i64 0, Value.int IntKind.i64 0, Value.slice none 0 0, Value.string { data := #[] }] 33)) = w3 at *
  refine (hJ.out w3 B3.out).mono ?_
  rintro e w4 ⟨uj, rfl, oj, b4⟩
  have J := Lib.hid oj; have hG := Lib.hid E2.out.size; have hSz := Lib.hid (Nat.le_refl w4.heap.size); have X0 := Lib.hid (E0.out.kept b4); have X1 := Lib.hid (E1.out.kept b4); have X2 := Lib.hid (E2.out.kept b4); have B4 := Lib.hid (below_on B3.out (Nat.le_refl _) b4)
  clear oj b4 E0 E1 E2 B3 hJ
  obtain ⟨aj, cj, rfl, -⟩ := J.out.lstK (Nat.le_refl _)
  have d1 : w4.cell? ⟨w.heap.size, 1, none⟩ = some (Value.int IntKind.i64 r.Slots) := X0.out.at_ (i := 1) rfl
  have d2 : w4.cell? ⟨w.heap.size, 2, none⟩ = some (Value.int IntKind.i64 r.Least) := X0.out.at_ (i := 2) rfl
  have d3 : w4.cell? ⟨w.heap.size, 3, none⟩ = some (Value.int IntKind.i64 r.Most) := X0.out.at_ (i := 3) rfl
  have d4 : w4.cell? ⟨w.heap.size, 4, none⟩ = some (Value.int IntKind.i64 r.Row) := X0.out.at_ (i := 4) rfl
  have d5 : w4.cell? ⟨w.heap.size, 5, none⟩ = some (Value.int IntKind.i64 r.Pause) := X0.out.at_ (i := 5) rfl
  have z0 : w4.cell? ⟨w.heap.size + 1 + 1, 0, none⟩ = some (Value.slice none 0 0) := X2.out.at_ (i := 0) rfl; have y0 : w4.frozen? ⟨w.heap.size + 1 + 1, 0, none⟩ = false := X2.out.free 0
  replace X2 := Lib.hid (show Whole (w4.setCell ⟨w.heap.size + 1 + 1, 0, none⟩ (Value.slice aj n1 cj)) (w.heap.size + 1 + 1) 33 #[Value.slice aj n1 cj, Value.int IntKind.i64 0, Value.int IntKind.i64 0, Value.int IntKind.i64 0, Value.int IntKind.i64 0, Value.int IntKind.i64 0, Value.slice none 0 0, Value.string { data := #[] }] from X2.out.put 0 (Value.slice aj n1 cj))
  replace X0 := Lib.hid (X0.out.apart (p := ⟨w.heap.size + 1 + 1, 0, none⟩) (show w.heap.size ≠ w.heap.size + 1 + 1 by omega) (Value.slice aj n1 cj))
  replace X1 := Lib.hid (X1.out.apart (p := ⟨w.heap.size + 1 + 1, 0, none⟩) (show w.heap.size + 1 ≠ w.heap.size + 1 + 1 by omega) (Value.slice aj n1 cj))
  replace B4 := Lib.hid (B4.out.setCell (p := ⟨w.heap.size + 1 + 1, 0, none⟩) (show w.heap.size ≤ w.heap.size + 1 + 1 by omega) (Value.slice aj n1 cj))
  replace J := Lib.hid (own_off J.out (p := ⟨w.heap.size + 1 + 1, 0, none⟩) (by have := hG.out; simp only; omega) (Value.slice aj n1 cj))
  replace hSz := Lib.hid (show w4.heap.size ≤ (w4.setCell ⟨w.heap.size + 1 + 1, 0, none⟩ (Value.slice aj n1 cj)).heap.size by rw [World.size_setCell]; exact hSz.out)
  go_wp2_with fail
  generalize (w4.setCell ⟨w.heap.size + 1 + 1, 0, none⟩ (Value.slice aj n1 cj)) = w4a at *
  refine (hR.out w4a).mono ?_
  rintro e w5 ⟨rfl, b5⟩
  replace J := Lib.hid (own_kept J.out b5)
  replace X0 := Lib.hid (X0.out.kept b5); replace X1 := Lib.hid (X1.out.kept b5); replace X2 := Lib.hid (X2.out.kept b5); replace B4 := Lib.hid (below_on B4.out (Nat.le_refl _) b5); replace hSz := Lib.hid (Nat.le_trans hSz.out b5.size)
  clear b5 d1 d2 d3 d4 d5 z0 y0
  have d6 : w5.cell? ⟨w.heap.size, 6, none⟩ = some (Value.slice a2 n2 c2) := X0.out.at_ (i := 6) rfl
  have z1 : w5.cell? ⟨w.heap.size + 1 + 1, 1, none⟩ = some (Value.int IntKind.i64 0) := X2.out.at_ (i := 1) rfl; have y1 : w5.frozen? ⟨w.heap.size + 1 + 1, 1, none⟩ = false := X2.out.free 1
  have z2 : w5.cell? ⟨w.heap.size + 1 + 1, 2, none⟩ = some (Value.int IntKind.i64 0) := X2.out.at_ (i := 2) rfl; have y2 : w5.frozen? ⟨w.heap.size + 1 + 1, 2, none⟩ = false := X2.out.free 2
  have z3 : w5.cell? ⟨w.heap.size + 1 + 1, 3, none⟩ = some (Value.int IntKind.i64 0) := X2.out.at_ (i := 3) rfl; have y3 : w5.frozen? ⟨w.heap.size + 1 + 1, 3, none⟩ = false := X2.out.free 3
  have z4 : w5.cell? ⟨w.heap.size + 1 + 1, 4, none⟩ = some (Value.int IntKind.i64 0) := X2.out.at_ (i := 4) rfl; have y4 : w5.frozen? ⟨w.heap.size + 1 + 1, 4, none⟩ = false := X2.out.free 4
  have z5 : w5.cell? ⟨w.heap.size + 1 + 1, 5, none⟩ = some (Value.int IntKind.i64 0) := X2.out.at_ (i := 5) rfl; have y5 : w5.frozen? ⟨w.heap.size + 1 + 1, 5, none⟩ = false := X2.out.free 5
  replace X2 := Lib.hid (show Whole (w5.setCell ⟨w.heap.size + 1 + 1, 1, none⟩ (Value.int IntKind.i64 r.Slots)) (w.heap.size + 1 + 1) 33 #[Value.slice aj n1 cj, Value.int IntKind.i64 r.Slots, Value.int IntKind.i64 0, Value.int IntKind.i64 0, Value.int IntKind.i64 0, Value.int IntKind.i64 0, Value.slice none 0 0, Value.string { data := #[] }] from X2.out.put 1 (Value.int IntKind.i64 r.Slots))
  replace X0 := Lib.hid (X0.out.apart (p := ⟨w.heap.size + 1 + 1, 1, none⟩) (show w.heap.size ≠ w.heap.size + 1 + 1 by omega) (Value.int IntKind.i64 r.Slots))
  replace X1 := Lib.hid (X1.out.apart (p := ⟨w.heap.size + 1 + 1, 1, none⟩) (show w.heap.size + 1 ≠ w.heap.size + 1 + 1 by omega) (Value.int IntKind.i64 r.Slots))
  replace B4 := Lib.hid (B4.out.setCell (p := ⟨w.heap.size + 1 + 1, 1, none⟩) (show w.heap.size ≤ w.heap.size + 1 + 1 by omega) (Value.int IntKind.i64 r.Slots))
  replace J := Lib.hid (own_off J.out (p := ⟨w.heap.size + 1 + 1, 1, none⟩) (by have := hG.out; simp only; omega) (Value.int IntKind.i64 r.Slots))
  replace hSz := Lib.hid (show w4.heap.size ≤ (w5.setCell ⟨w.heap.size + 1 + 1, 1, none⟩ (Value.int IntKind.i64 r.Slots)).heap.size by rw [World.size_setCell]; exact hSz.out)
  replace X2 := Lib.hid (show Whole ((w5.setCell ⟨w.heap.size + 1 + 1, 1, none⟩ (Value.int IntKind.i64 r.Slots)).setCell ⟨w.heap.size + 1 + 1, 2, none⟩ (Value.int IntKind.i64 r.Least)) (w.heap.size + 1 + 1) 33 #[Value.slice aj n1 cj, Value.int IntKind.i64 r.Slots, Value.int IntKind.i64 r.Least, Value.int IntKind.i64 0, Value.int IntKind.i64 0, Value.int IntKind.i64 0, Value.slice none 0 0, Value.string { data := #[] }] from X2.out.put 2 (Value.int IntKind.i64 r.Least))
  replace X0 := Lib.hid (X0.out.apart (p := ⟨w.heap.size + 1 + 1, 2, none⟩) (show w.heap.size ≠ w.heap.size + 1 + 1 by omega) (Value.int IntKind.i64 r.Least))
  replace X1 := Lib.hid (X1.out.apart (p := ⟨w.heap.size + 1 + 1, 2, none⟩) (show w.heap.size + 1 ≠ w.heap.size + 1 + 1 by omega) (Value.int IntKind.i64 r.Least))
  replace B4 := Lib.hid (B4.out.setCell (p := ⟨w.heap.size + 1 + 1, 2, none⟩) (show w.heap.size ≤ w.heap.size + 1 + 1 by omega) (Value.int IntKind.i64 r.Least))
  replace J := Lib.hid (own_off J.out (p := ⟨w.heap.size + 1 + 1, 2, none⟩) (by have := hG.out; simp only; omega) (Value.int IntKind.i64 r.Least))
  replace hSz := Lib.hid (show w4.heap.size ≤ ((w5.setCell ⟨w.heap.size + 1 + 1, 1, none⟩ (Value.int IntKind.i64 r.Slots)).setCell ⟨w.heap.size + 1 + 1, 2, none⟩ (Value.int IntKind.i64 r.Least)).heap.size by rw [World.size_setCell]; exact hSz.out)
  replace X2 := Lib.hid (show Whole (((w5.setCell ⟨w.heap.size + 1 + 1, 1, none⟩ (Value.int IntKind.i64 r.Slots)).setCell ⟨w.heap.size + 1 + 1, 2, none⟩ (Value.int IntKind.i64 r.Least)).setCell ⟨w.heap.size + 1 + 1, 3, none⟩ (Value.int IntKind.i64 r.Most)) (w.heap.size + 1 + 1) 33 #[Value.slice aj n1 cj, Value.int IntKind.i64 r.Slots, Value.int IntKind.i64 r.Least, Value.int IntKind.i64 r.Most, Value.int IntKind.i64 0, Value.int IntKind.i64 0, Value.slice none 0 0, Value.string { data := #[] }] from X2.out.put 3 (Value.int IntKind.i64 r.Most))
  replace X0 := Lib.hid (X0.out.apart (p := ⟨w.heap.size + 1 + 1, 3, none⟩) (show w.heap.size ≠ w.heap.size + 1 + 1 by omega) (Value.int IntKind.i64 r.Most))
  replace X1 := Lib.hid (X1.out.apart (p := ⟨w.heap.size + 1 + 1, 3, none⟩) (show w.heap.size + 1 ≠ w.heap.size + 1 + 1 by omega) (Value.int IntKind.i64 r.Most))
  replace B4 := Lib.hid (B4.out.setCell (p := ⟨w.heap.size + 1 + 1, 3, none⟩) (show w.heap.size ≤ w.heap.size + 1 + 1 by omega) (Value.int IntKind.i64 r.Most))
  replace J := Lib.hid (own_off J.out (p := ⟨w.heap.size + 1 + 1, 3, none⟩) (by have := hG.out; simp only; omega) (Value.int IntKind.i64 r.Most))
  replace hSz := Lib.hid (show w4.heap.size ≤ (((w5.setCell ⟨w.heap.size + 1 + 1, 1, none⟩ (Value.int IntKind.i64 r.Slots)).setCell ⟨w.heap.size + 1 + 1, 2, none⟩ (Value.int IntKind.i64 r.Least)).setCell ⟨w.heap.size + 1 + 1, 3, none⟩ (Value.int IntKind.i64 r.Most)).heap.size by rw [World.size_setCell]; exact hSz.out)
  replace X2 := Lib.hid (show Whole ((((w5.setCell ⟨w.heap.size + 1 + 1, 1, none⟩ (Value.int IntKind.i64 r.Slots)).setCell ⟨w.heap.size + 1 + 1, 2, none⟩ (Value.int IntKind.i64 r.Least)).setCell ⟨w.heap.size + 1 + 1, 3, none⟩ (Value.int IntKind.i64 r.Most)).setCell ⟨w.heap.size + 1 + 1, 4, none⟩ (Value.int IntKind.i64 r.Row)) (w.heap.size + 1 + 1) 33 #[Value.slice aj n1 cj, Value.int IntKind.i64 r.Slots, Value.int IntKind.i64 r.Least, Value.int IntKind.i64 r.Most, Value.int IntKind.i64 r.Row, Value.int IntKind.i64 0, Value.slice none 0 0, Value.string { data := #[] }] from X2.out.put 4 (Value.int IntKind.i64 r.Row))
  replace X0 := Lib.hid (X0.out.apart (p := ⟨w.heap.size + 1 + 1, 4, none⟩) (show w.heap.size ≠ w.heap.size + 1 + 1 by omega) (Value.int IntKind.i64 r.Row))
  replace X1 := Lib.hid (X1.out.apart (p := ⟨w.heap.size + 1 + 1, 4, none⟩) (show w.heap.size + 1 ≠ w.heap.size + 1 + 1 by omega) (Value.int IntKind.i64 r.Row))
  replace B4 := Lib.hid (B4.out.setCell (p := ⟨w.heap.size + 1 + 1, 4, none⟩) (show w.heap.size ≤ w.heap.size + 1 + 1 by omega) (Value.int IntKind.i64 r.Row))
  replace J := Lib.hid (own_off J.out (p := ⟨w.heap.size + 1 + 1, 4, none⟩) (by have := hG.out; simp only; omega) (Value.int IntKind.i64 r.Row))
  replace hSz := Lib.hid (show w4.heap.size ≤ ((((w5.setCell ⟨w.heap.size + 1 + 1, 1, none⟩ (Value.int IntKind.i64 r.Slots)).setCell ⟨w.heap.size + 1 + 1, 2, none⟩ (Value.int IntKind.i64 r.Least)).setCell ⟨w.heap.size + 1 + 1, 3, none⟩ (Value.int IntKind.i64 r.Most)).setCell ⟨w.heap.size + 1 + 1, 4, none⟩ (Value.int IntKind.i64 r.Row)).heap.size by rw [World.size_setCell]; exact hSz.out)
  replace X2 := Lib.hid (show Whole (((((w5.setCell ⟨w.heap.size + 1 + 1, 1, none⟩ (Value.int IntKind.i64 r.Slots)).setCell ⟨w.heap.size + 1 + 1, 2, none⟩ (Value.int IntKind.i64 r.Least)).setCell ⟨w.heap.size + 1 + 1, 3, none⟩ (Value.int IntKind.i64 r.Most)).setCell ⟨w.heap.size + 1 + 1, 4, none⟩ (Value.int IntKind.i64 r.Row)).setCell ⟨w.heap.size + 1 + 1, 5, none⟩ (Value.int IntKind.i64 r.Pause)) (w.heap.size + 1 + 1) 33 #[Value.slice aj n1 cj, Value.int IntKind.i64 r.Slots, Value.int IntKind.i64 r.Least, Value.int IntKind.i64 r.Most, Value.int IntKind.i64 r.Row, Value.int IntKind.i64 r.Pause, Value.slice none 0 0, Value.string { data := #[] }] from X2.out.put 5 (Value.int IntKind.i64 r.Pause))
  replace X0 := Lib.hid (X0.out.apart (p := ⟨w.heap.size + 1 + 1, 5, none⟩) (show w.heap.size ≠ w.heap.size + 1 + 1 by omega) (Value.int IntKind.i64 r.Pause))
  replace X1 := Lib.hid (X1.out.apart (p := ⟨w.heap.size + 1 + 1, 5, none⟩) (show w.heap.size + 1 ≠ w.heap.size + 1 + 1 by omega) (Value.int IntKind.i64 r.Pause))
  replace B4 := Lib.hid (B4.out.setCell (p := ⟨w.heap.size + 1 + 1, 5, none⟩) (show w.heap.size ≤ w.heap.size + 1 + 1 by omega) (Value.int IntKind.i64 r.Pause))
  replace J := Lib.hid (own_off J.out (p := ⟨w.heap.size + 1 + 1, 5, none⟩) (by have := hG.out; simp only; omega) (Value.int IntKind.i64 r.Pause))
  replace hSz := Lib.hid (show w4.heap.size ≤ (((((w5.setCell ⟨w.heap.size + 1 + 1, 1, none⟩ (Value.int IntKind.i64 r.Slots)).setCell ⟨w.heap.size + 1 + 1, 2, none⟩ (Value.int IntKind.i64 r.Least)).setCell ⟨w.heap.size + 1 + 1, 3, none⟩ (Value.int IntKind.i64 r.Most)).setCell ⟨w.heap.size + 1 + 1, 4, none⟩ (Value.int IntKind.i64 r.Row)).setCell ⟨w.heap.size + 1 + 1, 5, none⟩ (Value.int IntKind.i64 r.Pause)).heap.size by rw [World.size_setCell]; exact hSz.out)
  go_wp2_with fail
  generalize (((((w5.setCell ⟨w.heap.size + 1 + 1, 1, none⟩ (Value.int IntKind.i64 r.Slots)).setCell ⟨w.heap.size + 1 + 1, 2, none⟩ (Value.int IntKind.i64 r.Least)).setCell ⟨w.heap.size + 1 + 1, 3, none⟩ (Value.int IntKind.i64 r.Most)).setCell ⟨w.heap.size + 1 + 1, 4, none⟩ (Value.int IntKind.i64 r.Row)).setCell ⟨w.heap.size + 1 + 1, 5, none⟩ (Value.int IntKind.i64 r.Pause)) = w5a at *
  refine (hC.out w5a B4.out).mono ?_
  rintro e w6 ⟨uc, rfl, oc, b6⟩
  replace J := Lib.hid (own_kept J.out b6)
  have C := Lib.hid oc
  have hGc := Lib.hid X2.out.size
  replace X0 := Lib.hid (X0.out.kept b6); replace X1 := Lib.hid (X1.out.kept b6); replace X2 := Lib.hid (X2.out.kept b6); replace B4 := Lib.hid (below_on B4.out (Nat.le_refl _) b6); replace hSz := Lib.hid (Nat.le_trans hSz.out b6.size)
  clear oc b6 d6 z1 y1 z2 y2 z3 y3 z4 y4 z5 y5
  obtain ⟨ac, cc, rfl, -⟩ := C.out.lstK (Nat.le_refl _)
  have d7 : w6.cell? ⟨w.heap.size, 7, none⟩ = some (Value.string p) := X0.out.at_ (i := 7) rfl
  have z6 : w6.cell? ⟨w.heap.size + 1 + 1, 6, none⟩ = some (Value.slice none 0 0) := X2.out.at_ (i := 6) rfl; have y6 : w6.frozen? ⟨w.heap.size + 1 + 1, 6, none⟩ = false := X2.out.free 6
  have z7 : w6.cell? ⟨w.heap.size + 1 + 1, 7, none⟩ = some (Value.string { data := #[] }) := X2.out.at_ (i := 7) rfl; have y7 : w6.frozen? ⟨w.heap.size + 1 + 1, 7, none⟩ = false := X2.out.free 7
  replace X2 := Lib.hid (show Whole (w6.setCell ⟨w.heap.size + 1 + 1, 6, none⟩ (Value.slice ac n2 cc)) (w.heap.size + 1 + 1) 33 #[Value.slice aj n1 cj, Value.int IntKind.i64 r.Slots, Value.int IntKind.i64 r.Least, Value.int IntKind.i64 r.Most, Value.int IntKind.i64 r.Row, Value.int IntKind.i64 r.Pause, Value.slice ac n2 cc, Value.string { data := #[] }] from X2.out.put 6 (Value.slice ac n2 cc))
  replace X1 := Lib.hid (X1.out.apart (p := ⟨w.heap.size + 1 + 1, 6, none⟩) (show w.heap.size + 1 ≠ w.heap.size + 1 + 1 by omega) (Value.slice ac n2 cc))
  replace B4 := Lib.hid (B4.out.setCell (p := ⟨w.heap.size + 1 + 1, 6, none⟩) (show w.heap.size ≤ w.heap.size + 1 + 1 by omega) (Value.slice ac n2 cc))
  replace J := Lib.hid (own_off J.out (p := ⟨w.heap.size + 1 + 1, 6, none⟩) (by have := hG.out; simp only; omega) (Value.slice ac n2 cc))
  replace C := Lib.hid (own_off C.out (p := ⟨w.heap.size + 1 + 1, 6, none⟩) (by have := hGc.out; simp only; omega) (Value.slice ac n2 cc))
  replace hSz := Lib.hid (show w4.heap.size ≤ (w6.setCell ⟨w.heap.size + 1 + 1, 6, none⟩ (Value.slice ac n2 cc)).heap.size by rw [World.size_setCell]; exact hSz.out)
  replace X2 := Lib.hid (show Whole ((w6.setCell ⟨w.heap.size + 1 + 1, 6, none⟩ (Value.slice ac n2 cc)).setCell ⟨w.heap.size + 1 + 1, 7, none⟩ (Value.string p)) (w.heap.size + 1 + 1) 33 #[Value.slice aj n1 cj, Value.int IntKind.i64 r.Slots, Value.int IntKind.i64 r.Least, Value.int IntKind.i64 r.Most, Value.int IntKind.i64 r.Row, Value.int IntKind.i64 r.Pause, Value.slice ac n2 cc, Value.string p] from X2.out.put 7 (Value.string p))
  replace X1 := Lib.hid (X1.out.apart (p := ⟨w.heap.size + 1 + 1, 7, none⟩) (show w.heap.size + 1 ≠ w.heap.size + 1 + 1 by omega) (Value.string p))
  replace B4 := Lib.hid (B4.out.setCell (p := ⟨w.heap.size + 1 + 1, 7, none⟩) (show w.heap.size ≤ w.heap.size + 1 + 1 by omega) (Value.string p))
  replace J := Lib.hid (own_off J.out (p := ⟨w.heap.size + 1 + 1, 7, none⟩) (by have := hG.out; simp only; omega) (Value.string p))
  replace C := Lib.hid (own_off C.out (p := ⟨w.heap.size + 1 + 1, 7, none⟩) (by have := hGc.out; simp only; omega) (Value.string p))
  replace hSz := Lib.hid (show w4.heap.size ≤ ((w6.setCell ⟨w.heap.size + 1 + 1, 6, none⟩ (Value.slice ac n2 cc)).setCell ⟨w.heap.size + 1 + 1, 7, none⟩ (Value.string p)).heap.size by rw [World.size_setCell]; exact hSz.out)
  clear X0
  have hW8 := Lib.hid X1.out.size
  have e0 : ((w6.setCell ⟨w.heap.size + 1 + 1, 6, none⟩ (Value.slice ac n2 cc)).setCell ⟨w.heap.size + 1 + 1, 7, none⟩ (Value.string p)).cell? ⟨w.heap.size + 1 + 1, 0, none⟩ = some (Value.slice aj n1 cj) := X2.out.at_ (i := 0) rfl
  have v0 : ((w6.setCell ⟨w.heap.size + 1 + 1, 6, none⟩ (Value.slice ac n2 cc)).setCell ⟨w.heap.size + 1 + 1, 7, none⟩ (Value.string p)).cell? ⟨w.heap.size + 1, 0, none⟩ = some (Value.slice none 0 0) := X1.out.at_ (i := 0) rfl; have q0 : ((w6.setCell ⟨w.heap.size + 1 + 1, 6, none⟩ (Value.slice ac n2 cc)).setCell ⟨w.heap.size + 1 + 1, 7, none⟩ (Value.string p)).frozen? ⟨w.heap.size + 1, 0, none⟩ = false := X1.out.free 0
  have e1 : ((w6.setCell ⟨w.heap.size + 1 + 1, 6, none⟩ (Value.slice ac n2 cc)).setCell ⟨w.heap.size + 1 + 1, 7, none⟩ (Value.string p)).cell? ⟨w.heap.size + 1 + 1, 1, none⟩ = some (Value.int IntKind.i64 r.Slots) := X2.out.at_ (i := 1) rfl
  have v1 : ((w6.setCell ⟨w.heap.size + 1 + 1, 6, none⟩ (Value.slice ac n2 cc)).setCell ⟨w.heap.size + 1 + 1, 7, none⟩ (Value.string p)).cell? ⟨w.heap.size + 1, 1, none⟩ = some (Value.int IntKind.i64 0) := X1.out.at_ (i := 1) rfl; have q1 : ((w6.setCell ⟨w.heap.size + 1 + 1, 6, none⟩ (Value.slice ac n2 cc)).setCell ⟨w.heap.size + 1 + 1, 7, none⟩ (Value.string p)).frozen? ⟨w.heap.size + 1, 1, none⟩ = false := X1.out.free 1
  have e2 : ((w6.setCell ⟨w.heap.size + 1 + 1, 6, none⟩ (Value.slice ac n2 cc)).setCell ⟨w.heap.size + 1 + 1, 7, none⟩ (Value.string p)).cell? ⟨w.heap.size + 1 + 1, 2, none⟩ = some (Value.int IntKind.i64 r.Least) := X2.out.at_ (i := 2) rfl
  have v2 : ((w6.setCell ⟨w.heap.size + 1 + 1, 6, none⟩ (Value.slice ac n2 cc)).setCell ⟨w.heap.size + 1 + 1, 7, none⟩ (Value.string p)).cell? ⟨w.heap.size + 1, 2, none⟩ = some (Value.int IntKind.i64 0) := X1.out.at_ (i := 2) rfl; have q2 : ((w6.setCell ⟨w.heap.size + 1 + 1, 6, none⟩ (Value.slice ac n2 cc)).setCell ⟨w.heap.size + 1 + 1, 7, none⟩ (Value.string p)).frozen? ⟨w.heap.size + 1, 2, none⟩ = false := X1.out.free 2
  have e3 : ((w6.setCell ⟨w.heap.size + 1 + 1, 6, none⟩ (Value.slice ac n2 cc)).setCell ⟨w.heap.size + 1 + 1, 7, none⟩ (Value.string p)).cell? ⟨w.heap.size + 1 + 1, 3, none⟩ = some (Value.int IntKind.i64 r.Most) := X2.out.at_ (i := 3) rfl
  have v3 : ((w6.setCell ⟨w.heap.size + 1 + 1, 6, none⟩ (Value.slice ac n2 cc)).setCell ⟨w.heap.size + 1 + 1, 7, none⟩ (Value.string p)).cell? ⟨w.heap.size + 1, 3, none⟩ = some (Value.int IntKind.i64 0) := X1.out.at_ (i := 3) rfl; have q3 : ((w6.setCell ⟨w.heap.size + 1 + 1, 6, none⟩ (Value.slice ac n2 cc)).setCell ⟨w.heap.size + 1 + 1, 7, none⟩ (Value.string p)).frozen? ⟨w.heap.size + 1, 3, none⟩ = false := X1.out.free 3
  have e4 : ((w6.setCell ⟨w.heap.size + 1 + 1, 6, none⟩ (Value.slice ac n2 cc)).setCell ⟨w.heap.size + 1 + 1, 7, none⟩ (Value.string p)).cell? ⟨w.heap.size + 1 + 1, 4, none⟩ = some (Value.int IntKind.i64 r.Row) := X2.out.at_ (i := 4) rfl
  have v4 : ((w6.setCell ⟨w.heap.size + 1 + 1, 6, none⟩ (Value.slice ac n2 cc)).setCell ⟨w.heap.size + 1 + 1, 7, none⟩ (Value.string p)).cell? ⟨w.heap.size + 1, 4, none⟩ = some (Value.int IntKind.i64 0) := X1.out.at_ (i := 4) rfl; have q4 : ((w6.setCell ⟨w.heap.size + 1 + 1, 6, none⟩ (Value.slice ac n2 cc)).setCell ⟨w.heap.size + 1 + 1, 7, none⟩ (Value.string p)).frozen? ⟨w.heap.size + 1, 4, none⟩ = false := X1.out.free 4
  have e5 : ((w6.setCell ⟨w.heap.size + 1 + 1, 6, none⟩ (Value.slice ac n2 cc)).setCell ⟨w.heap.size + 1 + 1, 7, none⟩ (Value.string p)).cell? ⟨w.heap.size + 1 + 1, 5, none⟩ = some (Value.int IntKind.i64 r.Pause) := X2.out.at_ (i := 5) rfl
  have v5 : ((w6.setCell ⟨w.heap.size + 1 + 1, 6, none⟩ (Value.slice ac n2 cc)).setCell ⟨w.heap.size + 1 + 1, 7, none⟩ (Value.string p)).cell? ⟨w.heap.size + 1, 5, none⟩ = some (Value.int IntKind.i64 0) := X1.out.at_ (i := 5) rfl; have q5 : ((w6.setCell ⟨w.heap.size + 1 + 1, 6, none⟩ (Value.slice ac n2 cc)).setCell ⟨w.heap.size + 1 + 1, 7, none⟩ (Value.string p)).frozen? ⟨w.heap.size + 1, 5, none⟩ = false := X1.out.free 5
  have e6 : ((w6.setCell ⟨w.heap.size + 1 + 1, 6, none⟩ (Value.slice ac n2 cc)).setCell ⟨w.heap.size + 1 + 1, 7, none⟩ (Value.string p)).cell? ⟨w.heap.size + 1 + 1, 6, none⟩ = some (Value.slice ac n2 cc) := X2.out.at_ (i := 6) rfl
  have v6 : ((w6.setCell ⟨w.heap.size + 1 + 1, 6, none⟩ (Value.slice ac n2 cc)).setCell ⟨w.heap.size + 1 + 1, 7, none⟩ (Value.string p)).cell? ⟨w.heap.size + 1, 6, none⟩ = some (Value.slice none 0 0) := X1.out.at_ (i := 6) rfl; have q6 : ((w6.setCell ⟨w.heap.size + 1 + 1, 6, none⟩ (Value.slice ac n2 cc)).setCell ⟨w.heap.size + 1 + 1, 7, none⟩ (Value.string p)).frozen? ⟨w.heap.size + 1, 6, none⟩ = false := X1.out.free 6
  have e7 : ((w6.setCell ⟨w.heap.size + 1 + 1, 6, none⟩ (Value.slice ac n2 cc)).setCell ⟨w.heap.size + 1 + 1, 7, none⟩ (Value.string p)).cell? ⟨w.heap.size + 1 + 1, 7, none⟩ = some (Value.string p) := X2.out.at_ (i := 7) rfl
  have v7 : ((w6.setCell ⟨w.heap.size + 1 + 1, 6, none⟩ (Value.slice ac n2 cc)).setCell ⟨w.heap.size + 1 + 1, 7, none⟩ (Value.string p)).cell? ⟨w.heap.size + 1, 7, none⟩ = some (Value.string { data := #[] }) := X1.out.at_ (i := 7) rfl; have q7 : ((w6.setCell ⟨w.heap.size + 1 + 1, 6, none⟩ (Value.slice ac n2 cc)).setCell ⟨w.heap.size + 1 + 1, 7, none⟩ (Value.string p)).frozen? ⟨w.heap.size + 1, 7, none⟩ = false := X1.out.free 7
  clear X2
  replace X1 := Lib.hid (show Whole (((w6.setCell ⟨w.heap.size + 1 + 1, 6, none⟩ (Value.slice ac n2 cc)).setCell ⟨w.heap.size + 1 + 1, 7, none⟩ (Value.string p)).setCell ⟨w.heap.size + 1, 0, none⟩ (Value.slice aj n1 cj)) (w.heap.size + 1) 33 #[Value.slice aj n1 cj, Value.int IntKind.i64 0, Value.int IntKind.i64 0, Value.int IntKind.i64 0, Value.int IntKind.i64 0, Value.int IntKind.i64 0, Value.slice none 0 0, Value.string { data := #[] }] from X1.out.put 0 (Value.slice aj n1 cj))
  replace B4 := Lib.hid (B4.out.setCell (p := ⟨w.heap.size + 1, 0, none⟩) (show w.heap.size ≤ w.heap.size + 1 by omega) (Value.slice aj n1 cj))
  replace J := Lib.hid (own_off J.out (p := ⟨w.heap.size + 1, 0, none⟩) (by have := hG.out; simp only; omega) (Value.slice aj n1 cj))
  replace C := Lib.hid (own_off C.out (p := ⟨w.heap.size + 1, 0, none⟩) (by have := hGc.out; simp only; omega) (Value.slice aj n1 cj))
  replace hSz := Lib.hid (show w4.heap.size ≤ (((w6.setCell ⟨w.heap.size + 1 + 1, 6, none⟩ (Value.slice ac n2 cc)).setCell ⟨w.heap.size + 1 + 1, 7, none⟩ (Value.string p)).setCell ⟨w.heap.size + 1, 0, none⟩ (Value.slice aj n1 cj)).heap.size by rw [World.size_setCell]; exact hSz.out)
  replace X1 := Lib.hid (show Whole ((((w6.setCell ⟨w.heap.size + 1 + 1, 6, none⟩ (Value.slice ac n2 cc)).setCell ⟨w.heap.size + 1 + 1, 7, none⟩ (Value.string p)).setCell ⟨w.heap.size + 1, 0, none⟩ (Value.slice aj n1 cj)).setCell ⟨w.heap.size + 1, 1, none⟩ (Value.int IntKind.i64 r.Slots)) (w.heap.size + 1) 33 #[Value.slice aj n1 cj, Value.int IntKind.i64 r.Slots, Value.int IntKind.i64 0, Value.int IntKind.i64 0, Value.int IntKind.i64 0, Value.int IntKind.i64 0, Value.slice none 0 0, Value.string { data := #[] }] from X1.out.put 1 (Value.int IntKind.i64 r.Slots))
  replace B4 := Lib.hid (B4.out.setCell (p := ⟨w.heap.size + 1, 1, none⟩) (show w.heap.size ≤ w.heap.size + 1 by omega) (Value.int IntKind.i64 r.Slots))
  replace J := Lib.hid (own_off J.out (p := ⟨w.heap.size + 1, 1, none⟩) (by have := hG.out; simp only; omega) (Value.int IntKind.i64 r.Slots))
  replace C := Lib.hid (own_off C.out (p := ⟨w.heap.size + 1, 1, none⟩) (by have := hGc.out; simp only; omega) (Value.int IntKind.i64 r.Slots))
  replace hSz := Lib.hid (show w4.heap.size ≤ ((((w6.setCell ⟨w.heap.size + 1 + 1, 6, none⟩ (Value.slice ac n2 cc)).setCell ⟨w.heap.size + 1 + 1, 7, none⟩ (Value.string p)).setCell ⟨w.heap.size + 1, 0, none⟩ (Value.slice aj n1 cj)).setCell ⟨w.heap.size + 1, 1, none⟩ (Value.int IntKind.i64 r.Slots)).heap.size by rw [World.size_setCell]; exact hSz.out)
  replace X1 := Lib.hid (show Whole (((((w6.setCell ⟨w.heap.size + 1 + 1, 6, none⟩ (Value.slice ac n2 cc)).setCell ⟨w.heap.size + 1 + 1, 7, none⟩ (Value.string p)).setCell ⟨w.heap.size + 1, 0, none⟩ (Value.slice aj n1 cj)).setCell ⟨w.heap.size + 1, 1, none⟩ (Value.int IntKind.i64 r.Slots)).setCell ⟨w.heap.size + 1, 2, none⟩ (Value.int IntKind.i64 r.Least)) (w.heap.size + 1) 33 #[Value.slice aj n1 cj, Value.int IntKind.i64 r.Slots, Value.int IntKind.i64 r.Least, Value.int IntKind.i64 0, Value.int IntKind.i64 0, Value.int IntKind.i64 0, Value.slice none 0 0, Value.string { data := #[] }] from X1.out.put 2 (Value.int IntKind.i64 r.Least))
  replace B4 := Lib.hid (B4.out.setCell (p := ⟨w.heap.size + 1, 2, none⟩) (show w.heap.size ≤ w.heap.size + 1 by omega) (Value.int IntKind.i64 r.Least))
  replace J := Lib.hid (own_off J.out (p := ⟨w.heap.size + 1, 2, none⟩) (by have := hG.out; simp only; omega) (Value.int IntKind.i64 r.Least))
  replace C := Lib.hid (own_off C.out (p := ⟨w.heap.size + 1, 2, none⟩) (by have := hGc.out; simp only; omega) (Value.int IntKind.i64 r.Least))
  replace hSz := Lib.hid (show w4.heap.size ≤ (((((w6.setCell ⟨w.heap.size + 1 + 1, 6, none⟩ (Value.slice ac n2 cc)).setCell ⟨w.heap.size + 1 + 1, 7, none⟩ (Value.string p)).setCell ⟨w.heap.size + 1, 0, none⟩ (Value.slice aj n1 cj)).setCell ⟨w.heap.size + 1, 1, none⟩ (Value.int IntKind.i64 r.Slots)).setCell ⟨w.heap.size + 1, 2, none⟩ (Value.int IntKind.i64 r.Least)).heap.size by rw [World.size_setCell]; exact hSz.out)
  replace X1 := Lib.hid (show Whole ((((((w6.setCell ⟨w.heap.size + 1 + 1, 6, none⟩ (Value.slice ac n2 cc)).setCell ⟨w.heap.size + 1 + 1, 7, none⟩ (Value.string p)).setCell ⟨w.heap.size + 1, 0, none⟩ (Value.slice aj n1 cj)).setCell ⟨w.heap.size + 1, 1, none⟩ (Value.int IntKind.i64 r.Slots)).setCell ⟨w.heap.size + 1, 2, none⟩ (Value.int IntKind.i64 r.Least)).setCell ⟨w.heap.size + 1, 3, none⟩ (Value.int IntKind.i64 r.Most)) (w.heap.size + 1) 33 #[Value.slice aj n1 cj, Value.int IntKind.i64 r.Slots, Value.int IntKind.i64 r.Least, Value.int IntKind.i64 r.Most, Value.int IntKind.i64 0, Value.int IntKind.i64 0, Value.slice none 0 0, Value.string { data := #[] }] from X1.out.put 3 (Value.int IntKind.i64 r.Most))
  replace B4 := Lib.hid (B4.out.setCell (p := ⟨w.heap.size + 1, 3, none⟩) (show w.heap.size ≤ w.heap.size + 1 by omega) (Value.int IntKind.i64 r.Most))
  replace J := Lib.hid (own_off J.out (p := ⟨w.heap.size + 1, 3, none⟩) (by have := hG.out; simp only; omega) (Value.int IntKind.i64 r.Most))
  replace C := Lib.hid (own_off C.out (p := ⟨w.heap.size + 1, 3, none⟩) (by have := hGc.out; simp only; omega) (Value.int IntKind.i64 r.Most))
  replace hSz := Lib.hid (show w4.heap.size ≤ ((((((w6.setCell ⟨w.heap.size + 1 + 1, 6, none⟩ (Value.slice ac n2 cc)).setCell ⟨w.heap.size + 1 + 1, 7, none⟩ (Value.string p)).setCell ⟨w.heap.size + 1, 0, none⟩ (Value.slice aj n1 cj)).setCell ⟨w.heap.size + 1, 1, none⟩ (Value.int IntKind.i64 r.Slots)).setCell ⟨w.heap.size + 1, 2, none⟩ (Value.int IntKind.i64 r.Least)).setCell ⟨w.heap.size + 1, 3, none⟩ (Value.int IntKind.i64 r.Most)).heap.size by rw [World.size_setCell]; exact hSz.out)
  replace X1 := Lib.hid (show Whole (((((((w6.setCell ⟨w.heap.size + 1 + 1, 6, none⟩ (Value.slice ac n2 cc)).setCell ⟨w.heap.size + 1 + 1, 7, none⟩ (Value.string p)).setCell ⟨w.heap.size + 1, 0, none⟩ (Value.slice aj n1 cj)).setCell ⟨w.heap.size + 1, 1, none⟩ (Value.int IntKind.i64 r.Slots)).setCell ⟨w.heap.size + 1, 2, none⟩ (Value.int IntKind.i64 r.Least)).setCell ⟨w.heap.size + 1, 3, none⟩ (Value.int IntKind.i64 r.Most)).setCell ⟨w.heap.size + 1, 4, none⟩ (Value.int IntKind.i64 r.Row)) (w.heap.size + 1) 33 #[Value.slice aj n1 cj, Value.int IntKind.i64 r.Slots, Value.int IntKind.i64 r.Least, Value.int IntKind.i64 r.Most, Value.int IntKind.i64 r.Row, Value.int IntKind.i64 0, Value.slice none 0 0, Value.string { data := #[] }] from X1.out.put 4 (Value.int IntKind.i64 r.Row))
  replace B4 := Lib.hid (B4.out.setCell (p := ⟨w.heap.size + 1, 4, none⟩) (show w.heap.size ≤ w.heap.size + 1 by omega) (Value.int IntKind.i64 r.Row))
  replace J := Lib.hid (own_off J.out (p := ⟨w.heap.size + 1, 4, none⟩) (by have := hG.out; simp only; omega) (Value.int IntKind.i64 r.Row))
  replace C := Lib.hid (own_off C.out (p := ⟨w.heap.size + 1, 4, none⟩) (by have := hGc.out; simp only; omega) (Value.int IntKind.i64 r.Row))
  replace hSz := Lib.hid (show w4.heap.size ≤ (((((((w6.setCell ⟨w.heap.size + 1 + 1, 6, none⟩ (Value.slice ac n2 cc)).setCell ⟨w.heap.size + 1 + 1, 7, none⟩ (Value.string p)).setCell ⟨w.heap.size + 1, 0, none⟩ (Value.slice aj n1 cj)).setCell ⟨w.heap.size + 1, 1, none⟩ (Value.int IntKind.i64 r.Slots)).setCell ⟨w.heap.size + 1, 2, none⟩ (Value.int IntKind.i64 r.Least)).setCell ⟨w.heap.size + 1, 3, none⟩ (Value.int IntKind.i64 r.Most)).setCell ⟨w.heap.size + 1, 4, none⟩ (Value.int IntKind.i64 r.Row)).heap.size by rw [World.size_setCell]; exact hSz.out)
  replace X1 := Lib.hid (show Whole ((((((((w6.setCell ⟨w.heap.size + 1 + 1, 6, none⟩ (Value.slice ac n2 cc)).setCell ⟨w.heap.size + 1 + 1, 7, none⟩ (Value.string p)).setCell ⟨w.heap.size + 1, 0, none⟩ (Value.slice aj n1 cj)).setCell ⟨w.heap.size + 1, 1, none⟩ (Value.int IntKind.i64 r.Slots)).setCell ⟨w.heap.size + 1, 2, none⟩ (Value.int IntKind.i64 r.Least)).setCell ⟨w.heap.size + 1, 3, none⟩ (Value.int IntKind.i64 r.Most)).setCell ⟨w.heap.size + 1, 4, none⟩ (Value.int IntKind.i64 r.Row)).setCell ⟨w.heap.size + 1, 5, none⟩ (Value.int IntKind.i64 r.Pause)) (w.heap.size + 1) 33 #[Value.slice aj n1 cj, Value.int IntKind.i64 r.Slots, Value.int IntKind.i64 r.Least, Value.int IntKind.i64 r.Most, Value.int IntKind.i64 r.Row, Value.int IntKind.i64 r.Pause, Value.slice none 0 0, Value.string { data := #[] }] from X1.out.put 5 (Value.int IntKind.i64 r.Pause))
  replace B4 := Lib.hid (B4.out.setCell (p := ⟨w.heap.size + 1, 5, none⟩) (show w.heap.size ≤ w.heap.size + 1 by omega) (Value.int IntKind.i64 r.Pause))
  replace J := Lib.hid (own_off J.out (p := ⟨w.heap.size + 1, 5, none⟩) (by have := hG.out; simp only; omega) (Value.int IntKind.i64 r.Pause))
  replace C := Lib.hid (own_off C.out (p := ⟨w.heap.size + 1, 5, none⟩) (by have := hGc.out; simp only; omega) (Value.int IntKind.i64 r.Pause))
  replace hSz := Lib.hid (show w4.heap.size ≤ ((((((((w6.setCell ⟨w.heap.size + 1 + 1, 6, none⟩ (Value.slice ac n2 cc)).setCell ⟨w.heap.size + 1 + 1, 7, none⟩ (Value.string p)).setCell ⟨w.heap.size + 1, 0, none⟩ (Value.slice aj n1 cj)).setCell ⟨w.heap.size + 1, 1, none⟩ (Value.int IntKind.i64 r.Slots)).setCell ⟨w.heap.size + 1, 2, none⟩ (Value.int IntKind.i64 r.Least)).setCell ⟨w.heap.size + 1, 3, none⟩ (Value.int IntKind.i64 r.Most)).setCell ⟨w.heap.size + 1, 4, none⟩ (Value.int IntKind.i64 r.Row)).setCell ⟨w.heap.size + 1, 5, none⟩ (Value.int IntKind.i64 r.Pause)).heap.size by rw [World.size_setCell]; exact hSz.out)
  replace X1 := Lib.hid (show Whole (((((((((w6.setCell ⟨w.heap.size + 1 + 1, 6, none⟩ (Value.slice ac n2 cc)).setCell ⟨w.heap.size + 1 + 1, 7, none⟩ (Value.string p)).setCell ⟨w.heap.size + 1, 0, none⟩ (Value.slice aj n1 cj)).setCell ⟨w.heap.size + 1, 1, none⟩ (Value.int IntKind.i64 r.Slots)).setCell ⟨w.heap.size + 1, 2, none⟩ (Value.int IntKind.i64 r.Least)).setCell ⟨w.heap.size + 1, 3, none⟩ (Value.int IntKind.i64 r.Most)).setCell ⟨w.heap.size + 1, 4, none⟩ (Value.int IntKind.i64 r.Row)).setCell ⟨w.heap.size + 1, 5, none⟩ (Value.int IntKind.i64 r.Pause)).setCell ⟨w.heap.size + 1, 6, none⟩ (Value.slice ac n2 cc)) (w.heap.size + 1) 33 #[Value.slice aj n1 cj, Value.int IntKind.i64 r.Slots, Value.int IntKind.i64 r.Least, Value.int IntKind.i64 r.Most, Value.int IntKind.i64 r.Row, Value.int IntKind.i64 r.Pause, Value.slice ac n2 cc, Value.string { data := #[] }] from X1.out.put 6 (Value.slice ac n2 cc))
  replace B4 := Lib.hid (B4.out.setCell (p := ⟨w.heap.size + 1, 6, none⟩) (show w.heap.size ≤ w.heap.size + 1 by omega) (Value.slice ac n2 cc))
  replace J := Lib.hid (own_off J.out (p := ⟨w.heap.size + 1, 6, none⟩) (by have := hG.out; simp only; omega) (Value.slice ac n2 cc))
  replace C := Lib.hid (own_off C.out (p := ⟨w.heap.size + 1, 6, none⟩) (by have := hGc.out; simp only; omega) (Value.slice ac n2 cc))
  replace hSz := Lib.hid (show w4.heap.size ≤ (((((((((w6.setCell ⟨w.heap.size + 1 + 1, 6, none⟩ (Value.slice ac n2 cc)).setCell ⟨w.heap.size + 1 + 1, 7, none⟩ (Value.string p)).setCell ⟨w.heap.size + 1, 0, none⟩ (Value.slice aj n1 cj)).setCell ⟨w.heap.size + 1, 1, none⟩ (Value.int IntKind.i64 r.Slots)).setCell ⟨w.heap.size + 1, 2, none⟩ (Value.int IntKind.i64 r.Least)).setCell ⟨w.heap.size + 1, 3, none⟩ (Value.int IntKind.i64 r.Most)).setCell ⟨w.heap.size + 1, 4, none⟩ (Value.int IntKind.i64 r.Row)).setCell ⟨w.heap.size + 1, 5, none⟩ (Value.int IntKind.i64 r.Pause)).setCell ⟨w.heap.size + 1, 6, none⟩ (Value.slice ac n2 cc)).heap.size by rw [World.size_setCell]; exact hSz.out)
  replace X1 := Lib.hid (show Whole ((((((((((w6.setCell ⟨w.heap.size + 1 + 1, 6, none⟩ (Value.slice ac n2 cc)).setCell ⟨w.heap.size + 1 + 1, 7, none⟩ (Value.string p)).setCell ⟨w.heap.size + 1, 0, none⟩ (Value.slice aj n1 cj)).setCell ⟨w.heap.size + 1, 1, none⟩ (Value.int IntKind.i64 r.Slots)).setCell ⟨w.heap.size + 1, 2, none⟩ (Value.int IntKind.i64 r.Least)).setCell ⟨w.heap.size + 1, 3, none⟩ (Value.int IntKind.i64 r.Most)).setCell ⟨w.heap.size + 1, 4, none⟩ (Value.int IntKind.i64 r.Row)).setCell ⟨w.heap.size + 1, 5, none⟩ (Value.int IntKind.i64 r.Pause)).setCell ⟨w.heap.size + 1, 6, none⟩ (Value.slice ac n2 cc)).setCell ⟨w.heap.size + 1, 7, none⟩ (Value.string p)) (w.heap.size + 1) 33 #[Value.slice aj n1 cj, Value.int IntKind.i64 r.Slots, Value.int IntKind.i64 r.Least, Value.int IntKind.i64 r.Most, Value.int IntKind.i64 r.Row, Value.int IntKind.i64 r.Pause, Value.slice ac n2 cc, Value.string p] from X1.out.put 7 (Value.string p))
  replace B4 := Lib.hid (B4.out.setCell (p := ⟨w.heap.size + 1, 7, none⟩) (show w.heap.size ≤ w.heap.size + 1 by omega) (Value.string p))
  replace J := Lib.hid (own_off J.out (p := ⟨w.heap.size + 1, 7, none⟩) (by have := hG.out; simp only; omega) (Value.string p))
  replace C := Lib.hid (own_off C.out (p := ⟨w.heap.size + 1, 7, none⟩) (by have := hGc.out; simp only; omega) (Value.string p))
  replace hSz := Lib.hid (show w4.heap.size ≤ ((((((((((w6.setCell ⟨w.heap.size + 1 + 1, 6, none⟩ (Value.slice ac n2 cc)).setCell ⟨w.heap.size + 1 + 1, 7, none⟩ (Value.string p)).setCell ⟨w.heap.size + 1, 0, none⟩ (Value.slice aj n1 cj)).setCell ⟨w.heap.size + 1, 1, none⟩ (Value.int IntKind.i64 r.Slots)).setCell ⟨w.heap.size + 1, 2, none⟩ (Value.int IntKind.i64 r.Least)).setCell ⟨w.heap.size + 1, 3, none⟩ (Value.int IntKind.i64 r.Most)).setCell ⟨w.heap.size + 1, 4, none⟩ (Value.int IntKind.i64 r.Row)).setCell ⟨w.heap.size + 1, 5, none⟩ (Value.int IntKind.i64 r.Pause)).setCell ⟨w.heap.size + 1, 6, none⟩ (Value.slice ac n2 cc)).setCell ⟨w.heap.size + 1, 7, none⟩ (Value.string p)).heap.size by rw [World.size_setCell]; exact hSz.out)
  have hF := Lib.hid (hMk.out (Value.slice aj n1 cj) (Value.slice ac n2 cc) ((((((((((w6.setCell ⟨w.heap.size + 1 + 1, 6, none⟩ (Value.slice ac n2 cc)).setCell ⟨w.heap.size + 1 + 1, 7, none⟩ (Value.string p)).setCell ⟨w.heap.size + 1, 0, none⟩ (Value.slice aj n1 cj)).setCell ⟨w.heap.size + 1, 1, none⟩ (Value.int IntKind.i64 r.Slots)).setCell ⟨w.heap.size + 1, 2, none⟩ (Value.int IntKind.i64 r.Least)).setCell ⟨w.heap.size + 1, 3, none⟩ (Value.int IntKind.i64 r.Most)).setCell ⟨w.heap.size + 1, 4, none⟩ (Value.int IntKind.i64 r.Row)).setCell ⟨w.heap.size + 1, 5, none⟩ (Value.int IntKind.i64 r.Pause)).setCell ⟨w.heap.size + 1, 6, none⟩ (Value.slice ac n2 cc)).setCell ⟨w.heap.size + 1, 7, none⟩ (Value.string p)) (J.out.lstK (B' := ((((((((((w6.setCell ⟨w.heap.size + 1 + 1, 6, none⟩ (Value.slice ac n2 cc)).setCell ⟨w.heap.size + 1 + 1, 7, none⟩ (Value.string p)).setCell ⟨w.heap.size + 1, 0, none⟩ (Value.slice aj n1 cj)).setCell ⟨w.heap.size + 1, 1, none⟩ (Value.int IntKind.i64 r.Slots)).setCell ⟨w.heap.size + 1, 2, none⟩ (Value.int IntKind.i64 r.Least)).setCell ⟨w.heap.size + 1, 3, none⟩ (Value.int IntKind.i64 r.Most)).setCell ⟨w.heap.size + 1, 4, none⟩ (Value.int IntKind.i64 r.Row)).setCell ⟨w.heap.size + 1, 5, none⟩ (Value.int IntKind.i64 r.Pause)).setCell ⟨w.heap.size + 1, 6, none⟩ (Value.slice ac n2 cc)).setCell ⟨w.heap.size + 1, 7, none⟩ (Value.string p)).heap.size) hSz.out) (C.out.lstK (B' := ((((((((((w6.setCell ⟨w.heap.size + 1 + 1, 6, none⟩ (Value.slice ac n2 cc)).setCell ⟨w.heap.size + 1 + 1, 7, none⟩ (Value.string p)).setCell ⟨w.heap.size + 1, 0, none⟩ (Value.slice aj n1 cj)).setCell ⟨w.heap.size + 1, 1, none⟩ (Value.int IntKind.i64 r.Slots)).setCell ⟨w.heap.size + 1, 2, none⟩ (Value.int IntKind.i64 r.Least)).setCell ⟨w.heap.size + 1, 3, none⟩ (Value.int IntKind.i64 r.Most)).setCell ⟨w.heap.size + 1, 4, none⟩ (Value.int IntKind.i64 r.Row)).setCell ⟨w.heap.size + 1, 5, none⟩ (Value.int IntKind.i64 r.Pause)).setCell ⟨w.heap.size + 1, 6, none⟩ (Value.slice ac n2 cc)).setCell ⟨w.heap.size + 1, 7, none⟩ (Value.string p)).heap.size) (by simp only [World.size_setCell]; exact Nat.le_refl _)) B4.out)
  clear B4 J C hMk
  go_wp2_with fail
  have x0 : ((((((((((w6.setCell ⟨w.heap.size + 1 + 1, 6, none⟩ (Value.slice ac n2 cc)).setCell ⟨w.heap.size + 1 + 1, 7, none⟩ (Value.string p)).setCell ⟨w.heap.size + 1, 0, none⟩ (Value.slice aj n1 cj)).setCell ⟨w.heap.size + 1, 1, none⟩ (Value.int IntKind.i64 r.Slots)).setCell ⟨w.heap.size + 1, 2, none⟩ (Value.int IntKind.i64 r.Least)).setCell ⟨w.heap.size + 1, 3, none⟩ (Value.int IntKind.i64 r.Most)).setCell ⟨w.heap.size + 1, 4, none⟩ (Value.int IntKind.i64 r.Row)).setCell ⟨w.heap.size + 1, 5, none⟩ (Value.int IntKind.i64 r.Pause)).setCell ⟨w.heap.size + 1, 6, none⟩ (Value.slice ac n2 cc)).setCell ⟨w.heap.size + 1, 7, none⟩ (Value.string p)).cell? ⟨w.heap.size + 1, 0, none⟩ = some (Value.slice aj n1 cj) := X1.out.at_ (i := 0) rfl
  have x1 : ((((((((((w6.setCell ⟨w.heap.size + 1 + 1, 6, none⟩ (Value.slice ac n2 cc)).setCell ⟨w.heap.size + 1 + 1, 7, none⟩ (Value.string p)).setCell ⟨w.heap.size + 1, 0, none⟩ (Value.slice aj n1 cj)).setCell ⟨w.heap.size + 1, 1, none⟩ (Value.int IntKind.i64 r.Slots)).setCell ⟨w.heap.size + 1, 2, none⟩ (Value.int IntKind.i64 r.Least)).setCell ⟨w.heap.size + 1, 3, none⟩ (Value.int IntKind.i64 r.Most)).setCell ⟨w.heap.size + 1, 4, none⟩ (Value.int IntKind.i64 r.Row)).setCell ⟨w.heap.size + 1, 5, none⟩ (Value.int IntKind.i64 r.Pause)).setCell ⟨w.heap.size + 1, 6, none⟩ (Value.slice ac n2 cc)).setCell ⟨w.heap.size + 1, 7, none⟩ (Value.string p)).cell? ⟨w.heap.size + 1, 1, none⟩ = some (Value.int IntKind.i64 r.Slots) := X1.out.at_ (i := 1) rfl
  have x2 : ((((((((((w6.setCell ⟨w.heap.size + 1 + 1, 6, none⟩ (Value.slice ac n2 cc)).setCell ⟨w.heap.size + 1 + 1, 7, none⟩ (Value.string p)).setCell ⟨w.heap.size + 1, 0, none⟩ (Value.slice aj n1 cj)).setCell ⟨w.heap.size + 1, 1, none⟩ (Value.int IntKind.i64 r.Slots)).setCell ⟨w.heap.size + 1, 2, none⟩ (Value.int IntKind.i64 r.Least)).setCell ⟨w.heap.size + 1, 3, none⟩ (Value.int IntKind.i64 r.Most)).setCell ⟨w.heap.size + 1, 4, none⟩ (Value.int IntKind.i64 r.Row)).setCell ⟨w.heap.size + 1, 5, none⟩ (Value.int IntKind.i64 r.Pause)).setCell ⟨w.heap.size + 1, 6, none⟩ (Value.slice ac n2 cc)).setCell ⟨w.heap.size + 1, 7, none⟩ (Value.string p)).cell? ⟨w.heap.size + 1, 2, none⟩ = some (Value.int IntKind.i64 r.Least) := X1.out.at_ (i := 2) rfl
  have x3 : ((((((((((w6.setCell ⟨w.heap.size + 1 + 1, 6, none⟩ (Value.slice ac n2 cc)).setCell ⟨w.heap.size + 1 + 1, 7, none⟩ (Value.string p)).setCell ⟨w.heap.size + 1, 0, none⟩ (Value.slice aj n1 cj)).setCell ⟨w.heap.size + 1, 1, none⟩ (Value.int IntKind.i64 r.Slots)).setCell ⟨w.heap.size + 1, 2, none⟩ (Value.int IntKind.i64 r.Least)).setCell ⟨w.heap.size + 1, 3, none⟩ (Value.int IntKind.i64 r.Most)).setCell ⟨w.heap.size + 1, 4, none⟩ (Value.int IntKind.i64 r.Row)).setCell ⟨w.heap.size + 1, 5, none⟩ (Value.int IntKind.i64 r.Pause)).setCell ⟨w.heap.size + 1, 6, none⟩ (Value.slice ac n2 cc)).setCell ⟨w.heap.size + 1, 7, none⟩ (Value.string p)).cell? ⟨w.heap.size + 1, 3, none⟩ = some (Value.int IntKind.i64 r.Most) := X1.out.at_ (i := 3) rfl
  have x4 : ((((((((((w6.setCell ⟨w.heap.size + 1 + 1, 6, none⟩ (Value.slice ac n2 cc)).setCell ⟨w.heap.size + 1 + 1, 7, none⟩ (Value.string p)).setCell ⟨w.heap.size + 1, 0, none⟩ (Value.slice aj n1 cj)).setCell ⟨w.heap.size + 1, 1, none⟩ (Value.int IntKind.i64 r.Slots)).setCell ⟨w.heap.size + 1, 2, none⟩ (Value.int IntKind.i64 r.Least)).setCell ⟨w.heap.size + 1, 3, none⟩ (Value.int IntKind.i64 r.Most)).setCell ⟨w.heap.size + 1, 4, none⟩ (Value.int IntKind.i64 r.Row)).setCell ⟨w.heap.size + 1, 5, none⟩ (Value.int IntKind.i64 r.Pause)).setCell ⟨w.heap.size + 1, 6, none⟩ (Value.slice ac n2 cc)).setCell ⟨w.heap.size + 1, 7, none⟩ (Value.string p)).cell? ⟨w.heap.size + 1, 4, none⟩ = some (Value.int IntKind.i64 r.Row) := X1.out.at_ (i := 4) rfl
  have x5 : ((((((((((w6.setCell ⟨w.heap.size + 1 + 1, 6, none⟩ (Value.slice ac n2 cc)).setCell ⟨w.heap.size + 1 + 1, 7, none⟩ (Value.string p)).setCell ⟨w.heap.size + 1, 0, none⟩ (Value.slice aj n1 cj)).setCell ⟨w.heap.size + 1, 1, none⟩ (Value.int IntKind.i64 r.Slots)).setCell ⟨w.heap.size + 1, 2, none⟩ (Value.int IntKind.i64 r.Least)).setCell ⟨w.heap.size + 1, 3, none⟩ (Value.int IntKind.i64 r.Most)).setCell ⟨w.heap.size + 1, 4, none⟩ (Value.int IntKind.i64 r.Row)).setCell ⟨w.heap.size + 1, 5, none⟩ (Value.int IntKind.i64 r.Pause)).setCell ⟨w.heap.size + 1, 6, none⟩ (Value.slice ac n2 cc)).setCell ⟨w.heap.size + 1, 7, none⟩ (Value.string p)).cell? ⟨w.heap.size + 1, 5, none⟩ = some (Value.int IntKind.i64 r.Pause) := X1.out.at_ (i := 5) rfl
  have x6 : ((((((((((w6.setCell ⟨w.heap.size + 1 + 1, 6, none⟩ (Value.slice ac n2 cc)).setCell ⟨w.heap.size + 1 + 1, 7, none⟩ (Value.string p)).setCell ⟨w.heap.size + 1, 0, none⟩ (Value.slice aj n1 cj)).setCell ⟨w.heap.size + 1, 1, none⟩ (Value.int IntKind.i64 r.Slots)).setCell ⟨w.heap.size + 1, 2, none⟩ (Value.int IntKind.i64 r.Least)).setCell ⟨w.heap.size + 1, 3, none⟩ (Value.int IntKind.i64 r.Most)).setCell ⟨w.heap.size + 1, 4, none⟩ (Value.int IntKind.i64 r.Row)).setCell ⟨w.heap.size + 1, 5, none⟩ (Value.int IntKind.i64 r.Pause)).setCell ⟨w.heap.size + 1, 6, none⟩ (Value.slice ac n2 cc)).setCell ⟨w.heap.size + 1, 7, none⟩ (Value.string p)).cell? ⟨w.heap.size + 1, 6, none⟩ = some (Value.slice ac n2 cc) := X1.out.at_ (i := 6) rfl
  have x7 : ((((((((((w6.setCell ⟨w.heap.size + 1 + 1, 6, none⟩ (Value.slice ac n2 cc)).setCell ⟨w.heap.size + 1 + 1, 7, none⟩ (Value.string p)).setCell ⟨w.heap.size + 1, 0, none⟩ (Value.slice aj n1 cj)).setCell ⟨w.heap.size + 1, 1, none⟩ (Value.int IntKind.i64 r.Slots)).setCell ⟨w.heap.size + 1, 2, none⟩ (Value.int IntKind.i64 r.Least)).setCell ⟨w.heap.size + 1, 3, none⟩ (Value.int IntKind.i64 r.Most)).setCell ⟨w.heap.size + 1, 4, none⟩ (Value.int IntKind.i64 r.Row)).setCell ⟨w.heap.size + 1, 5, none⟩ (Value.int IntKind.i64 r.Pause)).setCell ⟨w.heap.size + 1, 6, none⟩ (Value.slice ac n2 cc)).setCell ⟨w.heap.size + 1, 7, none⟩ (Value.string p)).cell? ⟨w.heap.size + 1, 7, none⟩ = some (Value.string p) := X1.out.at_ (i := 7) rfl
  exact bodyPost_ret (v := deskV (Value.slice aj n1 cj) (Value.slice ac n2 cc) r p) (by simp [results, Try.results10, go_sem, x0, x1, x2, x3, x4, x5, x6, x7]) rfl hF.out
end Go.Proofs.Ytpolhjkjgbfdhaa
