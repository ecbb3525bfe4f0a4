/- Contracts: the text of a rule, the model's and the program's. Conditions: the table of powers of ten lies as the library's text lays it (the program's side). -/
import Derived.Test.YtpolhjkjgbfdhaaDoorListText
import Derived.Test.YtpolhjkjgbfdhaaDoorShiftRule
import Derived.Deep.RegionHeld3
namespace Go.Proofs.YtpolhjkjgbfdhaaDoor
open Go.RowKit Go.Lst Go

set_option maxHeartbeats 1000000 in
theorem listText_any (B : Nat) (v : Value) (xs : List Int) (w : World) (h : LstI B w v xs) (hB : B ≤ w.heap.size) (hT : Tab10 w) :
    Calls Tryd.prog 39 #[v] w fun e w' => e = .returned (.tuple #[.string (listR xs), .bool (okList xs)]) ∧ Below w.heap.size w w' := by
  have hI := Lib.hid (itemsText_any B v xs w h hB hT)
  clear h hB hT
  generalize listR xs = s at *
  generalize okList xs = q at *
  go_enter Tryd.func39, Tryd.ntmps39
  go_wp2_with fail
  refine hI.out.mono ?_
  rintro e w' ⟨rfl, hb⟩
  have hB := Lib.hid hb
  clear hb
  go_wp2_with fail
  first | exact ⟨rfl, hB.out⟩ | (go_ret2; exact ⟨rfl, hB.out⟩)
/-- A row of numbers that the call has made just now. -/
theorem lstI_made (w : World) (zs : List Int) (hz : zs.length ≤ 1048576) : LstI (w.heap.size + 1) (w.alloc (.cells (zs.map (Value.int .i64)).toArray 2)) (.slice (some ⟨w.heap.size, 0, none⟩) zs.length zs.length) zs := by
  refine ⟨_, _, rfl, by unfold maxLen; omega, Nat.le_refl _, by unfold maxLen; omega, by simp, fun _ => ⟨w.heap.size, 0, rfl, by omega, fun i u hu => ?_⟩⟩
  rw [Nat.zero_add]
  exact (Whole.made w 2 (zs.map (Value.int .i64)).toArray rfl).at_ (by simpa using hu)
def ruleL (x : ShiftRuleD) : List Int := [x.Slots, x.Least, x.Most, x.Row, x.Pause]
def ruleR (x : ShiftRuleD) : ByteArray := if okRule x then listB (ruleL x) else ⟨#[]⟩
theorem rule_vals {x : ShiftRuleD} (h : okRule x = true) : ∀ y ∈ ruleL x, okVal y = true := by
  obtain ⟨⟨h1, h2⟩, ⟨h3, h4⟩, ⟨h5, h6⟩, ⟨h7, h8⟩, h9, h10⟩ := okRule_of h
  intro y hy
  simp only [ruleL, List.mem_cons, List.mem_nil_iff, or_false] at hy
  unfold okVal inB
  rcases hy with rfl | rfl | rfl | rfl | rfl <;> exact decide_eq_true (by omega)
theorem rule_ok {x : ShiftRuleD} (h : okRule x = true) : okList (ruleL x) = true ∧ listR (ruleL x) = ruleR x := by
  have e : okList (ruleL x) = true := by
    unfold okList
    rw [List.all_eq_true.2 (rule_vals h)]; rfl
  exact ⟨e, by unfold listR ruleR; rw [e, h]⟩
theorem rule_no {x : ShiftRuleD} (h : okRule x = false) : ruleR x = ⟨#[]⟩ := by unfold ruleR; rw [h]; rfl
theorem rule_yes {x : ShiftRuleD} (h : okRule x = true) : ruleR x = listB (ruleL x) := by unfold ruleR; rw [h]; rfl
theorem rule_wide {x : ShiftRuleD} (h : okRule x = true) : Wide (ruleL x) := fun y hy => okVal_wide (rule_vals h y hy)
set_option maxHeartbeats 2000000 in
set_option maxRecDepth 100000 in
theorem ruleText_any (x : ShiftRuleD) (w : World) (hT : Tab10 w) :
    Calls Tryd.prog 12 #[x.agg] w fun e w' => e = .returned (.tuple #[.string (ruleR x), .bool (okRule x)]) ∧ Below w.heap.size w w' := by
  have X0 := Lib.hid (Whole.made w 26 #[.int .i64 x.Slots, .int .i64 x.Least, .int .i64 x.Most, .int .i64 x.Row, .int .i64 x.Pause] rfl)
  have B1 := Lib.hid (below_alloc (Below.refl w.heap.size w) (.cells #[.int .i64 x.Slots, .int .i64 x.Least, .int .i64 x.Most, .int .i64 x.Row, .int .i64 x.Pause] 26))
  have hV := Lib.hid (fun w' => validRule_any x w')
  have hL := Lib.hid (fun (h : okRule x = true) w' (hb : Below w.heap.size w w') => listText_any (w'.heap.size + 1) _ (ruleL x) _ (lstI_made w' (ruleL x) (by unfold ruleL; simp)) (by rw [World.size_alloc]; exact Nat.le_refl _) (hT.kept (hb.alloc hb.size _)))
  cases hq : okRule x
  · rw [rule_no hq]
    rw [hq] at hV
    clear hq hL
    go_enter Tryd.func12, Tryd.ntmps12
    go_wp2_with fail
    generalize w.alloc _ = w1 at *
    refine (hV.out w1).mono ?_
    rintro e w2 ⟨rfl, hb⟩
    have B2 := Lib.hid (below_on B1.out (Nat.le_refl _) hb)
    clear hb
    go_wp2_with fail
    first | exact ⟨rfl, B2.out⟩ | (go_ret2; exact ⟨rfl, B2.out⟩)
  · obtain ⟨k1, k2⟩ := rule_ok hq
    have hLx := Lib.hid (hL.out hq)
    rw [k1, k2] at hLx
    rw [hq] at hV
    clear hq hL k1 k2
    generalize ruleR x = s at *
    go_enter Tryd.func12, Tryd.ntmps12
    go_wp2_with fail
    generalize w.alloc _ = w1 at *
    refine (hV.out w1).mono ?_
    rintro e w2 ⟨rfl, hb⟩
    have B2 := Lib.hid (below_on B1.out (Nat.le_refl _) hb)
    have X2 := X0.out.kept hb
    have c0 := X2.at_ (i := 0) rfl
    have c1 := X2.at_ (i := 1) rfl
    have c2 := X2.at_ (i := 2) rfl
    have c3 := X2.at_ (i := 3) rfl
    have c4 := X2.at_ (i := 4) rfl
    have B3 := Lib.hid (B2.out.alloc B2.out.size (.cells #[.int .i64 x.Slots, .int .i64 x.Least, .int .i64 x.Most, .int .i64 x.Row, .int .i64 x.Pause] 2))
    have hL2 := Lib.hid (hLx.out w2 B2.out)
    clear hb X2 X0
    unfold ruleL at hL2
    go_wp2_with fail
    refine hL2.out.mono ?_
    rintro e w3 ⟨rfl, hb⟩
    have B4 := Lib.hid (below_on B3.out (Nat.le_refl _) hb)
    clear hb
    go_wp2_with fail
    first | exact ⟨rfl, B4.out⟩ | (go_ret2; exact ⟨rfl, B4.out⟩)
set_option maxHeartbeats 4000000 in
set_option maxRecDepth 100000 in
theorem l08Rule_any (g : Nat) (x : ShiftRuleD) (w : World) (X0 : Whole w g 26 #[.int .i64 x.Slots, .int .i64 x.Least, .int .i64 x.Most, .int .i64 x.Row, .int .i64 x.Pause]) (hq : okRule x = true) :
    Calls Tryd.prog 37 #[.pointer (some ⟨g, 0, none⟩)] w fun e w' => e = .returned (.string (ruleR x)) ∧ Below w.heap.size w w' := by
  have hM := lstI_made w (ruleL x) (by unfold ruleL; simp)
  have hL : Hid (∀ w', Below (w.alloc (.cells #[.int .i64 x.Slots, .int .i64 x.Least, .int .i64 x.Most, .int .i64 x.Row, .int .i64 x.Pause] 2)).heap.size (w.alloc (.cells #[.int .i64 x.Slots, .int .i64 x.Least, .int .i64 x.Most, .int .i64 x.Row, .int .i64 x.Pause] 2)) w' → Calls Tryd.prog 65 #[.slice (some ⟨w.heap.size, 0, none⟩) 5 5] w' fun e w'' => e = .returned (.string (listB (ruleL x))) ∧ Below w'.heap.size w' w'') := Lib.hid fun w' hb => l01Text_any (w.heap.size + 1) _ (ruleL x) w' (hM.below hb (by rw [World.size_alloc]; exact Nat.le_refl _)) (rule_wide hq) (by unfold ruleL; simp) (by have := hb.size; rw [World.size_alloc] at this; exact this)
  rw [rule_yes hq]
  generalize listB (ruleL x) = s at *
  have hS0 : Hid (∀ w' : World, Below w.heap.size w w' → (w'.cell? ⟨g, 0, none⟩ = some (.int .i64 x.Slots) ∧ w'.cell? ⟨g, 1, none⟩ = some (.int .i64 x.Least) ∧ w'.cell? ⟨g, 2, none⟩ = some (.int .i64 x.Most) ∧ w'.cell? ⟨g, 3, none⟩ = some (.int .i64 x.Row) ∧ w'.cell? ⟨g, 4, none⟩ = some (.int .i64 x.Pause)) ∧ Below w.heap.size w w') := Lib.hid fun w' hb => ⟨⟨(X0.kept hb).at_ (i := 0) rfl, (X0.kept hb).at_ (i := 1) rfl, (X0.kept hb).at_ (i := 2) rfl, (X0.kept hb).at_ (i := 3) rfl, (X0.kept hb).at_ (i := 4) rfl⟩, hb⟩
  have hR0 := Below.refl w.heap.size w
  obtain ⟨⟨c0, c1, c2, c3, c4⟩, -⟩ := hS0.out w hR0
  clear hq X0 hM
  go_enter Tryd.func37, Tryd.ntmps37
  go_wp2_with fail
  go_region_held3 (fun w' => (w'.cell? ⟨g, 0, none⟩ = some (.int .i64 x.Slots) ∧ w'.cell? ⟨g, 1, none⟩ = some (.int .i64 x.Least) ∧ w'.cell? ⟨g, 2, none⟩ = some (.int .i64 x.Most) ∧ w'.cell? ⟨g, 3, none⟩ = some (.int .i64 x.Row) ∧ w'.cell? ⟨g, 4, none⟩ = some (.int .i64 x.Pause)) ∧ Below w.heap.size w w') ((first | exact hS0.out _ hR0 | exact hS0.out _ hR0.drew | exact hS0.out _ (below_alloc hR0 _) | exact hS0.out _ (below_alloc hR0 _).drew | exact hS0.out _ (below_alloc hR0.drew _) | exact hS0.out _ hB8.out | exact hS0.out _ hB8.out.drew)) ((go_at_call 65; refine (hL.out _ (by first | exact Below.refl _ _ | exact (Below.refl _ _).drew | exact (Below.refl _ _).drew.drew)).mono ?_; rintro e w8 ⟨rfl, b8⟩; have hB8 : Hid (Below w.heap.size w w8) := Lib.hid (by first | exact below_on (below_alloc hR0 _) (Nat.le_refl _) b8 | exact below_on (below_alloc hR0.drew _) (Nat.le_refl _) b8 | exact below_on (below_alloc hR0 _).drew (Nat.le_refl _) b8); clear b8))
  all_goals
    clear hS0 hR0 c0 c1 c2 c3 c4 hL
    go_wp2_with fail
    go_ret
    exact ⟨rfl, by first | exact hB8.out | exact hB8.out.drew⟩
set_option maxHeartbeats 1000000 in
set_option maxRecDepth 100000 in
theorem specRuleText_any (x : ShiftRuleD) (w : World) :
    Calls Tryd.prog 10 #[x.agg] w fun e w' => e = .returned (.tuple #[.string (ruleR x), .bool (okRule x)]) ∧ Below w.heap.size w w' := by
  have X0 := Lib.hid (Whole.made w 26 #[.int .i64 x.Slots, .int .i64 x.Least, .int .i64 x.Most, .int .i64 x.Row, .int .i64 x.Pause] rfl)
  have B1 := Lib.hid (below_alloc (Below.refl w.heap.size w) (.cells #[.int .i64 x.Slots, .int .i64 x.Least, .int .i64 x.Most, .int .i64 x.Row, .int .i64 x.Pause] 26))
  have hV := Lib.hid (fun w' (X : Whole w' w.heap.size 26 #[.int .i64 x.Slots, .int .i64 x.Least, .int .i64 x.Most, .int .i64 x.Row, .int .i64 x.Pause]) => l06Is_any w.heap.size 0 x w' (X.at_ (i := 0) rfl) (X.at_ (i := 1) rfl) (X.at_ (i := 2) rfl) (X.at_ (i := 3) rfl) (X.at_ (i := 4) rfl))
  have hR := Lib.hid (fun w' X (h : okRule x = true) => l08Rule_any w.heap.size x w' X h)
  cases hq : okRule x
  · rw [rule_no hq]
    rw [hq] at hV
    clear hq hR
    go_enter Tryd.func10, Tryd.ntmps10
    go_wp2_with fail
    generalize w.alloc _ = w1 at *
    refine (hV.out w1 X0.out).mono ?_
    rintro e w2 ⟨m, rfl, rfl⟩
    have B2 := Lib.hid (Lst.Below.drewN B1.out m)
    go_wp2_with fail
    first | exact ⟨rfl, B2.out⟩ | (go_ret2; exact ⟨rfl, B2.out⟩)
  · rw [hq] at hV
    have hR2 := Lib.hid (fun w' X => hR.out w' X hq)
    clear hq hR
    generalize ruleR x = s at *
    go_enter Tryd.func10, Tryd.ntmps10
    go_wp2_with fail
    generalize w.alloc _ = w1 at *
    refine (hV.out w1 X0.out).mono ?_
    rintro e w2 ⟨m, rfl, hw2⟩
    have X2 := Lib.hid (show Whole w2 w.heap.size 26 #[.int .i64 x.Slots, .int .i64 x.Least, .int .i64 x.Most, .int .i64 x.Row, .int .i64 x.Pause] by rw [hw2]; exact X0.out.draws m)
    have B2 := Lib.hid (show Below w.heap.size w w2 by rw [hw2]; exact Lst.Below.drewN B1.out m)
    clear hw2
    go_wp2_with fail
    refine (hR2.out w2 X2.out).mono ?_
    rintro e w3 ⟨rfl, hb⟩
    have B3 := Lib.hid (below_on B2.out (Nat.le_refl _) hb)
    clear hb
    go_wp2_with fail
    first | exact ⟨rfl, B3.out⟩ | (go_ret2; exact ⟨rfl, B3.out⟩)
end Go.Proofs.YtpolhjkjgbfdhaaDoor
