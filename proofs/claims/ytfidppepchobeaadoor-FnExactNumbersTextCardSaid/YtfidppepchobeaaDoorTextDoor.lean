/- The text of a list of float32: the model's and the program's, alike. Conditions: the table of trailing zeros holds 4 in the place that 16 asks (the program's side). -/
import Derived.Test.YtfidppepchobeaaDoorNumText
import Derived.Test.YtfidppepchobeaaDoorListF
namespace Go.Proofs.YtfidppepchobeaaDoor
open Go.RowKit Go.Lst Go FloatKit

set_option maxHeartbeats 1000000 in
theorem l01Few_any (B : Nat) (v : Value) (xs : List Nat) (w : World) (h : Lst B w v (xs.map (Value.float .f32))) :
    Calls Tryd.prog 13 #[v] w fun e w' => e = .returned (.bool (okFew xs)) ∧ w = w' := by
  obtain ⟨a, cap, rfl, hl, hc⟩ := lstF_at h
  unfold okFew
  clear h hc
  generalize xs.length = n at *
  unfold maxLen at hl
  have hd : decide ((n : Int) ≤ 256) = decide (n ≤ 256) := by
    by_cases h : n ≤ 256
    · rw [decide_eq_true h]; exact decide_eq_true (by omega)
    · rw [decide_eq_false h]; exact decide_eq_false (by omega)
  go_enter Tryd.func13, Tryd.ntmps13
  go_wp2_with fail
  go_ret
  exact ⟨ret_bool (by first | exact hd | rfl), rfl⟩
set_option maxHeartbeats 1000000 in
theorem specNumbersText_any (B : Nat) (v : Value) (xs : List Nat) (w : World) (h : Lst B w v (xs.map (Value.float .f32))) (hW : ∀ x ∈ xs, x < 4294967296) (hB : B ≤ w.heap.size) :
    Calls Tryd.prog 5 #[v] w fun e w' => e = .returned (.tuple #[.string (numR xs), .bool (okFew xs)]) ∧ Below w.heap.size w w' := by
  have hF := Lib.hid (l01Few_any B v xs w h)
  cases hq : okFew xs
  · have hr : numR xs = ⟨#[]⟩ := by unfold numR; rw [hq]; rfl
    rw [hr]
    rw [hq] at hF
    clear hq hr h hB hW
    go_enter Tryd.func5, Tryd.ntmps5
    go_wp2_with (go_at_call 13; (with_reducible refine hF.out.mono ?_); rintro e w' ⟨rfl, rfl⟩)
    first | exact ⟨rfl, Below.refl _ _⟩ | (go_ret2; exact ⟨rfl, Below.refl _ _⟩)
  · have hr : numR xs = numB xs := by unfold numR; rw [hq]; rfl
    have hn : xs.length ≤ 256 := by unfold okFew at hq; exact of_decide_eq_true hq
    have hT := Lib.hid (l01NText_any B v xs w h hW (by omega) hB)
    rw [hr]
    rw [hq] at hF
    clear hq hr h hB hW hn
    generalize numB xs = s at *
    go_enter Tryd.func5, Tryd.ntmps5
    go_wp2_with (first | (go_at_call 13; (with_reducible refine hF.out.mono ?_); rintro e w' ⟨rfl, rfl⟩) | (go_at_call 14; (with_reducible refine hT.out.mono ?_); rintro e w1 ⟨rfl, hb⟩; have hB := Lib.hid hb; clear hb))
    first | exact ⟨rfl, hB.out⟩ | (go_ret2; exact ⟨rfl, hB.out⟩)
set_option maxHeartbeats 1000000 in
theorem implNumbersText_any (B : Nat) (v : Value) (xs : List Nat) (w : World) (h : Lst B w v (xs.map (Value.float .f32))) (hW : ∀ x ∈ xs, x < 4294967296) (hB : B ≤ w.heap.size) (hT : TzAt w) :
    Calls Tryd.prog 7 #[v] w fun e w' => e = .returned (.tuple #[.string (numR xs), .bool (okFew xs)]) ∧ Below w.heap.size w w' := by
  have hI := Lib.hid (itemsF_any B v xs w h hW hB hT)
  clear h hB hT hW
  generalize numR xs = s at *
  generalize okFew xs = q at *
  go_enter Tryd.func7, Tryd.ntmps7
  go_wp2_with fail
  refine hI.out.mono ?_
  rintro e w' ⟨rfl, hb⟩
  have hB := Lib.hid hb
  clear hb
  go_wp2_with fail
  first | exact ⟨rfl, hB.out⟩ | (go_ret2; exact ⟨rfl, hB.out⟩)
theorem numbersText_both (xs : List Nat) (hw : ∀ y ∈ xs, (Lit.float .f32 y).wf = true) : ∃ (r0 : ByteArray) (r1 : Bool),
    (∀ (B : Nat) (v : Value) (w : World), Lst B w v (xs.map (Value.float .f32)) → B ≤ w.heap.size → Calls Tryd.prog 5 #[v] w fun e w' => e = .returned (.tuple #[.string r0, .bool r1]) ∧ Below w.heap.size w w') ∧
    (∀ (B : Nat) (v : Value) (w : World), TzAt w → Lst B w v (xs.map (Value.float .f32)) → B ≤ w.heap.size → Calls Tryd.prog 7 #[v] w fun e w' => e = .returned (.tuple #[.string r0, .bool r1]) ∧ Below w.heap.size w w') := by
  have hW : ∀ x ∈ xs, x < 4294967296 := fun x hx => by
    have h : decide (x < 2 ^ FloatKind.f32.format.width) = true := hw x hx
    exact of_decide_eq_true h
  exact ⟨numR xs, okFew xs, fun B v w h hB => specNumbersText_any B v xs w h hW hB, fun B v w hT h hB => implNumbersText_any B v xs w h hW hB hT⟩
end Go.Proofs.YtfidppepchobeaaDoor
