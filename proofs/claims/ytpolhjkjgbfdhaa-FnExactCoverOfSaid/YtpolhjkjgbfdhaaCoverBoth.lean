/- How many work in each slot: the model's and the program's, alike. No condition. -/
import Derived.Test.YtpolhjkjgbfdhaaCoverImpl
namespace Go.Proofs.Ytpolhjkjgbfdhaa
open Go.RowKit Go.Lst

theorem covRes_len (xs : List ByteArray) (cs : List Int) : (covRes xs cs).length ≤ 1048576 := by
  unfold covRes
  cases h : covOk xs cs
  · simp
  · have h2 : textsB xs = true := by
      unfold covOk at h
      cases hq : textsB xs
      · rw [hq] at h; cases h
      · rfl
    obtain ⟨-, f, hf, ⟨-, f24⟩, -⟩ := textsB_of h2
    simp only [if_true]
    rw [fillI_length, List.getD_eq_getElem?_getD, hf]
    show f.size ≤ _
    omega
theorem coverOf_both (xs : List ByteArray) (cs : List Int) (hw : ∀ x ∈ xs, x.size ≤ maxLen) (_ : ∀ y ∈ cs, (Lit.int .i64 y).wf = true) : ∃ (r0 : List Int) (r1 : Bool), r0.length ≤ 1048576 ∧
    (∀ (B : Nat) (v1 v2 : Value) (w : World), LstS B w v1 xs → LstI B w v2 cs → B ≤ w.heap.size → Calls Try.prog 26 #[v1, v2] w fun e w' => ∃ v', e = .returned (.tuple #[v', .bool r1]) ∧ Own w.heap.size w'.heap.size w' v' 2 1 r0.length (r0.map (Value.int .i64)) ∧ Below w.heap.size w w') ∧
    (∀ (B : Nat) (v1 v2 : Value) (w : World), LstS B w v1 xs → LstI B w v2 cs → B ≤ w.heap.size → Calls Try.prog 28 #[v1, v2] w fun e w' => ∃ v', e = .returned (.tuple #[v', .bool r1]) ∧ Own w.heap.size w'.heap.size w' v' 2 1 r0.length (r0.map (Value.int .i64)) ∧ Below w.heap.size w w') :=
  ⟨covRes xs cs, covOk xs cs, covRes_len xs cs, fun B v1 v2 w h1 h2 hB => specCover_any B v1 v2 xs cs w h1 h2 hB hw, fun B v1 v2 w h1 h2 hB => coverOf_any B v1 v2 xs cs w h1 h2 hB hw⟩
end Go.Proofs.Ytpolhjkjgbfdhaa
