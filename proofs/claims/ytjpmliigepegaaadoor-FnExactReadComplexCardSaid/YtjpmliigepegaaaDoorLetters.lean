/- Words for texts of letters: which bytes they have; the program's test of a text's letters, for one closure. -/
import Derived.Test.YtjpmliigepegaaaDoorAreJobs
import Derived.LoopTactic
import Derived.Outline
import Derived.WalkSmall
import Derived.Carry
namespace Go.Proofs.YtjpmliigepegaaaDoor
open Go.RowKit Go.Lst

theorem byte_getD (s : ByteArray) (k : Nat) (h : k < s.size) : s.data.toList.getD k 0 = s[k]'h := by
  have e : s.data.toList[k]? = some (s[k]'h) := by
    rw [List.getElem?_eq_getElem (by simpa using h)]; rfl
  rw [List.getD_eq_getElem?_getD, e]; rfl
theorem below_iter (w : World) (s : ByteArray) (p : Nat) : Below w.heap.size w (w.iter s p) := below_alloc (Below.refl _ _) _
/-- A text of 1 to most bytes, each of which is as p says. -/
def lettersB (p : Int → Bool) (s : ByteArray) (most : Nat) : Bool := decide (1 ≤ s.size) && decide (s.size ≤ most) && (List.range s.size).all fun i => p ((s.data.toList.getD i 0).toNat : Int)
theorem lettersB_1 {p : Int → Bool} {s : ByteArray} {most : Nat} (h : s.size < 1) : lettersB p s most = false := by unfold lettersB; rw [decide_eq_false (show ¬ 1 ≤ s.size by omega)]; rfl
theorem lettersB_2 {p : Int → Bool} {s : ByteArray} {most : Nat} (h : most < s.size) : lettersB p s most = false := by unfold lettersB; rw [decide_eq_false (show ¬ s.size ≤ most by omega)]; simp
theorem lettersB_3 {p : Int → Bool} {s : ByteArray} {most k : Nat} (hk : k < s.size) (h : p ((s.data.toList.getD k 0).toNat : Int) = false) : lettersB p s most = false := by
  unfold lettersB
  rw [show ((List.range s.size).all fun i => p ((s.data.toList.getD i 0).toNat : Int)) = false by
    rw [List.all_eq_false]; exact ⟨k, List.mem_range.2 hk, by rw [h]; simp⟩, Bool.and_false]
theorem lettersB_4 {p : Int → Bool} {s : ByteArray} {most : Nat} (h1 : 1 ≤ s.size) (h2 : s.size ≤ most) (h : ∀ i, i < s.size → p ((s.data.toList.getD i 0).toNat : Int) = true) : lettersB p s most = true := by
  unfold lettersB
  rw [decide_eq_true h1, decide_eq_true h2, List.all_eq_true.2 fun i hi => h i (List.mem_range.1 hi)]; rfl
theorem lettersB_of {p : Int → Bool} {s : ByteArray} {most : Nat} (h : lettersB p s most = true) : 1 ≤ s.size ∧ s.size ≤ most ∧ ∀ i, i < s.size → p ((s.data.toList.getD i 0).toNat : Int) = true := by
  simp only [lettersB, Bool.and_eq_true, decide_eq_true_eq] at h
  exact ⟨h.1.1, h.1.2, fun i hi => List.all_eq_true.1 h.2 i (List.mem_range.2 hi)⟩
def dayP (r : Int) : Bool := decide (r = 46) || (decide (97 ≤ r) && decide (r ≤ 122))
theorem day_high {r : Int} (h : 128 ≤ r) : dayP r = false := by
  unfold dayP
  rw [decide_eq_false (show ¬ r = 46 by omega), decide_eq_false (show ¬ r ≤ 122 by omega)]; simp
def slotP (r : Int) : Bool := decide (r = 46) || decide (r = 119)
theorem slot_high {r : Int} (h : 128 ≤ r) : slotP r = false := by
  unfold slotP
  rw [decide_eq_false (show ¬ r = 46 by omega), decide_eq_false (show ¬ r = 119 by omega)]; rfl
end Go.Proofs.YtjpmliigepegaaaDoor
