/- Pure facts: how many work in each slot: pure facts. -/
import Derived.Test.YtpolhjkjgbfdhaaWrongText
import Derived.Test.YtpolhjkjgbfdhaaPost
import Derived.Test.YtpolhjkjgbfdhaaFillI
import Derived.OwnWalk
namespace Go.Proofs.Ytpolhjkjgbfdhaa
open Go.RowKit Go.Lst

def covAt (xs : List ByteArray) (cs : List Int) : Nat → Nat → Int
  | 0, _ => 0
  | i + 1, k => covAt xs cs i k + (if ((xs.getD i ⟨#[]⟩).data.toList.getD k 0).toNat = 119 then cs.getD i 0 else 0)
def covMid (xs : List ByteArray) (cs : List Int) (i k j : Nat) : Int := if j < k then covAt xs cs (i + 1) j else covAt xs cs i j
theorem cov_start (xs : List ByteArray) (cs : List Int) (i L : Nat) : fillI (covMid xs cs i 0) L = fillI (covAt xs cs i) L := by
  unfold fillI covMid; simp
theorem cov_end (xs : List ByteArray) (cs : List Int) (i L : Nat) : fillI (covMid xs cs i L) L = fillI (covAt xs cs (i + 1)) L := by
  unfold fillI
  apply List.map_congr_left
  intro j hj
  unfold covMid
  rw [if_pos (List.mem_range.1 hj)]
theorem cov_set (xs : List ByteArray) (cs : List Int) {i k L : Nat} (hk : k < L) : (fillI (covMid xs cs i k) L).set k (covAt xs cs (i + 1) k) = fillI (covMid xs cs i (k + 1)) L := by
  apply List.ext_getElem?
  intro j
  rw [List.getElem?_set]
  unfold fillI
  rw [List.getElem?_map, List.getElem?_map]
  by_cases e : k = j
  · subst e
    rw [if_pos rfl, List.length_map, List.length_range, if_pos hk, List.getElem?_range hk]
    simp [covMid]
  · rw [if_neg e]
    by_cases hj : j < L
    · rw [List.getElem?_range hj]
      simp only [Option.map_some, covMid]
      by_cases h1 : j < k
      · rw [if_pos h1, if_pos (by omega)]
      · rw [if_neg h1, if_neg (by omega)]
    · rw [List.getElem?_eq_none (by simp; omega)]; rfl
theorem cov_same (xs : List ByteArray) (cs : List Int) {i k L : Nat} (h : covAt xs cs (i + 1) k = covAt xs cs i k) : fillI (covMid xs cs i (k + 1)) L = fillI (covMid xs cs i k) L := by
  unfold fillI
  apply List.map_congr_left
  intro j _
  unfold covMid
  by_cases h1 : j < k
  · rw [if_pos h1, if_pos (by omega)]
  · by_cases e : j = k
    · subst e; rw [if_pos (by omega), if_neg h1, h]
    · rw [if_neg h1, if_neg (by omega)]
theorem cov_at (xs : List ByteArray) (cs : List Int) {i k L : Nat} (hk : k < L) : (fillI (covMid xs cs i k) L).getD k 0 = covAt xs cs i k := by
  unfold fillI
  rw [List.getD_eq_getElem?_getD, List.getElem?_map, List.getElem?_range hk]
  simp [covMid]
theorem cov_w {xs : List ByteArray} {cs : List Int} {i k : Nat} {x : ByteArray} {c : Int} (hx : xs[i]? = some x) (hc : cs[i]? = some c) (h : (x.data.toList.getD k 0).toNat = 119) : covAt xs cs (i + 1) k = covAt xs cs i k + c := by
  show _ + (if _ then _ else _) = _
  rw [List.getD_eq_getElem?_getD (l := xs), hx, getD_of hc, Option.getD_some, if_pos h]
theorem cov_n {xs : List ByteArray} {cs : List Int} {i k : Nat} {x : ByteArray} (hx : xs[i]? = some x) (h : ¬ (x.data.toList.getD k 0).toNat = 119) : covAt xs cs (i + 1) k = covAt xs cs i k := by
  show _ + (if _ then _ else _) = _
  rw [List.getD_eq_getElem?_getD (l := xs), hx, Option.getD_some, if_neg h, Int.add_zero]
theorem cov_in {xs : List ByteArray} {cs : List Int} {k : Nat} : ∀ {i : Nat}, (∀ j x, j < i → cs[j]? = some x → inB x 0 1000 = true) → 0 ≤ covAt xs cs i k ∧ covAt xs cs i k ≤ 1000 * i
  | 0, _ => ⟨Int.le_refl _, Int.le_refl _⟩
  | i + 1, h => by
    have ih := cov_in (xs := xs) (cs := cs) (k := k) (i := i) fun j x hj hx => h j x (by omega) hx
    have hc : 0 ≤ cs.getD i 0 ∧ cs.getD i 0 ≤ 1000 := by
      rw [List.getD_eq_getElem?_getD]
      cases e : cs[i]? with
      | none => exact ⟨Int.le_refl _, by decide⟩
      | some c => exact inB_true (h i c (by omega) e)
    unfold covAt
    split <;> omega
def covOk (xs : List ByteArray) (cs : List Int) : Bool := textsB xs && decide (cs.length = xs.length) && allIn cs 0 1000
def covRes (xs : List ByteArray) (cs : List Int) : List Int := if covOk xs cs then fillI (covAt xs cs xs.length) (xs.getD 0 ⟨#[]⟩).size else []
theorem covRes_no {xs : List ByteArray} {cs : List Int} (h : covOk xs cs = false) : covRes xs cs = [] := by unfold covRes; rw [h]; rfl
theorem textsB_of {xs : List ByteArray} (h : textsB xs = true) : (1 ≤ xs.length ∧ xs.length ≤ 64) ∧ ∃ f, xs[0]? = some f ∧ (1 ≤ f.size ∧ f.size ≤ 24) ∧ ∀ (j : Nat) (x : ByteArray), xs[j]? = some x → x.size = f.size ∧ lettersB slotP x 24 = true := by
  unfold textsB at h
  simp only [Bool.and_eq_true, decide_eq_true_eq, List.all_eq_true] at h
  obtain ⟨⟨h1, h2⟩, h3⟩ := h
  have e : xs[0]? = some xs[0] := List.getElem?_eq_getElem (by omega)
  have e2 : xs.getD 0 ⟨#[]⟩ = xs[0] := by rw [List.getD_eq_getElem?_getD, e]; rfl
  rw [e2] at h3
  have hA : ∀ x ∈ xs, x.size = xs[0].size ∧ lettersB slotP x 24 = true := fun x hx => by
    have := h3 x hx
    unfold oneText at this
    simp only [Bool.and_eq_true, decide_eq_true_eq] at this
    exact ⟨this.2, this.1⟩
  have hl := lettersB_of (hA xs[0] (List.getElem_mem _)).2
  exact ⟨⟨h1, h2⟩, xs[0], e, ⟨hl.1, hl.2.1⟩, fun j x hx => hA x (List.mem_of_getElem? hx)⟩
theorem covOk_1 {xs : List ByteArray} {cs : List Int} (h : textsB xs = false) : covOk xs cs = false := by simp [covOk, h]
theorem covOk_2 {xs : List ByteArray} {cs : List Int} (h : ¬ cs.length = xs.length) : covOk xs cs = false := by simp [covOk, h]
theorem covOk_3 {xs : List ByteArray} {cs : List Int} {j : Nat} {c : Int} (hc : cs[j]? = some c) (h : inB c 0 1000 = false) : covOk xs cs = false := by unfold covOk; rw [show allIn cs 0 1000 = false from all_not hc h, Bool.and_false]
theorem covOk_4 {xs : List ByteArray} {cs : List Int} (h1 : textsB xs = true) (h2 : cs.length = xs.length) (h3 : ∀ j x, j < cs.length → cs[j]? = some x → inB x 0 1000 = true) : covOk xs cs = true := by
  unfold covOk
  rw [h1, decide_eq_true h2, show allIn cs 0 1000 = true from all_upto fun j x hj hx => h3 j x hj hx]
  rfl
end Go.Proofs.Ytpolhjkjgbfdhaa
