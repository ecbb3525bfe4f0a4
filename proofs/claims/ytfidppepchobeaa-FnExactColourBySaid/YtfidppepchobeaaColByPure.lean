/- Pure facts: each exam, one after another, gets the least colour that no exam with which it clashes has. -/
import Derived.Test.YtfidppepchobeaaPairPure
namespace Go.Proofs.Ytfidppepchobeaa
open Go.RowKit Go.Lst

/-- One of the first k exams has the colour c and clashes with x. -/
def takenTo (ps : List (Int × Int)) (x c : Int) (out : List Int) (k : Nat) : Bool := (List.range k).any fun i => (out.getD i 0 == c) && clashB ps x i
theorem takenTo_succ (ps : List (Int × Int)) (x c : Int) (out : List Int) (k : Nat) : takenTo ps x c out (k + 1) = (takenTo ps x c out k || ((out.getD k 0 == c) && clashB ps x k)) := by
  unfold takenTo; rw [List.range_succ, List.any_append]; simp
theorem takenTo_yes {ps : List (Int × Int)} {x c : Int} {out : List Int} {k : Nat} (h : takenTo ps x c out k = true) : ∀ {n : Nat}, k ≤ n → takenTo ps x c out n = true := fun {n} hk => by
  induction n with
  | zero => rw [← h, show k = 0 by omega]
  | succ n ih =>
    by_cases he : k = n + 1
    · rw [← he]; exact h
    · rw [takenTo_succ, ih (by omega), Bool.true_or]
theorem takenTo_far {ps : List (Int × Int)} {x c : Int} {out : List Int} : ∀ {n : Nat}, (∀ i, i < n → out.getD i 0 < c) → takenTo ps x c out n = false
  | 0, _ => rfl
  | n + 1, h => by
    rw [takenTo_succ, takenTo_far fun i hi => h i (by omega), Bool.false_or]
    have := h n (by omega)
    rw [show (out.getD n 0 == c) = false by rw [beq_eq_false_iff_ne]; omega, Bool.false_and]
def leastF (P : Nat → Bool) : Nat → Nat → Nat
  | 0, c => c
  | f + 1, c => if P c then c else leastF P f (c + 1)
theorem leastF_is {P : Nat → Bool} {m : Nat} (hm : P m = true) : ∀ (f c : Nat), c ≤ m → m ≤ c + f → (∀ i, c ≤ i → i < m → P i = false) → leastF P f c = m
  | 0, c, h1, h2, _ => by show c = m; omega
  | f + 1, c, h1, h2, h => by
    unfold leastF
    by_cases e : c = m
    · rw [e, hm]; rfl
    · rw [h c (Nat.le_refl _) (by omega)]
      exact leastF_is hm f (c + 1) (by omega) (by omega) fun i hi => h i (by omega)
/-- The least colour for x. -/
def freeCol (ps : List (Int × Int)) (e : Nat) (x : Int) (out : List Int) : Nat := leastF (fun c => !takenTo ps x (c : Int) out e) 13 0
theorem freeCol_is {ps : List (Int × Int)} {e : Nat} {x : Int} {out : List Int} {m : Nat} (hm : takenTo ps x (m : Int) out e = false) (h13 : m ≤ 13) (h : ∀ i : Nat, i < m → takenTo ps x (i : Int) out e = true) : freeCol ps e x out = m :=
  leastF_is (by show (!_) = _; rw [hm]; rfl) 13 0 (Nat.zero_le _) (by omega) fun i _ hi => by show (!_) = _; rw [h i hi]; rfl
def colTo (ps : List (Int × Int)) (e : Nat) (ord : List Int) : Nat → List Int
  | 0 => List.replicate e (-1)
  | k + 1 => (colTo ps e ord k).set (ord.getD k 0).toNat (freeCol ps e (ord.getD k 0) (colTo ps e ord k) : Int)
theorem colTo_length (ps : List (Int × Int)) (e : Nat) (ord : List Int) : ∀ k, (colTo ps e ord k).length = e
  | 0 => List.length_replicate
  | k + 1 => by unfold colTo; rw [List.length_set]; exact colTo_length ps e ord k
theorem leastF_le {P : Nat → Bool} {m : Nat} (hm : P m = true) : ∀ (f c : Nat), c ≤ m → leastF P f c ≤ m
  | 0, c, h => h
  | f + 1, c, h => by
    unfold leastF
    split
    · exact h
    · rename_i hq
      refine leastF_le hm f (c + 1) ?_
      have : c ≠ m := fun e => hq (by rw [e]; exact hm)
      omega
theorem colTo_in (ps : List (Int × Int)) (e : Nat) (ord : List Int) : ∀ k, ∀ i, i < e → -1 ≤ (colTo ps e ord k).getD i 0 ∧ (colTo ps e ord k).getD i 0 < (k : Int)
  | 0, i, hi => by
    show -1 ≤ (List.replicate e (-1 : Int)).getD i 0 ∧ (List.replicate e (-1 : Int)).getD i 0 < ((0 : Nat) : Int)
    rw [List.getD_eq_getElem?_getD, List.getElem?_replicate, if_pos hi]
    exact ⟨Int.le_refl _, by decide⟩
  | k + 1, i, hi => by
    have ih := colTo_in ps e ord k i hi
    have hf : freeCol ps e (ord.getD k 0) (colTo ps e ord k) ≤ k :=
      leastF_le (m := k) (by show (!_) = _; rw [takenTo_far fun j hj => (colTo_in ps e ord k j hj).2]; rfl) 13 0 (Nat.zero_le _)
    unfold colTo
    rw [List.getD_eq_getElem?_getD, List.getElem?_set]
    split
    · rename_i he
      rw [if_pos (by rw [colTo_length]; omega)]
      show -1 ≤ ((freeCol ps e (ord.getD k 0) (colTo ps e ord k) : Nat) : Int) ∧ ((freeCol ps e (ord.getD k 0) (colTo ps e ord k) : Nat) : Int) < _
      omega
    · rw [← List.getD_eq_getElem?_getD]
      omega
/-- Behind k exams the colour k is free for all. -/
theorem colTo_free (ps : List (Int × Int)) (e : Nat) (ord : List Int) (x : Int) (k : Nat) : takenTo ps x (k : Int) (colTo ps e ord k) e = false := takenTo_far fun i hi => (colTo_in ps e ord k i hi).2
end Go.Proofs.Ytfidppepchobeaa
