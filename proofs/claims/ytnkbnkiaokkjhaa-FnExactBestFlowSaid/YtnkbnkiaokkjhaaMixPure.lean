/- Pure facts on counts: how many of each model an order has, and how far it is from an even one. -/
import Derived.Test.YtnkbnkiaokkjhaaTimes
namespace Go.Proofs.Ytnkbnkiaokkjhaa
open Go.Lst

theorem getD_set {b : List Int} {j : Nat} (y : Int) (hj : j < b.length) (k : Nat) : (b.set j y).getD k 0 = if j = k then y else b.getD k 0 := by
  rw [List.getD_eq_getElem?_getD, List.getD_eq_getElem?_getD, List.getElem?_set]
  by_cases h : j = k
  · subst h; simp [hj]
  · simp [h]
theorem getD_get {b : List Int} {j : Nat} (hj : j < b.length) : b[j]? = some (b.getD j 0) := by
  rw [List.getD_eq_getElem?_getD, List.getElem?_eq_getElem hj]; rfl
theorem sumTo_set {b : List Int} {j : Nat} {y : Int} (hj : j < b.length) : ∀ k, sumTo (b.set j y) k = sumTo b k + if j < k then y - b.getD j 0 else 0
  | 0 => by simp [sumTo]
  | k + 1 => by
    have ih := sumTo_set (b := b) (y := y) hj k
    unfold sumTo
    rw [ih, getD_set y hj k]
    by_cases h1 : j = k
    · subst h1; rw [if_neg (by omega), if_pos rfl, if_pos (by omega)]; omega
    · rw [if_neg h1]
      by_cases h2 : j < k
      · rw [if_pos h2, if_pos (by omega)]; omega
      · rw [if_neg h2, if_neg (by omega)]; omega
theorem sumTo_le {a b : List Int} : ∀ k, (∀ i, i < k → a.getD i 0 ≤ b.getD i 0) → sumTo a k ≤ sumTo b k
  | 0, _ => Int.le_refl _
  | k + 1, h => by
    have ih := sumTo_le k fun i hi => h i (by omega)
    have := h k (by omega)
    unfold sumTo; omega
theorem sumTo_eq {a b : List Int} : ∀ k, (∀ i, i < k → a.getD i 0 ≤ b.getD i 0) → sumTo a k = sumTo b k → ∀ i, i < k → a.getD i 0 = b.getD i 0
  | 0, _, _, i, hi => by omega
  | k + 1, h, hs, i, hi => by
    have h1 := sumTo_le k fun i hi => h i (by omega)
    have h2 := h k (by omega)
    unfold sumTo at hs
    by_cases e : i = k
    · subst e; omega
    · exact sumTo_eq k (fun i hi => h i (by omega)) (by omega) i (by omega)
theorem list_eq_getD {a b : List Int} (hl : a.length = b.length) (h : ∀ i, i < a.length → a.getD i 0 = b.getD i 0) : a = b := by
  refine List.ext_getElem hl fun i h1 h2 => ?_
  have := h i h1
  rw [List.getD_eq_getElem?_getD, List.getD_eq_getElem?_getD, List.getElem?_eq_getElem h1, List.getElem?_eq_getElem h2] at this
  exact this

/-- How many there are of each of m models at the first k places. -/
def mixB (m : Nat) (o : List Int) (k : Nat) : List Int := (o.take k).foldl (fun b j => b.set j.toNat (b.getD j.toNat 0 + 1)) (List.replicate m 0)
theorem mixB_step {m k : Nat} {o : List Int} {j : Int} (h : o[k]? = some j) : mixB m o (k + 1) = (mixB m o k).set j.toNat ((mixB m o k).getD j.toNat 0 + 1) := by
  unfold mixB
  rw [List.take_add_one, h]
  simp
theorem mixB_length (m : Nat) (o : List Int) (k : Nat) : (mixB m o k).length = m := by
  unfold mixB
  have : ∀ (l : List Int) (s : List Int), s.length = m → (l.foldl (fun b j => b.set j.toNat (b.getD j.toNat 0 + 1)) s).length = m := by
    intro l
    induction l with
    | nil => intro s h; exact h
    | cons a l ih => intro s h; exact ih _ (by rw [List.length_set]; exact h)
  exact this _ _ (by simp)
theorem mixB_zero (m : Nat) (o : List Int) (i : Nat) : (mixB m o 0).getD i 0 = 0 := by
  unfold mixB
  rw [List.take_zero, List.foldl_nil, List.getD_eq_getElem?_getD, List.getElem?_replicate]
  split <;> rfl
theorem sumTo_zero (m : Nat) : ∀ k, sumTo (List.replicate m 0) k = 0
  | 0 => rfl
  | k + 1 => by
    have := sumTo_zero m k
    unfold sumTo
    rw [this, List.getD_eq_getElem?_getD, List.getElem?_replicate]
    split <;> rfl
/-- One of a model more. -/
theorem mixB_get {m k : Nat} {o : List Int} {j : Nat} (h : o[k]? = some (j : Int)) (hj : j < m) (i : Nat) : (mixB m o (k + 1)).getD i 0 = if j = i then (mixB m o k).getD j 0 + 1 else (mixB m o k).getD i 0 := by
  rw [mixB_step h, Int.toNat_natCast, getD_set _ (by rw [mixB_length]; exact hj)]
def inModels (m : Nat) (o : List Int) (k : Nat) : Prop := ∀ i x, i < k → o[i]? = some x → 0 ≤ x ∧ x < (m : Int)
theorem mixB_small {m : Nat} {o : List Int} : ∀ {k : Nat}, k ≤ o.length → inModels m o k → ∀ i, 0 ≤ (mixB m o k).getD i 0 ∧ (mixB m o k).getD i 0 ≤ k
  | 0, _, _, i => by rw [mixB_zero]; omega
  | k + 1, hk, hin, i => by
    have ih := mixB_small (k := k) (by omega) (fun i x hi hx => hin i x (by omega) hx)
    have e : o[k]? = some o[k] := List.getElem?_eq_getElem _
    obtain ⟨h1, h2⟩ := hin k _ (by omega) e
    obtain ⟨j, hj⟩ := Int.eq_ofNat_of_zero_le h1
    rw [hj] at e h2
    rw [mixB_get e (by omega)]
    have a := ih i
    have b := ih j
    split <;> omega
theorem mixB_sum {m : Nat} {o : List Int} : ∀ {k : Nat}, k ≤ o.length → inModels m o k → sumTo (mixB m o k) m = k
  | 0, _, _ => by unfold mixB; rw [List.take_zero, List.foldl_nil, sumTo_zero]; rfl
  | k + 1, hk, hin => by
    have ih := mixB_sum (k := k) (by omega) (fun i x hi hx => hin i x (by omega) hx)
    have e : o[k]? = some o[k] := List.getElem?_eq_getElem _
    obtain ⟨h1, h2⟩ := hin k _ (by omega) e
    obtain ⟨j, hj⟩ := Int.eq_ofNat_of_zero_le h1
    rw [hj] at e h2
    rw [mixB_step e, Int.toNat_natCast, sumTo_set (by rw [mixB_length]; omega), ih, if_pos (by omega)]
    omega
theorem mixB_mono {m : Nat} {o : List Int} {k : Nat} : ∀ {n : Nat}, k ≤ n → n ≤ o.length → inModels m o n → ∀ i, (mixB m o k).getD i 0 ≤ (mixB m o n).getD i 0
  | 0, h, _, _, i => by have : k = 0 := by omega
                        subst this; exact Int.le_refl _
  | n + 1, h, hn, hin, i => by
    by_cases e0 : k = n + 1
    · subst e0; exact Int.le_refl _
    · have ih := mixB_mono (k := k) (n := n) (by omega) (by omega) (fun i x hi hx => hin i x (by omega) hx) i
      have e : o[n]? = some o[n] := List.getElem?_eq_getElem _
      obtain ⟨h1, h2⟩ := hin n _ (by omega) e
      obtain ⟨j, hj⟩ := Int.eq_ofNat_of_zero_le h1
      rw [hj] at e h2
      rw [mixB_get e (by omega)]
      split
      · rename_i hji; subst hji; omega
      · omega
/-- No model comes too often. -/
def mixNone (cs o : List Int) (k : Nat) : Prop := ∀ i x, i < k → o[i]? = some x → (mixB cs.length o i).getD x.toNat 0 ≠ cs.getD x.toNat 0
theorem mix_le {cs o : List Int} (h0 : ∀ i, 0 ≤ cs.getD i 0) : ∀ {k : Nat}, k ≤ o.length → inModels cs.length o k → mixNone cs o k → ∀ i, (mixB cs.length o k).getD i 0 ≤ cs.getD i 0
  | 0, _, _, _, i => by rw [mixB_zero]; exact h0 i
  | k + 1, hk, hin, hno, i => by
    have ih := mix_le h0 (k := k) (by omega) (fun i x hi hx => hin i x (by omega) hx) (fun i x hi hx => hno i x (by omega) hx)
    have e : o[k]? = some o[k] := List.getElem?_eq_getElem _
    obtain ⟨h1, h2⟩ := hin k _ (by omega) e
    have h3 := hno k _ (by omega) e
    obtain ⟨j, hj⟩ := Int.eq_ofNat_of_zero_le h1
    rw [hj] at e h2 h3
    rw [Int.toNat_natCast] at h3
    rw [mixB_get e (by omega)]
    have a := ih i
    have b := ih j
    split
    · rename_i hji; subst hji; omega
    · omega
/-- None comes too often, so all come often enough. -/
theorem mix_all {cs o : List Int} (h0 : ∀ i, 0 ≤ cs.getD i 0) (hs : (o.length : Int) = sumTo cs cs.length) (hin : inModels cs.length o o.length) (hno : mixNone cs o o.length) : mixB cs.length o o.length = cs := by
  have hle := mix_le h0 (Nat.le_refl _) hin hno
  have hsum := mixB_sum (Nat.le_refl _) hin
  refine list_eq_getD (mixB_length _ _ _) fun i hi => ?_
  rw [mixB_length] at hi
  exact sumTo_eq cs.length (fun i _ => hle i) (by omega) i hi
theorem mix_too {cs o : List Int} {k j : Nat} (hk : k < o.length) (hin : inModels cs.length o o.length) (e : o[k]? = some (j : Int)) (hj : j < cs.length) (heq : (mixB cs.length o k).getD j 0 = cs.getD j 0) : mixB cs.length o o.length ≠ cs := by
  intro h
  have h1 := mixB_mono (k := k + 1) (n := o.length) hk (Nat.le_refl _) hin j
  rw [mixB_get e hj, if_pos rfl, h] at h1
  omega

/-- How far the first i models are from even at the place k, or g. -/
def byAt (cs b : List Int) (n k : Int) (i : Nat) : Int := k * cs.getD i 0 - n * b.getD i 0
def gapIn (cs b : List Int) (n k g : Int) : Nat → Int
  | 0 => g
  | i + 1 => max (gapIn cs b n k g i) (max (byAt cs b n k i) (-(byAt cs b n k i)))
def mixGap (cs o : List Int) (n : Int) : Nat → Int
  | 0 => 0
  | k + 1 => gapIn cs (mixB cs.length o (k + 1)) n ((k + 1 : Nat) : Int) (mixGap cs o n k) cs.length
theorem mul_bound {a b A B : Int} (ha : 0 ≤ a) (ha2 : a ≤ A) (hb : 0 ≤ b) (hb2 : b ≤ B) : 0 ≤ a * b ∧ a * b ≤ A * B :=
  ⟨Int.mul_nonneg ha hb, Int.mul_le_mul ha2 hb2 hb (Int.le_trans ha ha2)⟩
theorem byAt_bound {cs b : List Int} {n k : Int} (hn : 0 ≤ n ∧ n ≤ 64) (hk : 0 ≤ k ∧ k ≤ 64) {i : Nat} (hc : 0 ≤ cs.getD i 0 ∧ cs.getD i 0 ≤ 16) (hb : 0 ≤ b.getD i 0 ∧ b.getD i 0 ≤ 64) :
    (0 ≤ k * cs.getD i 0 ∧ k * cs.getD i 0 ≤ 1024) ∧ (0 ≤ n * b.getD i 0 ∧ n * b.getD i 0 ≤ 4096) ∧ -4096 ≤ byAt cs b n k i ∧ byAt cs b n k i ≤ 1024 := by
  have h1 := mul_bound hk.1 hk.2 hc.1 hc.2
  have h2 := mul_bound hn.1 hn.2 hb.1 hb.2
  unfold byAt
  omega
theorem gapIn_bound {cs b : List Int} {n k g : Int} (hg : 0 ≤ g ∧ g ≤ 4096) (h : ∀ i, i < cs.length → -4096 ≤ byAt cs b n k i ∧ byAt cs b n k i ≤ 1024) : ∀ i, i ≤ cs.length → 0 ≤ gapIn cs b n k g i ∧ gapIn cs b n k g i ≤ 4096
  | 0, _ => hg
  | i + 1, hi => by
    have ih := gapIn_bound hg h i (by omega)
    have := h i (by omega)
    unfold gapIn
    omega
end Go.Proofs.Ytnkbnkiaokkjhaa
