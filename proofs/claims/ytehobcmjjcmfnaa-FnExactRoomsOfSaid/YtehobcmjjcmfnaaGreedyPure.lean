/- Talks taken one after another in the order of their ends: pure facts. -/
import Derived.Test.YtehobcmjjcmfnaaMeets
namespace Go.Proofs.Ytehobcmjjcmfnaa.Greedy
open Srt

/-- None of the talks at the places L meets the talk i. -/
def free (P : Nat → Int × Int) (L : List Nat) (i : Nat) : Bool := !(L.any fun j => meetT (P i) (P j))
/-- What is taken of the first k talks of an order. -/
def greedy (P : Nat → Int × Int) (f : Nat → Nat) : Nat → List Nat
  | 0 => []
  | k + 1 => if free P (greedy P f k) (f k) then greedy P f k ++ [f k] else greedy P f k
theorem greedy_len (P : Nat → Int × Int) (f : Nat → Nat) : ∀ k, (greedy P f k).length ≤ k
  | 0 => Nat.le_refl _
  | k + 1 => by
    have := greedy_len P f k
    unfold greedy
    split
    · rw [List.length_append]; simp; omega
    · omega
theorem greedy_from (P : Nat → Int × Int) (f : Nat → Nat) : ∀ k, ∀ j ∈ greedy P f k, ∃ l, l < k ∧ f l = j
  | 0, j, h => by cases h
  | k + 1, j, h => by
    unfold greedy at h
    split at h
    · rcases List.mem_append.1 h with h | h
      · obtain ⟨l, hl, e⟩ := greedy_from P f k j h
        exact ⟨l, by omega, e⟩
      · exact ⟨k, by omega, (List.mem_singleton.1 h).symm⟩
    · obtain ⟨l, hl, e⟩ := greedy_from P f k j h
      exact ⟨l, by omega, e⟩
theorem free_more {P : Nat → Int × Int} {L : List Nat} {i : Nat} (M : List Nat) (h : free P L i = false) : free P (L ++ M) i = false := by
  unfold free at *
  rw [List.any_append]
  simp only [Bool.not_eq_false'] at *
  rw [h, Bool.true_or]
/-- Where nothing more is free, nothing more is taken. -/
theorem greedy_still (P : Nat → Int × Int) (f : Nat → Nat) (k : Nat) : ∀ m, k ≤ m → (∀ l, k ≤ l → l < m → free P (greedy P f k) (f l) = false) → greedy P f m = greedy P f k
  | 0, h, _ => by obtain rfl : k = 0 := by omega
                  rfl
  | m + 1, h, hn => by
    by_cases e : k = m + 1
    · rw [e]
    · have ih := greedy_still P f k m (by omega) fun l h1 h2 => hn l h1 (by omega)
      show (if free P (greedy P f m) (f m) then greedy P f m ++ [f m] else greedy P f m) = _
      rw [ih, hn m (by omega) (by omega), if_neg (by simp)]
/-- The free talk that ends first, of the first i; -1 where there is none. -/
def bestTo (P : Nat → Int × Int) (L : List Nat) : Nat → Int
  | 0 => -1
  | i + 1 => if free P L i && (decide (bestTo P L i < 0) || decide ((P i).2 < (P (bestTo P L i).toNat).2)) then (i : Int) else bestTo P L i
theorem bestTo_is (P : Nat → Int × Int) (L : List Nat) : ∀ n, (bestTo P L n = -1 ∧ ∀ i, i < n → free P L i = false) ∨
    ∃ b : Nat, b < n ∧ bestTo P L n = (b : Int) ∧ free P L b = true ∧ ∀ i, i < n → free P L i = true → i ≠ b → (P b).2 < (P i).2 ∨ ((P b).2 = (P i).2 ∧ b < i)
  | 0 => .inl ⟨rfl, fun i hi => by omega⟩
  | n + 1 => by
    have ih := bestTo_is P L n
    unfold bestTo
    cases hf : free P L n
    · rw [Bool.false_and, if_neg (by simp)]
      rcases ih with ⟨e, h⟩ | ⟨b, hb, e, fb, h⟩
      · refine .inl ⟨e, fun i hi => ?_⟩
        by_cases c : i = n
        · rw [c]; exact hf
        · exact h i (by omega)
      · refine .inr ⟨b, by omega, e, fb, fun i hi fi ne => ?_⟩
        by_cases c : i = n
        · rw [c, hf] at fi; cases fi
        · exact h i (by omega) fi ne
    · rw [Bool.true_and]
      rcases ih with ⟨e, h⟩ | ⟨b, hb, e, fb, h⟩
      · rw [e, if_pos (by simp)]
        refine .inr ⟨n, by omega, rfl, hf, fun i hi fi ne => ?_⟩
        have := h i (by omega)
        rw [fi] at this; cases this
      · rw [e, decide_eq_false (by omega), Bool.false_or, Int.toNat_natCast]
        by_cases c : (P n).2 < (P b).2
        · rw [decide_eq_true c, if_pos rfl]
          refine .inr ⟨n, by omega, rfl, hf, fun i hi fi ne => ?_⟩
          by_cases q : i = b
          · subst q; exact .inl c
          · have := h i (by omega) fi q
            exact .inl (by omega)
        · rw [decide_eq_false c, if_neg (by simp)]
          refine .inr ⟨b, by omega, rfl, fb, fun i hi fi ne => ?_⟩
          by_cases q : i = n
          · subst q
            by_cases c2 : (P b).2 = (P i).2
            · exact .inr ⟨c2, hb⟩
            · exact .inl (by omega)
          · exact h i (by omega) fi ne
/-- One more step of the model leads to a later step of the order. -/
theorem greedy_next {P : Nat → Int × Int} {f : Nat → Nat} {n k : Nat} (low : ∀ l, l < n → f l < n) (all : ∀ b, b < n → ∃ l, l < n ∧ f l = b) (ord : ∀ i j, i < j → j < n → (P (f i)).2 < (P (f j)).2 ∨ ((P (f i)).2 = (P (f j)).2 ∧ f i < f j))
    (rise : ∀ b, b < n → (P b).1 < (P b).2) (hk : k ≤ n) (hp : ∀ l, l < k → free P (greedy P f k) (f l) = false) :
    (bestTo P (greedy P f k) n = -1 ∧ greedy P f n = greedy P f k) ∨ ∃ b m : Nat, b < n ∧ bestTo P (greedy P f k) n = (b : Int) ∧ k ≤ m ∧ m < n ∧ greedy P f (m + 1) = greedy P f k ++ [b] ∧ ∀ l, l < m + 1 → free P (greedy P f (m + 1)) (f l) = false := by
  rcases bestTo_is P (greedy P f k) n with ⟨e, h⟩ | ⟨b, hb, e, fb, h⟩
  · exact .inl ⟨e, greedy_still P f k n hk fun l _ hl => h (f l) (low l hl)⟩
  · obtain ⟨m, hm, rfl⟩ := all b hb
    have hkm : k ≤ m := by
      by_cases c : m < k
      · have := hp m c
        rw [fb] at this; cases this
      · omega
    have hst : greedy P f m = greedy P f k := greedy_still P f k m hkm fun l h1 h2 => by
      cases q : free P (greedy P f k) (f l)
      · rfl
      · have o := ord l m h2 hm
        have hne : f l ≠ f m := by
          intro c
          rw [c] at o; omega
        have := h (f l) (low l (by omega)) q hne
        omega
    have hg : greedy P f (m + 1) = greedy P f k ++ [f m] := by
      show (if free P (greedy P f m) (f m) then greedy P f m ++ [f m] else greedy P f m) = _
      rw [hst, fb, if_pos rfl]
    refine .inr ⟨f m, m, hb, e, hkm, hm, hg, fun l hl => ?_⟩
    rw [hg]
    by_cases c : l < k
    · exact free_more _ (hp l c)
    · by_cases c2 : l = m
      · subst c2
        unfold free
        rw [List.any_append]
        have : meetT (P (f l)) (P (f l)) = true := by
          unfold meetT
          rw [decide_eq_true (rise _ hb)]; rfl
        simp [this]
      · have h3 : free P (greedy P f k) (f l) = false := by
          cases q : free P (greedy P f k) (f l)
          · rfl
          · have o := ord l m (by omega) hm
            have hne : f l ≠ f m := by
              intro c
              rw [c] at o; omega
            have := h (f l) (low l (by omega)) q hne
            omega
        exact free_more _ h3
end Go.Proofs.Ytehobcmjjcmfnaa.Greedy
