/- Which games are rounds. -/
import Derived.Test.YtpmglmpopmppbaaPairPure
import Derived.Test.YtpmglmpopmppbaaOrder
import Derived.Test.YtpmglmpopmppbaaInRows
namespace Go.Proofs.Ytpmglmpopmppbaa
open Go.RowKit Go.Lst Go.Plan

/-- So many teams can play rounds. -/
def teamsOk (T : Int) : Bool := inB T 2 16 && decide (T % 2 = 0)
/-- The number i is a team, and comes not twice in its round. -/
def gameAt (t : Nat) (xs : List Int) (i : Nat) : Bool := inB (xs.getD i 0) 0 ((t : Int) - 1) && !((xs.drop (i / t * t)).take (i - i / t * t)).contains (xs.getD i 0)
def gamesTo (t : Nat) (xs : List Int) (k : Nat) : Bool := (List.range k).all (gameAt t xs)
theorem gamesTo_succ (t : Nat) (xs : List Int) (k : Nat) : gamesTo t xs (k + 1) = (gamesTo t xs k && gameAt t xs k) := by
  unfold gamesTo; rw [List.range_succ, List.all_append]; simp
theorem gamesTo_no {t : Nat} {xs : List Int} {k : Nat} (h : gamesTo t xs k = false) : ∀ {n : Nat}, k ≤ n → gamesTo t xs n = false := fun {n} hk => by
  induction n with
  | zero => rw [← h, show k = 0 by omega]
  | succ n ih =>
    by_cases he : k = n + 1
    · rw [← he]; exact h
    · rw [gamesTo_succ, ih (by omega), Bool.false_and]
theorem gamesTo_row {t : Nat} {xs : List Int} {j : Nat} (ht : 0 < t) : ∀ k, k ≤ t → j * t + k ≤ xs.length → gamesTo t xs (j * t + k) = (gamesTo t xs (j * t) && ordUpTo (rowOf xs t j) t k)
  | 0, _, _ => by simp [ordUpTo]
  | k + 1, hk, hl => by
    rw [← Nat.add_assoc, gamesTo_succ, gamesTo_row ht k (by omega) (by omega), Bool.and_assoc]
    congr 1
    unfold gameAt
    have e1 : (j * t + k) / t = j := by
      rw [Nat.mul_comm, Nat.mul_add_div ht, Nat.div_eq_of_lt (by omega), Nat.add_zero]
    have e2 : (rowOf xs t j)[k]? = some (xs.getD (j * t + k) 0) := by
      unfold rowOf
      rw [List.getElem?_take, if_pos (by omega), List.getElem?_drop, List.getD_eq_getElem?_getD, List.getElem?_eq_getElem (by omega)]; rfl
    have e3 : ((xs.drop (j * t)).take k) = (rowOf xs t j).take k := by
      unfold rowOf
      rw [List.take_take, Nat.min_eq_left (by omega)]
    rw [e1, show j * t + k - j * t = k by omega, e3]
    show _ = (ordUpTo (rowOf xs t j) t k && _)
    rw [e2]
    rfl
def rowsIn (t : Nat) (xs : List Int) (n : Nat) : Bool := (List.range n).all fun j => isOrder (rowOf xs t j) t
theorem rowsIn_succ (t : Nat) (xs : List Int) (n : Nat) : rowsIn t xs (n + 1) = (rowsIn t xs n && isOrder (rowOf xs t n) t) := by
  unfold rowsIn; rw [List.range_succ, List.all_append]; simp
theorem rowsIn_no {t : Nat} {xs : List Int} {k : Nat} (h : isOrder (rowOf xs t k) t = false) {n : Nat} (hk : k < n) : rowsIn t xs n = false := by
  unfold rowsIn
  cases hc : (List.range n).all fun j => isOrder (rowOf xs t j) t
  · rfl
  · rw [List.all_eq_true] at hc
    rw [hc k (List.mem_range.2 hk)] at h; cases h
theorem row_order {t n : Nat} {xs : List Int} (h1 : 1 ≤ t) (h2 : t ≤ 24) (hl : xs.length = n * t) {j : Nat} (hj : j < n) : isOrder (rowOf xs t j) t = ordUpTo (rowOf xs t j) t t := by
  unfold isOrder isOrd
  rw [rowOf_length hl hj, show inB (t : Int) 1 24 = true by unfold inB; rw [decide_eq_true_eq]; omega, Bool.true_and, decide_eq_true rfl, Bool.true_and]
theorem rows_eq {t n : Nat} {xs : List Int} (h1 : 1 ≤ t) (h2 : t ≤ 24) (hl : xs.length = n * t) : ∀ k, k ≤ n → gamesTo t xs (k * t) = rowsIn t xs k
  | 0, _ => by simp [gamesTo, rowsIn]
  | k + 1, hk => by
    have := row_fit (m := t) (show k < n by omega)
    rw [show (k + 1) * t = k * t + t by rw [Nat.add_mul, Nat.one_mul], gamesTo_row (by omega) t (Nat.le_refl _) (by omega), rows_eq h1 h2 hl k (by omega), rowsIn_succ, row_order h1 h2 hl (by omega)]
/-- No pair comes twice. -/
def onceTo (xs : List Int) (k : Nat) : Bool := (List.range k).all fun i => !(pairsTo xs i).contains (pairAt xs i)
theorem onceTo_succ (xs : List Int) (k : Nat) : onceTo xs (k + 1) = (onceTo xs k && !(pairsTo xs k).contains (pairAt xs k)) := by
  unfold onceTo; rw [List.range_succ, List.all_append]; simp
theorem onceTo_no {xs : List Int} {k : Nat} (h : onceTo xs k = false) : ∀ {n : Nat}, k ≤ n → onceTo xs n = false := fun {n} hk => by
  induction n with
  | zero => rw [← h, show k = 0 by omega]
  | succ n ih =>
    by_cases he : k = n + 1
    · rw [← he]; exact h
    · rw [onceTo_succ, ih (by omega), Bool.false_and]
theorem once_iff (xs : List Int) : ∀ k, onceTo xs k = decide (pairsTo xs k).Nodup
  | 0 => by simp [onceTo, pairsTo]
  | k + 1 => by
    rw [onceTo_succ, once_iff xs k, pairsTo_succ, Bool.eq_iff_iff]
    simp only [Bool.and_eq_true, decide_eq_true_eq, Bool.not_eq_true', List.contains_eq_mem, decide_eq_false_iff_not, List.nodup_append, List.mem_singleton]
    constructor
    · rintro ⟨h1, h2⟩
      exact ⟨h1, by simp, fun a ha b hb hab => h2 (by rw [← hb, ← hab]; exact ha)⟩
    · rintro ⟨h1, _, h3⟩
      exact ⟨h1, fun hm => h3 _ hm _ rfl rfl⟩
/-- So many numbers are 1 to 2 T - 2 rounds. -/
def sizeOk (T : Int) (n : Nat) : Bool := decide (T ≤ n) && decide ((n : Int) % T = 0) && decide ((n : Int) / T ≤ 2 * T - 2)
def roundsOk (T : Int) (xs : List Int) : Bool := teamsOk T && sizeOk T xs.length && rowsIn T.toNat xs (xs.length / T.toNat) && decide (pairsL xs).Nodup
theorem teams_in {T : Int} (h : teamsOk T = true) : 2 ≤ T ∧ T ≤ 16 ∧ T % 2 = 0 := by
  unfold teamsOk at h
  rw [Bool.and_eq_true, decide_eq_true_eq] at h
  have := inB_true h.1
  omega
/-- Rounds of t teams, r of them. -/
theorem rounds_of {T : Int} {xs : List Int} (h : roundsOk T xs = true) : ∃ t r m : Nat, T = (t : Int) ∧ 2 ≤ t ∧ t ≤ 16 ∧ t = 2 * m ∧ 1 ≤ r ∧ r ≤ 2 * t - 2 ∧ xs.length = r * t ∧ rowsIn t xs r = true ∧ (pairsL xs).Nodup := by
  unfold roundsOk sizeOk at h
  simp only [Bool.and_eq_true, decide_eq_true_eq] at h
  obtain ⟨⟨⟨h1, ⟨h2, h3⟩, h4⟩, h5⟩, h6⟩ := h
  obtain ⟨a1, a2, a3⟩ := teams_in h1
  obtain ⟨t, rfl⟩ : ∃ t : Nat, T = (t : Int) := ⟨T.toNat, by omega⟩
  rw [Int.toNat_natCast] at h5
  have e0 : xs.length % t = 0 := by omega
  have e1 : xs.length = xs.length / t * t := by have := Nat.div_add_mod xs.length t; rw [e0, Nat.add_zero, Nat.mul_comm] at this; exact this.symm
  have e2 : 1 ≤ xs.length / t := (Nat.one_le_div_iff (by omega)).2 (by omega)
  rw [← Int.natCast_ediv] at h4
  exact ⟨t, xs.length / t, t / 2, rfl, by omega, by omega, by omega, e2, by omega, e1, h5, h6⟩
theorem sizeOk_iff {t : Nat} {n : Nat} (ht : 2 ≤ t) (ht2 : t ≤ 16) : sizeOk t n = (decide (n ≠ 0) && decide (n % t = 0) && decide (n ≤ (2 * t - 2) * t)) := by
  rw [Bool.eq_iff_iff]
  unfold sizeOk
  simp only [Bool.and_eq_true, decide_eq_true_eq]
  constructor
  · rintro ⟨⟨h1, h2⟩, h3⟩
    have e0 : n % t = 0 := by omega
    have e1 : n = n / t * t := by have := Nat.div_add_mod n t; rw [e0, Nat.add_zero, Nat.mul_comm] at this; exact this.symm
    have e9 : n ≠ 0 := by clear e1; omega
    refine ⟨⟨e9, e0⟩, ?_⟩
    rw [← Int.natCast_ediv] at h3
    rw [e1]
    exact Nat.mul_le_mul_right t (by generalize n / t = q at h3; omega)
  · rintro ⟨⟨h1, h2⟩, h3⟩
    have e1 : n = n / t * t := by have := Nat.div_add_mod n t; rw [h2, Nat.add_zero, Nat.mul_comm] at this; exact this.symm
    have e2 : n / t ≤ 2 * t - 2 := by rw [e1] at h3; exact Nat.le_of_mul_le_mul_right h3 (by omega)
    have e3 : n / t ≠ 0 := fun h => by rw [h, Nat.zero_mul] at e1; exact h1 e1
    have e4 : t ≤ n := by
      rw [e1]
      exact Nat.le_mul_of_pos_left t (Nat.pos_of_ne_zero e3)
    refine ⟨⟨by omega, by omega⟩, ?_⟩
    rw [← Int.natCast_ediv]
    generalize n / t = q at e2
    omega
end Go.Proofs.Ytpmglmpopmppbaa
