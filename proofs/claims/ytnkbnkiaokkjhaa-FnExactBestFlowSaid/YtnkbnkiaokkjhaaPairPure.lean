/- The pairs of a list; clashes, and the sets of what clashes, by binary digits. -/
import Derived.Test.YtnkbnkiaokkjhaaAreJobs
namespace Go.Proofs.Ytnkbnkiaokkjhaa
open Go.RowKit Go.Lst

/-- The pair j of a list. -/
def pairAt (xs : List Int) (j : Nat) : Int × Int := (xs.getD (2 * j) 0, xs.getD (2 * j + 1) 0)
/-- The pairs of a list, one behind the other. -/
def pairsTo (xs : List Int) (k : Nat) : List (Int × Int) := (List.range k).map (pairAt xs)
def pairsL (xs : List Int) : List (Int × Int) := pairsTo xs (xs.length / 2)
theorem pairsTo_succ (xs : List Int) (k : Nat) : pairsTo xs (k + 1) = pairsTo xs k ++ [pairAt xs k] := by unfold pairsTo; rw [List.range_succ, List.map_append]; rfl
theorem pairsTo_length (xs : List Int) (k : Nat) : (pairsTo xs k).length = k := by simp [pairsTo]
theorem pairsL_length (xs : List Int) : (pairsL xs).length = xs.length / 2 := pairsTo_length _ _
theorem pairsTo_get (xs : List Int) {k j : Nat} (h : j < k) : (pairsTo xs k)[j]? = some (pairAt xs j) := by
  unfold pairsTo
  rw [List.getElem?_map, List.getElem?_range h]; rfl
theorem pairs_mem {xs : List Int} {p : Int × Int} (h : p ∈ pairsL xs) : ∃ j, 2 * j + 1 < xs.length ∧ p = pairAt xs j := by
  unfold pairsL pairsTo at h
  obtain ⟨j, hj, rfl⟩ := List.mem_map.1 h
  exact ⟨j, by have := List.mem_range.1 hj; omega, rfl⟩
theorem getD_mem {xs : List Int} {i : Nat} (h : i < xs.length) : xs.getD i 0 ∈ xs := by
  rw [List.getD_eq_getElem?_getD, List.getElem?_eq_getElem h]
  exact List.getElem_mem h
theorem pair_mem {xs : List Int} {p : Int × Int} (h : p ∈ pairsL xs) : p.1 ∈ xs ∧ p.2 ∈ xs := by
  obtain ⟨j, hj, rfl⟩ := pairs_mem h
  exact ⟨getD_mem (by omega), getD_mem hj⟩

/-- Up to k, all numbers are exams, and the second one of a pair is another one than the first. -/
def clashTo (e : Int) (xs : List Int) (k : Nat) : Bool := (List.range k).all fun i => inB (xs.getD i 0) 0 (e - 1) && !(decide (i % 2 = 1) && (xs.getD i 0 == xs.getD (i - 1) 0))
theorem clashTo_succ (e : Int) (xs : List Int) (k : Nat) : clashTo e xs (k + 1) = (clashTo e xs k && (inB (xs.getD k 0) 0 (e - 1) && !(decide (k % 2 = 1) && (xs.getD k 0 == xs.getD (k - 1) 0)))) := by
  unfold clashTo; rw [List.range_succ, List.all_append]; simp
theorem clashTo_no {e : Int} {xs : List Int} : ∀ {k n : Nat}, clashTo e xs k = false → k ≤ n → clashTo e xs n = false := fun {k n} h hk => by
  induction n with
  | zero => rw [← h, show k = 0 by omega]
  | succ n ih =>
    by_cases he : k = n + 1
    · rw [← he]; exact h
    · rw [clashTo_succ, ih (by omega), Bool.false_and]
def noPairs (ps : List (Int × Int)) : Bool := ps.all fun p => !(p.1 == p.2)
def clashOk (e : Int) (xs : List Int) : Bool := inB e 1 12 && decide (xs.length ≤ 64) && decide (xs.length % 2 = 0) && allIn xs 0 (e - 1) && noPairs (pairsL xs)
theorem clash_eq (e : Int) (xs : List Int) (he : xs.length % 2 = 0) : clashTo e xs xs.length = (allIn xs 0 (e - 1) && noPairs (pairsL xs)) := by
  rw [Bool.eq_iff_iff]
  unfold clashTo allIn noPairs
  simp only [List.all_eq_true, Bool.and_eq_true, List.mem_range, Bool.not_eq_true', Bool.and_eq_false_iff, decide_eq_false_iff_not]
  constructor
  · intro h
    refine ⟨fun x hx => ?_, fun p hp => ?_⟩
    · obtain ⟨i, hi, rfl⟩ := List.mem_iff_getElem.1 hx
      have := (h i hi).1
      rwa [List.getD_eq_getElem?_getD, List.getElem?_eq_getElem hi] at this
    · obtain ⟨j, hj, rfl⟩ := pairs_mem hp
      have := (h (2 * j + 1) hj).2
      rw [beq_eq_false_iff_ne] at this ⊢
      rcases this with h1 | h1
      · omega
      · exact fun hc => h1 hc.symm
  · rintro ⟨h1, h2⟩ i hi
    refine ⟨h1 _ (getD_mem hi), ?_⟩
    by_cases ho : i % 2 = 1
    · right
      have hp : pairAt xs (i / 2) ∈ pairsL xs := by
        unfold pairsL pairsTo
        exact List.mem_map.2 ⟨i / 2, List.mem_range.2 (by omega), rfl⟩
      have := h2 _ hp
      unfold pairAt at this
      rw [show 2 * (i / 2) = i - 1 by omega, show i - 1 + 1 = i by omega] at this
      rw [beq_eq_false_iff_ne] at this ⊢
      exact fun hc => this hc.symm
    · exact .inl ho

/-- Two things clash by these pairs. -/
def clashB (ps : List (Int × Int)) (a b : Int) : Bool := ps.any fun p => (p.1 == a && p.2 == b) || (p.1 == b && p.2 == a)
/-- The set of what clashes with i, by binary digits. -/
def adjStep (i : Nat) (s : Nat) (p : Int × Int) : Nat := if p.1 = i then s ||| 2 ^ p.2.toNat else if p.2 = i then s ||| 2 ^ p.1.toNat else s
def adjN (ps : List (Int × Int)) (i : Nat) : Nat := ps.foldl (adjStep i) 0
theorem adjN_snoc (ps : List (Int × Int)) (p : Int × Int) (i : Nat) : adjN (ps ++ [p]) i = adjStep i (adjN ps i) p := by simp [adjN]
def setsN (e : Nat) (ps : List (Int × Int)) : List Int := (List.range e).map fun i => (adjN ps i : Int)
theorem setsN_length (e : Nat) (ps : List (Int × Int)) : (setsN e ps).length = e := by simp [setsN]
theorem setsN_get (ps : List (Int × Int)) {e i : Nat} (h : i < e) : (setsN e ps)[i]? = some (adjN ps i : Int) := by
  unfold setsN
  rw [List.getElem?_map, List.getElem?_range h]; rfl
theorem setsN_nil (e : Nat) : setsN e [] = List.replicate e 0 := by
  unfold setsN
  rw [List.eq_replicate_iff]
  refine ⟨by simp, fun x hx => ?_⟩
  obtain ⟨i, _, rfl⟩ := List.mem_map.1 hx
  rfl
/-- Pairs of different things below e. -/
def PairsIn (e : Nat) (ps : List (Int × Int)) : Prop := ∀ p ∈ ps, 0 ≤ p.1 ∧ p.1 < e ∧ 0 ≤ p.2 ∧ p.2 < e ∧ p.1 ≠ p.2
theorem PairsIn.snoc {e : Nat} {ps : List (Int × Int)} {p : Int × Int} (h : PairsIn e ps) (hp : 0 ≤ p.1 ∧ p.1 < e ∧ 0 ≤ p.2 ∧ p.2 < e ∧ p.1 ≠ p.2) : PairsIn e (ps ++ [p]) := fun q hq => by
  rcases List.mem_append.1 hq with hq | hq
  · exact h q hq
  · rw [List.mem_singleton] at hq; rw [hq]; exact hp
theorem adj_step_lt {e i s : Nat} (he : e ≤ 12) {p : Int × Int} (hp : 0 ≤ p.1 ∧ p.1 < e ∧ 0 ≤ p.2 ∧ p.2 < e ∧ p.1 ≠ p.2) (hs : s < 2 ^ 12) : adjStep i s p < 2 ^ 12 := by
  unfold adjStep
  split
  · exact Nat.or_lt_two_pow hs (Nat.pow_lt_pow_right (by omega) (by omega))
  · split
    · exact Nat.or_lt_two_pow hs (Nat.pow_lt_pow_right (by omega) (by omega))
    · exact hs
theorem adj_lt {e : Nat} (he : e ≤ 12) (i : Nat) : ∀ (ps : List (Int × Int)) (s : Nat), PairsIn e ps → s < 2 ^ 12 → ps.foldl (adjStep i) s < 2 ^ 12
  | [], _, _, hs => hs
  | p :: ps, _, h, hs => adj_lt he i ps _ (fun q hq => h q (List.mem_cons_of_mem _ hq)) (adj_step_lt he (h p (List.mem_cons_self ..)) hs)
theorem adjN_lt {e : Nat} (he : e ≤ 12) (ps : List (Int × Int)) (h : PairsIn e ps) (i : Nat) : adjN ps i < 4096 := adj_lt he i ps 0 h (by decide)
theorem two_pow_bit (k i : Nat) : (2 ^ k).testBit i = decide (k = i) := by rw [Nat.testBit_two_pow]
theorem toNat_eq {x : Int} {j : Nat} (h : 0 ≤ x) : (x.toNat = j) ↔ x = (j : Int) := by omega
theorem adj_bit_step {e : Nat} {p : Int × Int} (hp : 0 ≤ p.1 ∧ p.1 < e ∧ 0 ≤ p.2 ∧ p.2 < e ∧ p.1 ≠ p.2) (i j s : Nat) :
    (adjStep i s p).testBit j = (s.testBit j || ((p.1 == (i : Int) && p.2 == (j : Int)) || (p.1 == (j : Int) && p.2 == (i : Int)))) := by
  obtain ⟨h1, _, h2, _, h3⟩ := hp
  unfold adjStep
  generalize p.1 = x at *
  generalize p.2 = y at *
  split
  · rename_i h
    rw [Nat.testBit_or, two_pow_bit]
    congr 1
    rw [Bool.eq_iff_iff]
    simp only [Bool.or_eq_true, Bool.and_eq_true, beq_iff_eq, decide_eq_true_eq]
    omega
  · split
    · rename_i h h'
      rw [Nat.testBit_or, two_pow_bit]
      congr 1
      rw [Bool.eq_iff_iff]
      simp only [Bool.or_eq_true, Bool.and_eq_true, beq_iff_eq, decide_eq_true_eq]
      omega
    · rename_i h h'
      rw [show ((x == (i : Int) && y == (j : Int)) || (x == (j : Int) && y == (i : Int))) = false by simp [h, h'], Bool.or_false]
theorem adj_bit_from {e : Nat} (i j : Nat) : ∀ (ps : List (Int × Int)) (s : Nat), PairsIn e ps → (ps.foldl (adjStep i) s).testBit j = (s.testBit j || clashB ps i j)
  | [], s, _ => by simp [clashB]
  | p :: ps, s, h => by
    show (ps.foldl (adjStep i) (adjStep i s p)).testBit j = _
    rw [adj_bit_from i j ps _ (fun q hq => h q (List.mem_cons_of_mem _ hq)), adj_bit_step (h p (List.mem_cons_self ..))]
    unfold clashB
    rw [List.any_cons, Bool.or_assoc]
theorem adj_bit {e : Nat} {ps : List (Int × Int)} (h : PairsIn e ps) (i j : Nat) : (adjN ps i).testBit j = clashB ps i j := by
  unfold adjN
  rw [adj_bit_from i j ps 0 h, Nat.zero_testBit, Bool.false_or]
/-- One more pair, set by set. -/
theorem setsN_add {e : Nat} (ps : List (Int × Int)) {a b : Nat} (hab : a ≠ b) :
    ((setsN e ps).set a ((adjN ps a ||| 2 ^ b : Nat) : Int)).set b ((adjN ps b ||| 2 ^ a : Nat) : Int) = setsN e (ps ++ [((a : Int), (b : Int))]) := by
  apply List.ext_getElem?
  intro i
  by_cases hi : i < e
  · rw [setsN_get _ hi, adjN_snoc]
    unfold adjStep
    dsimp only
    rw [List.getElem?_set, List.getElem?_set, setsN_get _ hi]
    simp only [List.length_set, setsN_length]
    by_cases h1 : b = i
    · subst h1
      simp [hi, show ¬ ((a : Int) = (b : Int)) by omega]
    · by_cases h2 : a = i
      · subst h2
        simp [h1, hi]
      · simp [h1, h2, show ¬ ((a : Int) = (i : Int)) by omega, show ¬ ((b : Int) = (i : Int)) by omega]
  · rw [List.getElem?_eq_none (by simp [setsN_length]; omega), List.getElem?_eq_none (by simp [setsN_length]; omega)]

/-- Up to the pair k, each one begins in time and ends behind its beginning. -/
def talksTo (xs : List Int) (k : Nat) : Bool := (List.range k).all fun j => inB (xs.getD (2 * j) 0) 0 10000 && inB (xs.getD (2 * j + 1) 0) (xs.getD (2 * j) 0 + 1) 10000
theorem talksTo_succ (xs : List Int) (k : Nat) : talksTo xs (k + 1) = (talksTo xs k && (inB (xs.getD (2 * k) 0) 0 10000 && inB (xs.getD (2 * k + 1) 0) (xs.getD (2 * k) 0 + 1) 10000)) := by
  unfold talksTo; rw [List.range_succ, List.all_append]; simp
theorem talksTo_no {xs : List Int} : ∀ {k n : Nat}, talksTo xs k = false → k ≤ n → talksTo xs n = false := fun {k n} h hk => by
  induction n with
  | zero => rw [← h, show k = 0 by omega]
  | succ n ih =>
    by_cases he : k = n + 1
    · rw [← he]; exact h
    · rw [talksTo_succ, ih (by omega), Bool.false_and]
def risePairs (ps : List (Int × Int)) : Bool := ps.all fun p => decide (p.1 < p.2)
def talksOk (xs : List Int) : Bool := decide (2 ≤ xs.length) && decide (xs.length ≤ 64) && decide (xs.length % 2 = 0) && allIn xs 0 10000 && risePairs (pairsL xs)
theorem talks_eq (xs : List Int) (he : xs.length % 2 = 0) : talksTo xs (xs.length / 2) = (allIn xs 0 10000 && risePairs (pairsL xs)) := by
  rw [Bool.eq_iff_iff]
  unfold talksTo allIn risePairs
  simp only [List.all_eq_true, Bool.and_eq_true, List.mem_range, decide_eq_true_eq]
  constructor
  · intro h
    refine ⟨fun x hx => ?_, fun p hp => ?_⟩
    · obtain ⟨i, hi, rfl⟩ := List.mem_iff_getElem.1 hx
      have h1 := h (i / 2) (by omega)
      have e : xs.getD i 0 = xs[i] := by rw [List.getD_eq_getElem?_getD, List.getElem?_eq_getElem hi]; rfl
      by_cases ho : i % 2 = 0
      · rw [show 2 * (i / 2) = i by omega, e] at h1
        exact h1.1
      · have h2 := inB_true h1.1
        have h3 := inB_true h1.2
        rw [show 2 * (i / 2) + 1 = i by omega, e] at h3
        unfold inB
        rw [decide_eq_true_eq]; omega
    · obtain ⟨j, hj, rfl⟩ := pairs_mem hp
      have := inB_true (h j (by omega)).2
      unfold pairAt
      dsimp only
      omega
  · rintro ⟨h1, h2⟩ j hj
    have a1 := inB_true (h1 _ (getD_mem (show 2 * j < xs.length by omega)))
    have a2 := inB_true (h1 _ (getD_mem (show 2 * j + 1 < xs.length by omega)))
    have a3 := h2 (pairAt xs j) (by unfold pairsL pairsTo; exact List.mem_map.2 ⟨j, List.mem_range.2 hj, rfl⟩)
    unfold pairAt at a3
    dsimp only at a3
    unfold inB
    rw [decide_eq_true_eq, decide_eq_true_eq]
    omega
end Go.Proofs.Ytnkbnkiaokkjhaa
