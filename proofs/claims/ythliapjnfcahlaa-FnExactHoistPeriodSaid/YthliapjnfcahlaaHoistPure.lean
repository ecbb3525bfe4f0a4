/- Pure facts on hoists: no two moves overlap by remainders just where no remainder is taken twice. -/
import Derived.Test.YthliapjnfcahlaaRuns
import Derived.Test.YthliapjnfcahlaaTurn
namespace Go.Proofs.Ythliapjnfcahlaa
open Go.RowKit Go.Lst

/-- The time x1 of the move i1 comes ahead of the time x of the move i. -/
def Bef (m : Nat → Nat) (i x i1 x1 : Nat) : Prop := (i1 < i ∧ x1 < m i1) ∨ (i1 = i ∧ x1 < x)
def NC (b m : Nat → Nat) (P i x : Nat) : Prop := ∀ i1 x1 i2 x2, Bef m i x i2 x2 → Bef m i2 x2 i1 x1 → (b i1 + x1) % P ≠ (b i2 + x2) % P
def Occ (b m : Nat → Nat) (P i x r : Nat) : Prop := ∃ i1 x1, Bef m i x i1 x1 ∧ (b i1 + x1) % P = r
theorem nc_zero (b m : Nat → Nat) (P : Nat) : NC b m P 0 0 := fun i1 x1 i2 x2 h _ => by
  rcases h with ⟨h, _⟩ | ⟨_, h⟩ <;> omega
theorem occ_zero (b m : Nat → Nat) (P r : Nat) : ¬ Occ b m P 0 0 r := fun ⟨i1, x1, h, _⟩ => by
  rcases h with ⟨h, _⟩ | ⟨_, h⟩ <;> omega
theorem bef_step {m : Nat → Nat} {i x i1 x1 : Nat} : Bef m i (x + 1) i1 x1 ↔ Bef m i x i1 x1 ∨ (i1 = i ∧ x1 = x) := by
  unfold Bef
  constructor
  · rintro (h | ⟨h1, h2⟩)
    · exact .inl (.inl h)
    · by_cases e : x1 = x
      · exact .inr ⟨h1, e⟩
      · exact .inl (.inr ⟨h1, by omega⟩)
  · rintro ((h | ⟨h1, h2⟩) | ⟨h1, h2⟩)
    · exact .inl h
    · exact .inr ⟨h1, by omega⟩
    · exact .inr ⟨h1, by omega⟩
theorem bef_next {m : Nat → Nat} {i i1 x1 : Nat} : Bef m (i + 1) 0 i1 x1 ↔ Bef m i (m i) i1 x1 := by
  unfold Bef
  constructor
  · rintro (⟨h1, h2⟩ | ⟨_, h2⟩)
    · by_cases e : i1 = i
      · subst e; exact .inr ⟨rfl, h2⟩
      · exact .inl ⟨by omega, h2⟩
    · omega
  · rintro (⟨h1, h2⟩ | ⟨h1, h2⟩)
    · exact .inl ⟨by omega, h2⟩
    · subst h1; exact .inl ⟨by omega, h2⟩
theorem nc_step {b m : Nat → Nat} {P i x : Nat} (h : NC b m P i x) (ho : ¬ Occ b m P i x ((b i + x) % P)) : NC b m P i (x + 1) := fun i1 x1 i2 x2 h2 h1 => by
  rcases bef_step.1 h2 with h2 | ⟨rfl, rfl⟩
  · exact h i1 x1 i2 x2 h2 h1
  · exact fun e => ho ⟨i1, x1, h1, e⟩
theorem nc_bad {b m : Nat → Nat} {P i x n : Nat} (hi : i < n) (hx : x < m i) (ho : Occ b m P i x ((b i + x) % P)) : ¬ NC b m P n 0 := fun h => by
  obtain ⟨i1, x1, h1, e⟩ := ho
  exact h i1 x1 i x (.inl ⟨hi, hx⟩) h1 e
theorem nc_next {b m : Nat → Nat} {P i : Nat} (h : NC b m P i (m i)) : NC b m P (i + 1) 0 := fun i1 x1 i2 x2 h2 h1 => h i1 x1 i2 x2 (bef_next.1 h2) h1
theorem occ_step {b m : Nat → Nat} {P i x r : Nat} : Occ b m P i (x + 1) r ↔ Occ b m P i x r ∨ r = (b i + x) % P := by
  constructor
  · rintro ⟨i1, x1, h, e⟩
    rcases bef_step.1 h with h | ⟨rfl, rfl⟩
    · exact .inl ⟨i1, x1, h, e⟩
    · exact .inr e.symm
  · rintro (⟨i1, x1, h, e⟩ | e)
    · exact ⟨i1, x1, bef_step.2 (.inl h), e⟩
    · exact ⟨i, x, bef_step.2 (.inr ⟨rfl, rfl⟩), e.symm⟩
theorem occ_next {b m : Nat → Nat} {P i r : Nat} : Occ b m P (i + 1) 0 r ↔ Occ b m P i (m i) r :=
  ⟨fun ⟨i1, x1, h, e⟩ => ⟨i1, x1, bef_next.1 h, e⟩, fun ⟨i1, x1, h, e⟩ => ⟨i1, x1, bef_next.2 h, e⟩⟩

def apart2 (b m : Nat → Nat) (P i k : Nat) : Bool := decide (m k ≤ (b i - b k) % P) && decide (m i + (b i - b k) % P ≤ P)
def apartAll (b m : Nat → Nat) (P n : Nat) : Bool := (List.range n).all fun i => (List.range i).all fun k => apart2 b m P i k
theorem apartAll_iff {b m : Nat → Nat} {P n : Nat} : apartAll b m P n = true ↔ ∀ i k, i < n → k < i → apart2 b m P i k = true := by
  unfold apartAll
  constructor
  · intro h i k hi hk
    exact List.all_eq_true.1 (List.all_eq_true.1 h i (List.mem_range.2 hi)) k (List.mem_range.2 hk)
  · intro h
    exact List.all_eq_true.2 fun i hi => List.all_eq_true.2 fun k hk => h i k (List.mem_range.1 hi) (List.mem_range.1 hk)
theorem same_mod {P x y : Nat} (h : x % P = y % P) (hxy : x ≤ y) : ∃ q, y = x + P * q := by
  have := Nat.sub_mod_eq_zero_of_mod_eq h.symm
  obtain ⟨q, hq⟩ := Nat.dvd_of_mod_eq_zero this
  exact ⟨q, by omega⟩
theorem mul_small {P q d : Nat} (h : d = P * q) (h1 : 0 < d) (h2 : d < P) : False := by
  rcases Nat.eq_zero_or_pos q with h0 | h0
  · subst h0; omega
  · have := Nat.le_mul_of_pos_right P h0
    omega
theorem apart_iff {b m : Nat → Nat} {P n : Nat} (hP : 1 ≤ P) (hn : 2 ≤ n) (hm : ∀ i, i < n → 1 ≤ m i) (hb : ∀ i k, i < n → k < i → b k ≤ b i) : NC b m P n 0 ↔ apartAll b m P n = true := by
  rw [apartAll_iff]
  constructor
  · intro h i k hi hk
    have hmi := hm i hi
    have hmk := hm k (by omega)
    have hbk := hb i k hi hk
    have hdm := Nat.div_add_mod (b i - b k) P
    have hdl := Nat.mod_lt (b i - b k) (show 0 < P by omega)
    generalize hd : (b i - b k) % P = d at *
    generalize (b i - b k) / P = q at *
    unfold apart2
    rw [hd, Bool.and_eq_true, decide_eq_true_eq, decide_eq_true_eq]
    constructor
    · rcases Nat.lt_or_ge d (m k) with hlt | hge
      · exfalso
        refine h k d i 0 (.inl ⟨hi, by omega⟩) (.inl ⟨hk, hlt⟩) ?_
        have : b i + 0 = b k + d + P * q := by omega
        rw [this, Nat.add_mul_mod_self_left]
      · exact hge
    · rcases Nat.lt_or_ge P (m i + d) with hlt | hge
      · exfalso
        refine h k 0 i (P - d) (.inl ⟨hi, by omega⟩) (.inl ⟨hk, by omega⟩) ?_
        have : b i + (P - d) = b k + 0 + P * (q + 1) := by rw [Nat.mul_add, Nat.mul_one]; omega
        rw [this, Nat.add_mul_mod_self_left]
      · exact hge
  · intro h i1 x1 i2 x2 h2 h1 e
    have hlen : ∀ i, i < n → m i ≤ P := fun i hi => by
      rcases Nat.eq_zero_or_pos i with h0 | h0
      · have := h 1 0 (by omega) (by omega)
        unfold apart2 at this
        rw [Bool.and_eq_true, decide_eq_true_eq, decide_eq_true_eq] at this
        have := Nat.mod_lt (b 1 - b 0) (show 0 < P by omega)
        subst h0
        omega
      · have := h i 0 hi h0
        unfold apart2 at this
        rw [Bool.and_eq_true, decide_eq_true_eq, decide_eq_true_eq] at this
        omega
    have hi2 : i2 < n ∧ x2 < m i2 := by rcases h2 with h2 | ⟨_, h2⟩; exact h2; omega
    rcases h1 with ⟨hlt, hx1⟩ | ⟨rfl, hx⟩
    · have hap := h i2 i1 hi2.1 hlt
      unfold apart2 at hap
      rw [Bool.and_eq_true, decide_eq_true_eq, decide_eq_true_eq] at hap
      have hbk := hb i2 i1 hi2.1 hlt
      have hdm := Nat.div_add_mod (b i2 - b i1) P
      generalize (b i2 - b i1) % P = d at *
      generalize (b i2 - b i1) / P = q at *
      have e2 : (b i1 + x1) % P = (b i1 + (d + x2)) % P := by
        rw [e]
        have : b i2 + x2 = b i1 + (d + x2) + P * q := by omega
        rw [this, Nat.add_mul_mod_self_left]
      obtain ⟨q2, hq2⟩ := same_mod e2 (by omega)
      exact mul_small (d := d + x2 - x1) (q := q2) (P := P) (by omega) (by omega) (by omega)
    · obtain ⟨q2, hq2⟩ := same_mod e (by omega)
      have := hlen i1 hi2.1
      exact mul_small (d := x2 - x1) (q := q2) (P := P) (by omega) (by omega) (by omega)

/-- When the moves begin. -/
def bgn (ss ms : List Int) : Nat → Nat
  | 0 => 0
  | i + 1 => bgn ss ms i + (ms.getD i 0).toNat + (ss.getD i 0).toNat
def mov (ms : List Int) (i : Nat) : Nat := (ms.getD i 0).toNat
def canHoist (ss ms : List Int) (most : Int) : Bool := okRuns ss && decide (ms.length = ss.length + 1) && allIn ms 1 100 && inB most 1 10000
theorem canHoist_of {ss ms : List Int} {most : Int} (h : canHoist ss ms most = true) : okRuns ss = true ∧ ms.length = ss.length + 1 ∧ allIn ms 1 100 = true ∧ inB most 1 10000 = true := by
  simp only [canHoist, Bool.and_eq_true, decide_eq_true_eq] at h
  exact ⟨h.1.1.1, h.1.1.2, h.1.2, h.2⟩
def allUnder (ss : List Int) (P : Nat) : Bool := ss.all fun x => decide (x ≤ (P : Int))
def goodP (ss ms : List Int) (P : Nat) : Bool := allUnder ss P && apartAll (bgn ss ms) (mov ms) P ms.length
/-- The least period, less 1. -/
def firstP (ss ms : List Int) (M : Nat) : Option Nat := (List.range M).find? fun j => goodP ss ms (j + 1)
def hoistRes (ss ms : List Int) (most : Int) : Int × Bool :=
  if canHoist ss ms most then (match firstP ss ms most.toNat with | some j => (((j + 1 : Nat) : Int), true) | none => (0, false)) else (0, false)
theorem hoist_no {ss ms : List Int} {most : Int} (h : canHoist ss ms most = false) : hoistRes ss ms most = (0, false) := by unfold hoistRes; rw [h]; rfl
theorem hoist_none {ss ms : List Int} {M : Nat} (h : ∀ P, 1 ≤ P → P ≤ M → goodP ss ms P = false) : hoistRes ss ms M = (0, false) := by
  unfold hoistRes
  split
  · have : firstP ss ms M = none := by
      unfold firstP
      rw [List.find?_eq_none]
      intro j hj
      rw [h (j + 1) (by omega) (by have := List.mem_range.1 hj; omega)]; simp
    rw [Int.toNat_natCast, this]
  · rfl
theorem hoist_found {ss ms : List Int} {M P : Nat} (hc : canHoist ss ms M = true) (h1 : 1 ≤ P) (hM : P ≤ M) (hg : goodP ss ms P = true) (h : ∀ P', 1 ≤ P' → P' < P → goodP ss ms P' = false) : hoistRes ss ms M = ((P : Int), true) := by
  unfold hoistRes
  rw [if_pos hc]
  have : firstP ss ms M = some (P - 1) := by
    unfold firstP
    rw [List.find?_range_eq_some]
    refine ⟨by rw [show P - 1 + 1 = P by omega]; exact hg, List.mem_range.2 (by omega), fun j hj => ?_⟩
    rw [h (j + 1) (by omega) (by omega)]; rfl
  rw [Int.toNat_natCast, this]
  show (((P - 1 + 1 : Nat) : Int), true) = _
  rw [show P - 1 + 1 = P by omega]
theorem mov_in {ms : List Int} (h : allIn ms 1 100 = true) {i : Nat} (hi : i < ms.length) : 1 ≤ mov ms i ∧ mov ms i ≤ 100 ∧ ms[i]? = some ((mov ms i : Nat) : Int) := by
  have e : ms[i]? = some ms[i] := List.getElem?_eq_getElem _
  have := allIn_of h e
  unfold mov
  rw [getD_of e, e]
  refine ⟨by omega, by omega, ?_⟩
  congr 1
  omega
theorem soak_in {ss : List Int} (h : okRuns ss = true) {i : Nat} (hi : i < ss.length) : ss[i]? = some (((ss.getD i 0).toNat : Nat) : Int) ∧ (ss.getD i 0).toNat ≤ 1000 := by
  have e : ss[i]? = some ss[i] := List.getElem?_eq_getElem _
  have := (okRuns_of h).2.2 i _ e
  rw [getD_of e, e]
  refine ⟨?_, by omega⟩
  congr 1
  omega
theorem bgn_mono (ss ms : List Int) : ∀ i k, k ≤ i → bgn ss ms k ≤ bgn ss ms i
  | 0, k, h => by have : k = 0 := by omega
                  subst this; exact Nat.le_refl _
  | i + 1, k, h => by
    by_cases e : k = i + 1
    · subst e; exact Nat.le_refl _
    · have := bgn_mono ss ms i k (by omega)
      show bgn ss ms k ≤ bgn ss ms i + _ + _
      omega
theorem bgn_bound {ss ms : List Int} (hs : okRuns ss = true) (hm : allIn ms 1 100 = true) (hl : ms.length = ss.length + 1) : ∀ i, i ≤ ss.length → bgn ss ms i ≤ 1100 * i
  | 0, _ => Nat.le_refl _
  | i + 1, h => by
    have ih := bgn_bound hs hm hl i (by omega)
    have h1 := (mov_in hm (i := i) (by omega)).2.1
    have h2 := (soak_in hs (i := i) (by omega)).2
    unfold mov at h1
    show bgn ss ms i + _ + _ ≤ _
    omega
theorem nc_good {ss ms : List Int} {P : Nat} (hs : okRuns ss = true) (hm : allIn ms 1 100 = true) (hl : ms.length = ss.length + 1) (hP : 1 ≤ P) : NC (bgn ss ms) (mov ms) P ms.length 0 ↔ apartAll (bgn ss ms) (mov ms) P ms.length = true :=
  apart_iff hP (by have := (okRuns_of hs).1; omega) (fun i hi => (mov_in hm hi).1) (fun i k _ hk => bgn_mono ss ms i k (by omega))
end Go.Proofs.Ythliapjnfcahlaa
