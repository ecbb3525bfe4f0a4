/- Pure facts on even orders of models: which counts are right; the model that is built next; which orders have all models. -/
import Derived.Test.YtpolhjkjgbfdhaaMixPure
import Derived.Test.YtpolhjkjgbfdhaaLine
namespace Go.Proofs.Ytpolhjkjgbfdhaa
open Go.Lst

def okCounts (cs : List Int) : Bool := decide (1 ≤ cs.length) && decide (cs.length ≤ 8) && allIn cs 0 16 && inB (sumTo cs cs.length) 1 64
theorem okCounts_of {cs : List Int} (h : okCounts cs = true) : ∃ n : Nat, 1 ≤ cs.length ∧ cs.length ≤ 8 ∧ sumTo cs cs.length = (n : Int) ∧ 1 ≤ n ∧ n ≤ 64 ∧ ∀ (i : Nat) (x : Int), cs[i]? = some x → 0 ≤ x ∧ x ≤ 16 := by
  simp only [okCounts, Bool.and_eq_true, decide_eq_true_eq] at h
  obtain ⟨⟨⟨h1, h2⟩, h3⟩, h4⟩ := h
  obtain ⟨a, b⟩ := inB_true h4
  exact ⟨(sumTo cs cs.length).toNat, h1, h2, by omega, by omega, by omega, fun i x hx => allIn_of h3 hx⟩
theorem counts_sums {cs : List Int} (h8 : cs.length ≤ 8) (h3 : allIn cs 0 16 = true) : ∀ k, k ≤ cs.length → 0 ≤ sumTo cs k ∧ sumTo cs k ≤ 1000000000000 := fun k hk => by
  have h2 := sumTo_bound (lo := 0) (hi := 16) (fun i x hx => allIn_of h3 hx) (by omega) k hk
  omega
theorem counts_at {cs : List Int} (h : ∀ (i : Nat) (x : Int), cs[i]? = some x → 0 ≤ x ∧ x ≤ 16) (i : Nat) : 0 ≤ cs.getD i 0 ∧ cs.getD i 0 ≤ 16 := by
  by_cases hi : i < cs.length
  · exact h i _ (getD_get hi)
  · rw [List.getD_eq_getElem?_getD, List.getElem?_eq_none (by omega)]
    show (0 : Int) ≤ 0 ∧ (0 : Int) ≤ 16
    omega

/-- The first one of the first i models that is the most behind at the place k, or -1 if none is left. -/
def nextIn (cs b : List Int) (n k : Int) : Nat → Int
  | 0 => -1
  | i + 1 => if b.getD i 0 < cs.getD i 0 ∧ (nextIn cs b n k i < 0 ∨ byAt cs b n k (nextIn cs b n k i).toNat < byAt cs b n k i) then i else nextIn cs b n k i
theorem nextIn_range (cs b : List Int) (n k : Int) : ∀ i, -1 ≤ nextIn cs b n k i ∧ nextIn cs b n k i < i
  | 0 => by unfold nextIn; omega
  | i + 1 => by
    have ih := nextIn_range cs b n k i
    unfold nextIn
    split <;> omega
theorem nextIn_room (cs b : List Int) (n k : Int) : ∀ i, 0 ≤ nextIn cs b n k i → b.getD (nextIn cs b n k i).toNat 0 < cs.getD (nextIn cs b n k i).toNat 0
  | 0, h => by unfold nextIn at h; omega
  | i + 1, h => by
    have ih := nextIn_room cs b n k i
    unfold nextIn at h ⊢
    split
    · rename_i hc; rw [Int.toNat_natCast]; exact hc.1
    · rename_i hc
      rw [if_neg hc] at h
      exact ih h
theorem nextIn_some {cs b : List Int} {n k : Int} {j : Nat} (hj : b.getD j 0 < cs.getD j 0) : ∀ i, j < i → 0 ≤ nextIn cs b n k i
  | 0, h => by omega
  | i + 1, h => by
    have hr := nextIn_range cs b n k i
    by_cases e : j = i
    · subst e
      unfold nextIn
      split
      · omega
      · rename_i hc
        by_cases h0 : nextIn cs b n k j < 0
        · exact absurd ⟨hj, .inl h0⟩ hc
        · omega
    · have ih := nextIn_some (n := n) (k := k) hj i (by omega)
      unfold nextIn
      split <;> omega
/-- The first k models of an even order of n. -/
def evenTo (cs : List Int) (n : Int) : Nat → List Int
  | 0 => []
  | k + 1 => evenTo cs n k ++ [nextIn cs (mixB cs.length (evenTo cs n k) k) n ((k + 1 : Nat) : Int) cs.length]
theorem evenTo_length (cs : List Int) (n : Int) : ∀ k, (evenTo cs n k).length = k
  | 0 => rfl
  | k + 1 => by unfold evenTo; rw [List.length_append, evenTo_length cs n k]; rfl
theorem mixB_app {m k : Nat} {o : List Int} (ho : o.length = k) (x : Int) : mixB m (o ++ [x]) k = mixB m o k := by
  unfold mixB
  rw [← ho, List.take_left, List.take_length]
/-- How many there are of each model after k places of an even order. -/
def evenB (cs : List Int) (n : Int) (k : Nat) : List Int := mixB cs.length (evenTo cs n k) k
def EvenInv (cs : List Int) (n : Int) (k : Nat) : Prop := inModels cs.length (evenTo cs n k) k ∧ ∀ i, 0 ≤ (evenB cs n k).getD i 0 ∧ (evenB cs n k).getD i 0 ≤ cs.getD i 0
theorem even_round {cs : List Int} {n : Nat} (hs : sumTo cs cs.length = (n : Int)) {k : Nat} (hk : k < n) (hI : EvenInv cs n k) :
    ∃ j : Nat, nextIn cs (evenB cs n k) n ((k + 1 : Nat) : Int) cs.length = (j : Int) ∧ j < cs.length ∧ (evenB cs n k).getD j 0 < cs.getD j 0 ∧ evenTo cs n (k + 1) = evenTo cs n k ++ [(j : Int)] ∧ evenB cs n (k + 1) = (evenB cs n k).set j ((evenB cs n k).getD j 0 + 1) ∧ EvenInv cs n (k + 1) := by
  obtain ⟨h1, h2⟩ := hI
  have hl := evenTo_length cs n k
  have hsum := mixB_sum (m := cs.length) (o := evenTo cs n k) (k := k) (by omega) h1
  have hex : ∃ j, j < cs.length ∧ (evenB cs n k).getD j 0 < cs.getD j 0 := by
    apply Classical.byContradiction
    intro hno
    have : sumTo cs cs.length ≤ sumTo (evenB cs n k) cs.length := sumTo_le _ fun i hi => by
      have := h2 i
      have : ¬ (evenB cs n k).getD i 0 < cs.getD i 0 := fun hc => hno ⟨i, hi, hc⟩
      omega
    unfold evenB at this
    omega
  obtain ⟨j0, hj0, hlt0⟩ := hex
  have h0 := nextIn_some (n := (n : Int)) (k := ((k + 1 : Nat) : Int)) hlt0 cs.length hj0
  have hr := nextIn_range cs (evenB cs n k) n ((k + 1 : Nat) : Int) cs.length
  have hrm := nextIn_room cs (evenB cs n k) n ((k + 1 : Nat) : Int) cs.length h0
  have hE : evenTo cs n (k + 1) = evenTo cs n k ++ [nextIn cs (evenB cs n k) n ((k + 1 : Nat) : Int) cs.length] := rfl
  generalize nextIn cs (evenB cs n k) n ((k + 1 : Nat) : Int) cs.length = z at *
  obtain ⟨j, rfl⟩ := Int.eq_ofNat_of_zero_le h0
  rw [Int.toNat_natCast] at hrm
  have hget : (evenTo cs n (k + 1))[k]? = some (j : Int) := by rw [hE, List.getElem?_append_right (by omega), hl, Nat.sub_self]; rfl
  have hB : evenB cs n (k + 1) = (evenB cs n k).set j ((evenB cs n k).getD j 0 + 1) := by
    unfold evenB
    rw [mixB_step hget, Int.toNat_natCast, hE, mixB_app hl]
  refine ⟨j, rfl, by omega, hrm, hE, hB, ?_, ?_⟩
  · intro i x hi hx
    by_cases e : i = k
    · subst e
      rw [hget] at hx
      obtain rfl := Option.some.inj hx
      omega
    · rw [hE, List.getElem?_append_left (by omega)] at hx
      exact h1 i x (by omega) hx
  · intro i
    rw [hB, getD_set _ (by unfold evenB; rw [mixB_length]; omega)]
    have a := h2 i
    have b := h2 j
    split
    · rename_i e; subst e; omega
    · exact a
theorem even_zero {cs : List Int} (h : ∀ (i : Nat) (x : Int), cs[i]? = some x → 0 ≤ x ∧ x ≤ 16) (n : Int) : EvenInv cs n 0 :=
  ⟨fun i x hi _ => by omega, fun i => by
    have := counts_at h i
    unfold evenB
    rw [mixB_zero]
    omega⟩
theorem even_all {cs : List Int} {n : Nat} (hs : sumTo cs cs.length = (n : Int)) (h : ∀ (i : Nat) (x : Int), cs[i]? = some x → 0 ≤ x ∧ x ≤ 16) : ∀ k, k ≤ n → EvenInv cs n k
  | 0, _ => even_zero h n
  | k + 1, hk => by
    obtain ⟨_, _, _, _, _, _, h7⟩ := even_round hs (show k < n by omega) (even_all hs h k (by omega))
    exact h7
def evenRes (cs : List Int) : List Int := if okCounts cs then evenTo cs (sumTo cs cs.length) (sumTo cs cs.length).toNat else []
theorem evenRes_length (cs : List Int) : (evenRes cs).length ≤ 1048576 := by
  unfold evenRes
  split
  · rename_i h
    obtain ⟨n, _, _, hs, _, hn, _⟩ := okCounts_of h
    rw [evenTo_length, hs]; omega
  · simp

/-- Orders that have each model as often as it is counted. -/
def canMix (cs o : List Int) : Bool := okCounts cs && decide ((o.length : Int) = sumTo cs cs.length) && allIn o 0 ((cs.length : Int) - 1) && decide (mixB cs.length o o.length = cs)
def mixRes (cs o : List Int) : Int := if canMix cs o then mixGap cs o o.length o.length else 0
theorem inModels_all {m : Nat} {o : List Int} (h : allIn o 0 ((m : Int) - 1) = true) : inModels m o o.length := fun i x _ hx => by
  have := allIn_of h hx
  omega
theorem inModels_step {m k : Nat} {o : List Int} (h : inModels m o k) {x : Int} (hx : o[k]? = some x) (hin : inB x 0 ((m : Int) - 1) = true) : inModels m o (k + 1) := fun i y hi hy => by
  by_cases e : i = k
  · subst e
    rw [hx] at hy
    obtain rfl := Option.some.inj hy
    have := inB_true hin
    omega
  · exact h i y (by omega) hy
theorem canMix_out {cs o : List Int} {i : Nat} {x : Int} (hx : o[i]? = some x) (h : inB x 0 ((cs.length : Int) - 1) = false) : canMix cs o = false := by
  unfold canMix
  rw [show allIn o 0 ((cs.length : Int) - 1) = false from all_not hx h]
  simp
theorem canMix_ne {cs o : List Int} (h : mixB cs.length o o.length ≠ cs) : canMix cs o = false := by
  unfold canMix
  rw [decide_eq_false h]
  simp
theorem canMix_no {cs o : List Int} {k j : Nat} (hk : k < o.length) (e : o[k]? = some (j : Int)) (heq : (mixB cs.length o k).getD j 0 = cs.getD j 0) : canMix cs o = false := by
  rcases (show allIn o 0 ((cs.length : Int) - 1) = false ∨ allIn o 0 ((cs.length : Int) - 1) = true by cases allIn o 0 ((cs.length : Int) - 1) <;> simp) with h | h
  · unfold canMix; rw [h]; simp
  · have h2 := inModels_all h
    have h3 := h2 k _ hk e
    exact canMix_ne (mix_too hk h2 e (by omega) heq)
theorem allIn_models {m : Nat} {o : List Int} (h : inModels m o o.length) : allIn o 0 ((m : Int) - 1) = true :=
  all_upto fun i x hi hx => by
    have := h i x hi hx
    simp [inB]; omega
theorem canMix_yes {cs o : List Int} (hc : okCounts cs = true) (hl : (o.length : Int) = sumTo cs cs.length) (hin : inModels cs.length o o.length) (hno : mixNone cs o o.length) : canMix cs o = true := by
  obtain ⟨n, _, _, _, _, _, h6⟩ := okCounts_of hc
  unfold canMix
  rw [hc, decide_eq_true hl, allIn_models hin, decide_eq_true (mix_all (fun i => (counts_at h6 i).1) hl hin hno)]; rfl
theorem canMix_yes2 {cs o : List Int} (hc : okCounts cs = true) (hl : (o.length : Int) = sumTo cs cs.length) (hin : inModels cs.length o o.length) (he : mixB cs.length o o.length = cs) : canMix cs o = true := by
  unfold canMix
  rw [hc, decide_eq_true hl, allIn_models hin, decide_eq_true he]; rfl
theorem mixGap_bound {cs o : List Int} {n : Nat} (hn : n ≤ 64) (hc : ∀ (i : Nat) (x : Int), cs[i]? = some x → 0 ≤ x ∧ x ≤ 16) : ∀ k, k ≤ o.length → k ≤ 64 → inModels cs.length o k → 0 ≤ mixGap cs o n k ∧ mixGap cs o n k ≤ 4096
  | 0, _, _, _ => by unfold mixGap; omega
  | k + 1, h1, h2, h3 => by
    have ih := mixGap_bound (n := n) hn hc k (by omega) (by omega) (fun i x hi hx => h3 i x (by omega) hx)
    unfold mixGap
    exact gapIn_bound ih (fun i _ => by
      have hb := mixB_small h1 h3 i
      exact (byAt_bound (by omega) (by omega) (counts_at hc i) (by omega)).2.2) _ (Nat.le_refl _)
end Go.Proofs.Ytpolhjkjgbfdhaa
