/- The most talks at once: pure facts. -/
import Derived.Test.YtehobcmjjcmfnaaSortPure
namespace Go.Proofs.Ytehobcmjjcmfnaa.Most

/-- How many of the first k talks there are at a time. -/
def cntTo (xs : List Int) (t : Int) : Nat → Nat
  | 0 => 0
  | k + 1 => cntTo xs t k + (if decide (xs.getD (2 * k) 0 ≤ t) && decide (t < xs.getD (2 * k + 1) 0) then 1 else 0)
theorem cntTo_le (xs : List Int) (t : Int) : ∀ k, cntTo xs t k ≤ k
  | 0 => Nat.le_refl _
  | k + 1 => by
    have := cntTo_le xs t k
    unfold cntTo
    split <;> omega
theorem cntTo_pos (xs : List Int) (t : Int) (i : Nat) (h1 : xs.getD (2 * i) 0 ≤ t) (h2 : t < xs.getD (2 * i + 1) 0) : ∀ k, i < k → 0 < cntTo xs t k
  | 0, h => by omega
  | k + 1, h => by
    unfold cntTo
    by_cases e : i = k
    · subst e
      rw [decide_eq_true h1, decide_eq_true h2]
      simp
    · have := cntTo_pos xs t i h1 h2 k (by omega)
      omega
/-- The best of some talks: the count, and the earliest time with it. -/
structure Best (b : Nat → Int) (C : Nat → Nat) (S : Nat → Prop) (M : Nat) (T : Int) : Prop where
  ex : ∃ i, S i ∧ C i = M ∧ b i = T
  all : ∀ i, S i → C i ≤ M ∧ (C i = M → T ≤ b i)
theorem Best.one {b : Nat → Int} {C : Nat → Nat} {S : Nat → Prop} {M M' : Nat} {T T' : Int} (h : Best b C S M T) (k : Best b C S M' T') : M = M' ∧ T = T' := by
  obtain ⟨⟨i, s, c, t⟩, a⟩ := h
  obtain ⟨⟨j, s', c', t'⟩, a'⟩ := k
  have h1 := a j s'
  have h2 := a' i s
  have e : M = M' := by omega
  subst e
  have h3 := h1.2 c'
  have h4 := h2.2 c
  exact ⟨rfl, by omega⟩
theorem Best.congr {b : Nat → Int} {C : Nat → Nat} {S R : Nat → Prop} {M : Nat} {T : Int} (h : Best b C S M T) (e : ∀ i, S i ↔ R i) : Best b C R M T := by
  obtain ⟨⟨i, s, c, t⟩, a⟩ := h
  exact ⟨⟨i, (e i).1 s, c, t⟩, fun j hj => a j ((e j).2 hj)⟩
/-- What a loop has found of the talks that it has seen; nothing yet where it has seen none. -/
def Found (b : Nat → Int) (C : Nat → Nat) (S : Nat → Prop) (k : Nat) (M : Nat) (T : Int) : Prop := (k = 0 ∧ M = 0 ∧ T = 0) ∨ (0 < k ∧ Best b C S M T)
/-- One talk more, in whatever order. -/
theorem found_any {b : Nat → Int} {C : Nat → Nat} {S : Nat → Prop} {k M i : Nat} {T : Int} (h : Found b C S k M T) (hp : 0 < C i) (h0 : k = 0 → ∀ j, ¬ S j) :
    Found b C (fun j => S j ∨ j = i) (k + 1) (if M < C i ∨ (C i = M ∧ b i < T) then C i else M) (if M < C i ∨ (C i = M ∧ b i < T) then b i else T) := by
  refine .inr ⟨Nat.succ_pos _, ?_⟩
  rcases h with ⟨hk, rfl, rfl⟩ | ⟨hk, ⟨m, s, c, t⟩, a⟩
  · rw [if_pos (.inl hp), if_pos (.inl hp)]
    refine ⟨⟨i, .inr rfl, rfl, rfl⟩, fun j hj => ?_⟩
    rcases hj with hj | rfl
    · exact absurd hj (h0 hk j)
    · exact ⟨Nat.le_refl _, fun _ => Int.le_refl _⟩
  · by_cases e : M < C i ∨ (C i = M ∧ b i < T)
    · rw [if_pos e, if_pos e]
      refine ⟨⟨i, .inr rfl, rfl, rfl⟩, fun j hj => ?_⟩
      rcases hj with hj | rfl
      · have := a j hj
        refine ⟨by omega, fun q => ?_⟩
        have h2 : C j = M := by omega
        have := this.2 h2
        omega
      · exact ⟨Nat.le_refl _, fun _ => Int.le_refl _⟩
    · rw [if_neg e, if_neg e]
      refine ⟨⟨m, .inl s, c, t⟩, fun j hj => ?_⟩
      rcases hj with hj | rfl
      · exact a j hj
      · exact ⟨by omega, fun q => by omega⟩
/-- One talk more that begins no earlier than those ahead of it. -/
theorem found_next {b : Nat → Int} {C : Nat → Nat} {S : Nat → Prop} {k M i : Nat} {T : Int} (h : Found b C S k M T) (hp : 0 < C i) (h0 : k = 0 → ∀ j, ¬ S j) (hle : ∀ j, S j → b j ≤ b i) :
    Found b C (fun j => S j ∨ j = i) (k + 1) (if M < C i then C i else M) (if M < C i then b i else T) := by
  have hf := found_any h hp h0
  have e : (M < C i ∨ (C i = M ∧ b i < T)) ↔ M < C i := by
    refine ⟨fun q => ?_, .inl⟩
    rcases q with q | ⟨q1, q2⟩
    · exact q
    · rcases h with ⟨hk, rfl, rfl⟩ | ⟨hk, ⟨m, s, c, t⟩, a⟩
      · omega
      · have := hle m s
        omega
  by_cases q : M < C i
  · rw [if_pos q, if_pos q]
    rw [if_pos (e.2 q), if_pos (e.2 q)] at hf
    exact hf
  · rw [if_neg q, if_neg q]
    rw [if_neg (fun x => q (e.1 x)), if_neg (fun x => q (e.1 x))] at hf
    exact hf
/-- What the model finds. -/
def foundTo (xs : List Int) (n : Nat) : Nat → Nat × Int
  | 0 => (0, 0)
  | i + 1 =>
    let r := foundTo xs n i
    let t := xs.getD (2 * i) 0
    let c := cntTo xs t n
    if r.1 < c ∨ (c = r.1 ∧ t < r.2) then (c, t) else r
theorem foundTo_is (xs : List Int) (n : Nat) (hp : ∀ i, i < n → xs.getD (2 * i) 0 < xs.getD (2 * i + 1) 0) : ∀ k, k ≤ n → Found (fun i => xs.getD (2 * i) 0) (fun i => cntTo xs (xs.getD (2 * i) 0) n) (fun j => j < k) k (foundTo xs n k).1 (foundTo xs n k).2
  | 0, _ => .inl ⟨rfl, rfl, rfl⟩
  | k + 1, h => by
    have ih := foundTo_is xs n hp k (by omega)
    have f := found_any (i := k) ih (cntTo_pos xs _ k (Int.le_refl _) (hp k (by omega)) n (by omega)) (fun e j hj => by omega)
    have hS : ∀ j, (j < k ∨ j = k) ↔ j < k + 1 := fun j => by omega
    rcases f with ⟨e, _⟩ | ⟨e, f⟩
    · omega
    · refine .inr ⟨e, ?_⟩
      have g := f.congr hS
      unfold foundTo
      simp only
      split
      · rename_i c
        rw [if_pos c, if_pos c] at g; exact g
      · rename_i c
        rw [if_neg c, if_neg c] at g; exact g
end Go.Proofs.Ytehobcmjjcmfnaa.Most
