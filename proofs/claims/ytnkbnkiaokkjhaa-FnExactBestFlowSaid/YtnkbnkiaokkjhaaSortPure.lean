/- Stable sorting told place by place: what swaps, turns, insertions and merges do to a row; pure facts. -/
import Derived.WalkKit
namespace Go.Proofs.Ytnkbnkiaokkjhaa.Srt

/-- The row f with v at the place k. -/
def upd (f : Nat → Int) (k : Nat) (v : Int) : Nat → Int := fun i => if i = k then v else f i
def swap (f : Nat → Int) (i j : Nat) : Nat → Int := fun k => if k = j then f i else if k = i then f j else f k
theorem swap_upd (f : Nat → Int) (i j : Nat) : upd (upd f i (f j)) j (f i) = swap f i j := by
  funext k
  unfold upd swap
  by_cases h1 : k = j
  · simp [h1]
  · simp [h1]
/-- g is f, put otherwise between a and b alone. -/
structure Re (a b : Nat) (f g : Nat → Int) : Prop where
  out : ∀ k, k < a ∨ b ≤ k → g k = f k
  from' : ∀ k, a ≤ k → k < b → ∃ l, a ≤ l ∧ l < b ∧ g k = f l
  all : ∀ l, a ≤ l → l < b → ∃ k, a ≤ k ∧ k < b ∧ g k = f l
theorem Re.refl (a b : Nat) (f : Nat → Int) : Re a b f f := ⟨fun _ _ => rfl, fun k h1 h2 => ⟨k, h1, h2, rfl⟩, fun k h1 h2 => ⟨k, h1, h2, rfl⟩⟩
theorem Re.trans {a b : Nat} {f g h : Nat → Int} (p : Re a b f g) (q : Re a b g h) : Re a b f h := by
  refine ⟨fun k hk => (q.out k hk).trans (p.out k hk), fun k h1 h2 => ?_, fun l h1 h2 => ?_⟩
  · obtain ⟨l, l1, l2, e⟩ := q.from' k h1 h2
    obtain ⟨m, m1, m2, e2⟩ := p.from' l l1 l2
    exact ⟨m, m1, m2, e.trans e2⟩
  · obtain ⟨k, k1, k2, e⟩ := p.all l h1 h2
    obtain ⟨m, m1, m2, e2⟩ := q.all k k1 k2
    exact ⟨m, m1, m2, e2.trans e⟩
theorem Re.wide {a b c d : Nat} {f g : Nat → Int} (p : Re a b f g) (h1 : c ≤ a) (h2 : b ≤ d) : Re c d f g := by
  refine ⟨fun k hk => p.out k (by omega), fun k k1 k2 => ?_, fun k k1 k2 => ?_⟩
  · by_cases h : a ≤ k ∧ k < b
    · obtain ⟨l, l1, l2, e⟩ := p.from' k h.1 h.2
      exact ⟨l, by omega, by omega, e⟩
    · exact ⟨k, k1, k2, p.out k (by omega)⟩
  · by_cases h : a ≤ k ∧ k < b
    · obtain ⟨l, l1, l2, e⟩ := p.all k h.1 h.2
      exact ⟨l, by omega, by omega, e⟩
    · exact ⟨k, k1, k2, p.out k (by omega)⟩
theorem Re.swap {a b i j : Nat} (f : Nat → Int) (hi : a ≤ i ∧ i < b) (hj : a ≤ j ∧ j < b) : Re a b f (swap f i j) := by
  refine ⟨fun k hk => ?_, fun k h1 h2 => ?_, fun k h1 h2 => ?_⟩
  · unfold Srt.swap
    rw [if_neg (by omega), if_neg (by omega)]
  · unfold Srt.swap
    by_cases e : k = j
    · exact ⟨i, hi.1, hi.2, by rw [if_pos e]⟩
    · by_cases e2 : k = i
      · exact ⟨j, hj.1, hj.2, by rw [if_neg e, if_pos e2]⟩
      · exact ⟨k, h1, h2, by rw [if_neg e, if_neg e2]⟩
  · unfold Srt.swap
    by_cases e : k = j
    · by_cases e3 : i = j
      · exact ⟨i, hi.1, hi.2, by rw [if_pos e3, e, e3]⟩
      · exact ⟨i, hi.1, hi.2, by rw [if_neg e3, if_pos rfl, e]⟩
    · by_cases e2 : k = i
      · exact ⟨j, hj.1, hj.2, by rw [if_pos rfl, e2]⟩
      · exact ⟨k, h1, h2, by rw [if_neg e, if_neg e2]⟩
/-- Ranges of the same length put for one another. -/
def swr (f : Nat → Int) (a b n : Nat) : Nat → Int := fun k => if a ≤ k ∧ k < a + n then f (k + (b - a)) else if b ≤ k ∧ k < b + n then f (k - (b - a)) else f k
theorem swr_zero (f : Nat → Int) (a b : Nat) : swr f a b 0 = f := by
  funext k
  unfold swr
  rw [if_neg (by omega), if_neg (by omega)]
theorem swr_step (f : Nat → Int) (a b n : Nat) (h : a + n < b) : swap (swr f a b n) (a + n) (b + n) = swr f a b (n + 1) := by
  funext k
  unfold swap
  have e1 : swr f a b n (a + n) = f (a + n) := by unfold swr; rw [if_neg (by omega), if_neg (by omega)]
  have e2 : swr f a b n (b + n) = f (b + n) := by unfold swr; rw [if_neg (by omega), if_neg (by omega)]
  rw [e1, e2]
  by_cases h1 : k = b + n
  · rw [if_pos h1]
    unfold swr
    rw [if_neg (by omega), if_pos (by omega)]
    congr 1; omega
  · rw [if_neg h1]
    by_cases h2 : k = a + n
    · rw [if_pos h2]
      unfold swr
      rw [if_pos (by omega)]
      congr 1; omega
    · rw [if_neg h2]
      have v : ∀ m k, swr f a b m k = if a ≤ k ∧ k < a + m then f (k + (b - a)) else if b ≤ k ∧ k < b + m then f (k - (b - a)) else f k := fun _ _ => rfl
      rw [v, v]
      by_cases h3 : a ≤ k ∧ k < a + n
      · rw [if_pos h3, if_pos (by omega)]
      · rw [if_neg h3]
        by_cases h4 : b ≤ k ∧ k < b + n
        · rw [if_pos h4, if_neg (by omega), if_pos (by omega)]
        · rw [if_neg h4, if_neg (by omega), if_neg (by omega)]
/-- The ranges from a to m and from m to b put for one another. -/
def rot (f : Nat → Int) (a m b : Nat) : Nat → Int := fun k => if a ≤ k ∧ k < a + (b - m) then f (k + (m - a)) else if a + (b - m) ≤ k ∧ k < b then f (k - (b - m)) else f k
theorem rot_end (f : Nat → Int) (i m : Nat) (h : i ≤ m) : rot f (m - i) m (m + i) = swr f (m - i) m i := by
  funext k
  unfold rot swr
  rw [show m - i + (m + i - m) = m by omega, show m - i + i = m by omega, show m + i - m = i by omega, show m - (m - i) = i by omega]
theorem rot_left (f : Nat → Int) (i j m : Nat) (h : i ≤ m) (hij : j < i) (hj : 0 < j) : rot f (m - i) m (m + j) = rot (swr f (m - i) m j) (m - (i - j)) m (m + j) := by
  funext k
  unfold rot
  rw [show m + j - m = j by omega]
  by_cases h1 : m - i ≤ k ∧ k < m - i + j
  · rw [if_pos h1, if_neg (by omega), if_neg (by omega)]
    unfold swr
    rw [if_pos (by omega)]
  · rw [if_neg h1]
    by_cases h2 : m - i + j ≤ k ∧ k < m + j
    · rw [if_pos h2]
      by_cases h3 : m - (i - j) ≤ k ∧ k < m - (i - j) + j
      · rw [if_pos h3]
        unfold swr
        rw [if_neg (by omega), if_pos (by omega)]
        congr 1; omega
      · rw [if_neg h3, if_pos (by omega)]
        unfold swr
        rw [if_neg (by omega), if_neg (by omega)]
    · rw [if_neg h2, if_neg (by omega), if_neg (by omega)]
      unfold swr
      rw [if_neg (by omega), if_neg (by omega)]
theorem rot_right (f : Nat → Int) (i j m : Nat) (h : i ≤ m) (hij : i < j) (hi : 0 < i) : rot f (m - i) m (m + j) = rot (swr f (m - i) (m + j - i) i) (m - i) m (m + (j - i)) := by
  funext k
  unfold rot
  rw [show m + j - m = j by omega, show m + (j - i) - m = j - i by omega]
  by_cases h1 : m - i ≤ k ∧ k < m - i + j
  · rw [if_pos h1]
    by_cases h2 : m - i ≤ k ∧ k < m - i + (j - i)
    · rw [if_pos h2]
      unfold swr
      rw [if_neg (by omega), if_neg (by omega)]
    · rw [if_neg h2]
      by_cases h3 : k < m + (j - i)
      · rw [if_pos (by omega)]
        unfold swr
        rw [if_pos (by omega)]
        congr 1; omega
      · omega
  · rw [if_neg h1]
    by_cases h2 : m - i + j ≤ k ∧ k < m + j
    · rw [if_pos h2, if_neg (by omega), if_neg (by omega)]
      unfold swr
      rw [if_neg (by omega), if_pos (by omega)]
      congr 1; omega
    · rw [if_neg h2, if_neg (by omega), if_neg (by omega)]
      unfold swr
      rw [if_neg (by omega), if_neg (by omega)]
theorem Re.rot {a m b : Nat} (f : Nat → Int) (h1 : a ≤ m) (h2 : m ≤ b) : Re a b f (rot f a m b) := by
  refine ⟨fun k hk => ?_, fun k k1 k2 => ?_, fun l l1 l2 => ?_⟩
  · unfold Srt.rot
    rw [if_neg (by omega), if_neg (by omega)]
  · unfold Srt.rot
    by_cases h : k < a + (b - m)
    · exact ⟨k + (m - a), by omega, by omega, by rw [if_pos ⟨k1, h⟩]⟩
    · exact ⟨k - (b - m), by omega, by omega, by rw [if_neg (by omega), if_pos (by omega)]⟩
  · unfold Srt.rot
    by_cases h : l < m
    · exact ⟨l + (b - m), by omega, by omega, by rw [if_neg (by omega), if_pos (by omega)]; congr 1; omega⟩
    · exact ⟨l - (m - a), by omega, by omega, by rw [if_pos (by omega)]; congr 1; omega⟩
theorem rot_none_left (f : Nat → Int) (m b : Nat) : rot f m m b = f := by
  funext k
  unfold rot
  by_cases h : m ≤ k ∧ k < m + (b - m)
  · rw [if_pos h]; congr 1; omega
  · rw [if_neg h, if_neg (by omega)]
theorem rot_none_right (f : Nat → Int) (a m : Nat) (h : a ≤ m) : rot f a m m = f := by
  funext k
  unfold rot
  rw [if_neg (by omega)]
  split
  · congr 1; omega
  · rfl

/-- A strict order of all numbers from 0 to n - 1. -/
structure Tot (n : Nat) (lt : Int → Int → Bool) : Prop where
  irr : ∀ x, lt x x = false
  tr : ∀ x y z, lt x y = true → lt y z = true → lt x z = true
  tot : ∀ x y, lt x y = false → lt y x = false → x = y
theorem Tot.asym {n : Nat} {lt : Int → Int → Bool} (h : Tot n lt) {x y : Int} (hxy : lt x y = true) : lt y x = false := by
  cases e : lt y x
  · rfl
  · have := h.tr x y x hxy e
    rw [h.irr] at this; cases this
theorem Tot.of_not {n : Nat} {lt : Int → Int → Bool} (h : Tot n lt) {x y : Int} (hxy : lt y x = false) (hne : x ≠ y) : lt x y = true := by
  cases e : lt x y
  · exact absurd (h.tot x y e hxy) hne
  · rfl
def Sorted (lt : Int → Int → Bool) (a b : Nat) (f : Nat → Int) : Prop := ∀ i j, a ≤ i → i < j → j < b → lt (f i) (f j) = true
/-- Each of the numbers from 0 to n - 1 at one place. -/
structure Arr (n : Nat) (f : Nat → Int) : Prop where
  low : ∀ k, k < n → 0 ≤ f k ∧ f k < n
  all : ∀ v : Nat, v < n → ∃ k, k < n ∧ f k = v
theorem Arr.re {n a b : Nat} {f g : Nat → Int} (h : Arr n f) (r : Re a b f g) (hb : b ≤ n) : Arr n g := by
  refine ⟨fun k hk => ?_, fun v hv => ?_⟩
  · by_cases h1 : a ≤ k ∧ k < b
    · obtain ⟨l, _, l2, e⟩ := r.from' k h1.1 h1.2
      rw [e]; exact h.low l (by omega)
    · rw [r.out k (by omega)]; exact h.low k hk
  · obtain ⟨k, hk, e⟩ := h.all v hv
    by_cases h1 : a ≤ k ∧ k < b
    · obtain ⟨l, _, l2, e2⟩ := r.all k h1.1 h1.2
      exact ⟨l, by omega, e2.trans e⟩
    · exact ⟨k, hk, (r.out k (by omega)).trans e⟩
theorem Sorted.inj {lt : Int → Int → Bool} {n : Nat} (hT : Tot n lt) {a b : Nat} {f : Nat → Int} (h : Sorted lt a b f) {i j : Nat} (hi : a ≤ i ∧ i < b) (hj : a ≤ j ∧ j < b) (e : f i = f j) : i = j := by
  rcases Nat.lt_trichotomy i j with c | c | c
  · have := h i j hi.1 c hj.2
    rw [e, hT.irr] at this; cases this
  · exact c
  · have := h j i hj.1 c hi.2
    rw [e, hT.irr] at this; cases this
/-- Sorted rows of the same numbers are alike. -/
theorem sorted_one {lt : Int → Int → Bool} {n : Nat} (hT : Tot n lt) {f g : Nat → Int} (hf : Sorted lt 0 n f) (hg : Sorted lt 0 n g) (af : Arr n f) (ag : Arr n g) : ∀ k, k < n → f k = g k := by
  have key : ∀ {f g : Nat → Int}, Sorted lt 0 n f → Sorted lt 0 n g → Arr n f → Arr n g → ∀ k, k < n → (∀ j, j < k → f j = g j) → lt (f k) (g k) = false := by
    intro f g hf hg af ag k hk ih
    cases e : lt (f k) (g k)
    · rfl
    · exfalso
      obtain ⟨b1, b2⟩ := af.low k hk
      obtain ⟨l, hl, e2⟩ := ag.all (f k).toNat (by omega)
      rw [Int.toNat_of_nonneg b1] at e2
      rcases Nat.lt_trichotomy l k with c | c | c
      · have := ih l c
        have := hf.inj hT ⟨Nat.zero_le _, by omega⟩ ⟨Nat.zero_le _, hk⟩ (this.trans e2)
        omega
      · subst c
        rw [e2, hT.irr] at e; cases e
      · have := hg k l (Nat.zero_le _) c hl
        rw [e2] at this
        rw [hT.asym this] at e; cases e
  intro k
  induction k using Nat.strongRecOn with
  | ind k ih =>
    intro hk
    exact hT.tot _ _ (key hf hg af ag k hk fun j hj => ih j hj (by omega)) (key hg hf ag af k hk fun j hj => (ih j hj (by omega)).symm)

/-- Two sorted halves; each number of the first one is less than each of the second one. -/
structure Halves (lt : Int → Int → Bool) (a m b : Nat) (f : Nat → Int) : Prop where
  left : Sorted lt a m f
  right : Sorted lt m b f
  apart : ∀ i j, a ≤ i → i < m → m ≤ j → j < b → f i < f j
/-- What a merge makes. -/
def Merged (lt : Int → Int → Bool) (a b : Nat) (f g : Nat → Int) : Prop := Re a b f g ∧ Sorted lt a b g
/-- The place s parts the halves. -/
structure Parts (lt : Int → Int → Bool) (a m b s e : Nat) (f : Nat → Int) : Prop where
  s1 : a ≤ s
  s2 : s ≤ m
  e1 : m ≤ e
  e2 : e ≤ b
  low : a < s → e < b → lt (f (s - 1)) (f e) = true
  high : s < m → m < e → lt (f (e - 1)) (f s) = true
theorem Parts.cross {lt : Int → Int → Bool} {n a m b s e : Nat} {f : Nat → Int} (hT : Tot n lt) (h : Halves lt a m b f) (p : Parts lt a m b s e f) :
    (∀ i j, a ≤ i → i < s → e ≤ j → j < b → lt (f i) (f j) = true) ∧ (∀ i j, m ≤ i → i < e → s ≤ j → j < m → lt (f i) (f j) = true) := by
  obtain ⟨s1, s2, e1, e2, low, high⟩ := p
  refine ⟨fun i j i1 i2 j1 j2 => ?_, fun i j i1 i2 j1 j2 => ?_⟩
  · have c := low (by omega) (by omega)
    have c1 : lt (f i) (f e) = true := by
      by_cases h1 : i = s - 1
      · rw [h1]; exact c
      · exact hT.tr _ _ _ (h.left i (s - 1) i1 (by omega) (by omega)) c
    by_cases h2 : j = e
    · rw [h2]; exact c1
    · exact hT.tr _ _ _ c1 (h.right e j e1 (by omega) j2)
  · have c := high (by omega) (by omega)
    have c1 : lt (f i) (f s) = true := by
      by_cases h1 : i = e - 1
      · rw [h1]; exact c
      · exact hT.tr _ _ _ (h.right i (e - 1) i1 (by omega) (by omega)) c
    by_cases h2 : j = s
    · rw [h2]; exact c1
    · exact hT.tr _ _ _ c1 (h.left s j s1 (by omega) j2)
/-- What the turned row is, and its two parts; d is the middle. -/
theorem rot_parts {lt : Int → Int → Bool} {n a m b s e d : Nat} {f : Nat → Int} (hT : Tot n lt) (h : Halves lt a m b f) (p : Parts lt a m b s e f) (hd : d = s + (e - m)) :
    Halves lt a s d (rot f s m e) ∧ Halves lt d e b (rot f s m e) ∧ (∀ i j, a ≤ i → i < d → d ≤ j → j < b → lt (rot f s m e i) (rot f s m e j) = true) := by
  obtain ⟨x1, x2⟩ := p.cross hT h
  obtain ⟨s1, s2, e1, e2, _, _⟩ := p
  have v1 : ∀ k, k < s → rot f s m e k = f k := fun k hk => by unfold rot; rw [if_neg (by omega), if_neg (by omega)]
  have v2 : ∀ k, s ≤ k → k < d → rot f s m e k = f (k + (m - s)) := fun k k1 k2 => by unfold rot; rw [if_pos (by omega)]
  have v3 : ∀ k, d ≤ k → k < e → rot f s m e k = f (k - (e - m)) := fun k k1 k2 => by unfold rot; rw [if_neg (by omega), if_pos (by omega)]
  have v4 : ∀ k, e ≤ k → rot f s m e k = f k := fun k hk => by unfold rot; rw [if_neg (by omega), if_neg (by omega)]
  refine ⟨⟨fun i j i1 i2 i3 => ?_, fun i j i1 i2 i3 => ?_, fun i j i1 i2 i3 i4 => ?_⟩, ⟨fun i j i1 i2 i3 => ?_, fun i j i1 i2 i3 => ?_, fun i j i1 i2 i3 i4 => ?_⟩, fun i j i1 i2 i3 i4 => ?_⟩
  · rw [v1 i (by omega), v1 j (by omega)]; exact h.left i j i1 i2 (by omega)
  · rw [v2 i (by omega) (by omega), v2 j (by omega) i3]; exact h.right _ _ (by omega) (by omega) (by omega)
  · rw [v1 i i2, v2 j i3 i4]; exact h.apart _ _ i1 (by omega) (by omega) (by omega)
  · rw [v3 i i1 (by omega), v3 j (by omega) i3]; exact h.left _ _ (by omega) (by omega) (by omega)
  · rw [v4 i (by omega), v4 j (by omega)]; exact h.right i j (by omega) i2 i3
  · rw [v3 i i1 i2, v4 j i3]; exact h.apart _ _ (by omega) (by omega) (by omega) i4
  · by_cases c1 : i < s
    · rw [v1 i c1]
      by_cases c2 : j < e
      · rw [v3 j i3 c2]; exact h.left _ _ i1 (by omega) (by omega)
      · rw [v4 j (by omega)]; exact x1 i j i1 c1 (by omega) i4
    · rw [v2 i (by omega) i2]
      by_cases c2 : j < e
      · rw [v3 j i3 c2]; exact x2 _ _ (by omega) (by omega) (by omega) (by omega)
      · rw [v4 j (by omega)]; exact h.right _ _ (by omega) (by omega) i4
/-- Halves that are merged behind one another make the whole. -/
theorem merge_whole {lt : Int → Int → Bool} {a d b : Nat} {f g h : Nat → Int} (h1 : a ≤ d) (h2 : d ≤ b) (p : Merged lt a d f g) (q : Merged lt d b g h)
    (x : ∀ i j, a ≤ i → i < d → d ≤ j → j < b → lt (f i) (f j) = true) : Merged lt a b f h := by
  refine ⟨(p.1.wide (Nat.le_refl _) h2).trans (q.1.wide h1 (Nat.le_refl _)), fun i j i1 i2 i3 => ?_⟩
  by_cases c1 : j < d
  · rw [q.1.out i (.inl (by omega)), q.1.out j (.inl c1)]; exact p.2 i j i1 i2 c1
  · by_cases c2 : d ≤ i
    · exact q.2 i j c2 i2 i3
    · obtain ⟨l, l1, l2, e⟩ := p.1.from' i i1 (by omega)
      obtain ⟨k, k1, k2, e2⟩ := q.1.from' j (by omega) i3
      rw [q.1.out i (.inl (by omega)), e, e2, p.1.out k (.inr k1)]
      exact x l k l1 l2 k1 k2
theorem Halves.done_left {lt : Int → Int → Bool} {a b : Nat} {f : Nat → Int} (h : Halves lt a a b f) : Merged lt a b f f := ⟨Re.refl _ _ _, h.right⟩
theorem Halves.done_right {lt : Int → Int → Bool} {a b : Nat} {f : Nat → Int} (h : Halves lt a b b f) : Merged lt a b f f := ⟨Re.refl _ _ _, h.left⟩
theorem Halves.re {lt : Int → Int → Bool} {a d m b : Nat} {f g : Nat → Int} (h : Halves lt d m b f) (r : Re a d f g) (_ : d ≤ m) : Halves lt d m b g := by
  have v : ∀ k, d ≤ k → g k = f k := fun k hk => r.out k (.inr hk)
  refine ⟨fun i j i1 i2 i3 => ?_, fun i j i1 i2 i3 => ?_, fun i j i1 i2 i3 i4 => ?_⟩
  · rw [v i i1, v j (by omega)]; exact h.left i j i1 i2 i3
  · rw [v i (by omega), v j (by omega)]; exact h.right i j i1 i2 i3
  · rw [v i i1, v j (by omega)]; exact h.apart i j i1 i2 i3 i4
/-- The number at the place a, moved behind those that are less. -/
def toRight (f : Nat → Int) (a c : Nat) : Nat → Int := fun k => if k = c then f a else if a ≤ k ∧ k < c then f (k + 1) else f k
theorem toRight_zero (f : Nat → Int) (a : Nat) : toRight f a a = f := by
  funext k
  unfold toRight
  by_cases h : k = a
  · rw [if_pos h, h]
  · rw [if_neg h, if_neg (by omega)]
theorem toRight_step (f : Nat → Int) (a c : Nat) (h : a ≤ c) : swap (toRight f a c) c (c + 1) = toRight f a (c + 1) := by
  funext k
  unfold swap
  have e1 : toRight f a c c = f a := by unfold toRight; rw [if_pos rfl]
  have e2 : toRight f a c (c + 1) = f (c + 1) := by unfold toRight; rw [if_neg (by omega), if_neg (by omega)]
  rw [e1, e2]
  by_cases h1 : k = c + 1
  · rw [if_pos h1]; unfold toRight; rw [if_pos h1]
  · rw [if_neg h1]
    by_cases h2 : k = c
    · rw [if_pos h2]; unfold toRight; rw [if_neg h1, if_pos (by omega), h2]
    · rw [if_neg h2]; unfold toRight; rw [if_neg h2, if_neg h1]
      by_cases h3 : a ≤ k ∧ k < c
      · rw [if_pos h3, if_pos (by omega)]
      · rw [if_neg h3, if_neg (by omega)]
/-- The number at the place m, moved ahead of those that are greater. -/
def toLeft (f : Nat → Int) (m c : Nat) : Nat → Int := fun k => if k = c then f m else if c < k ∧ k ≤ m then f (k - 1) else f k
theorem toLeft_zero (f : Nat → Int) (m : Nat) : toLeft f m m = f := by
  funext k
  unfold toLeft
  by_cases h : k = m
  · rw [if_pos h, h]
  · rw [if_neg h, if_neg (by omega)]
theorem toLeft_step (f : Nat → Int) (m c : Nat) (h : c + 1 ≤ m) : swap (toLeft f m (c + 1)) (c + 1) c = toLeft f m c := by
  funext k
  unfold swap
  have e1 : toLeft f m (c + 1) (c + 1) = f m := by unfold toLeft; rw [if_pos rfl]
  have e2 : toLeft f m (c + 1) c = f c := by unfold toLeft; rw [if_neg (by omega), if_neg (by omega)]
  rw [e1, e2]
  by_cases h1 : k = c
  · rw [if_pos h1]; unfold toLeft; rw [if_pos h1]
  · rw [if_neg h1]
    by_cases h2 : k = c + 1
    · rw [if_pos h2]; unfold toLeft; rw [if_neg h1, if_pos (by omega), h2]; rfl
    · rw [if_neg h2]; unfold toLeft; rw [if_neg h2, if_neg h1]
      by_cases h3 : c + 1 < k ∧ k ≤ m
      · rw [if_pos h3, if_pos (by omega)]
      · rw [if_neg h3, if_neg (by omega)]
theorem Re.toLeft {a c m b : Nat} (f : Nat → Int) (h1 : a ≤ c) (h2 : c ≤ m) (h3 : m < b) : Re a b f (toLeft f m c) := by
  refine ⟨fun k hk => ?_, fun k k1 k2 => ?_, fun l l1 l2 => ?_⟩
  · unfold Srt.toLeft; rw [if_neg (by omega), if_neg (by omega)]
  · unfold Srt.toLeft
    by_cases e : k = c
    · exact ⟨m, by omega, h3, by rw [if_pos e]⟩
    · by_cases e2 : c < k ∧ k ≤ m
      · exact ⟨k - 1, by omega, by omega, by rw [if_neg e, if_pos e2]⟩
      · exact ⟨k, k1, k2, by rw [if_neg e, if_neg e2]⟩
  · unfold Srt.toLeft
    by_cases e : l = m
    · exact ⟨c, h1, by omega, by rw [if_pos rfl, e]⟩
    · by_cases e2 : c ≤ l ∧ l < m
      · exact ⟨l + 1, by omega, by omega, by rw [if_neg (by omega), if_pos (by omega)]; congr 1⟩
      · exact ⟨l, l1, l2, by rw [if_neg (by omega), if_neg (by omega)]⟩
theorem Re.toRight {a c b : Nat} (f : Nat → Int) (h1 : a ≤ c) (h2 : c < b) : Re a b f (toRight f a c) := by
  refine ⟨fun k hk => ?_, fun k k1 k2 => ?_, fun l l1 l2 => ?_⟩
  · unfold Srt.toRight; rw [if_neg (by omega), if_neg (by omega)]
  · unfold Srt.toRight
    by_cases e : k = c
    · exact ⟨a, by omega, by omega, by rw [if_pos e]⟩
    · by_cases e2 : a ≤ k ∧ k < c
      · exact ⟨k + 1, by omega, by omega, by rw [if_neg e, if_pos e2]⟩
      · exact ⟨k, k1, k2, by rw [if_neg e, if_neg e2]⟩
  · unfold Srt.toRight
    by_cases e : l = a
    · exact ⟨c, h1, h2, by rw [if_pos rfl, e]⟩
    · by_cases e2 : a < l ∧ l ≤ c
      · exact ⟨l - 1, by omega, by omega, by rw [if_neg (by omega), if_pos (by omega)]; congr 1; omega⟩
      · exact ⟨l, l1, l2, by rw [if_neg (by omega), if_neg (by omega)]⟩
/-- A sorted row and one number behind it, moved to its place c. -/
theorem insert_left {lt : Int → Int → Bool} {n a c m : Nat} {f : Nat → Int} (hT : Tot n lt) (h : Sorted lt a m f) (h1 : a ≤ c) (h2 : c ≤ m) (lo : a < c → lt (f (c - 1)) (f m) = true) (hi : c < m → lt (f m) (f c) = true) : Merged lt a (m + 1) f (toLeft f m c) := by
  refine ⟨Re.toLeft f h1 h2 (by omega), fun i j i1 i2 i3 => ?_⟩
  have lo2 : ∀ k, a ≤ k → k < c → lt (f k) (f m) = true := fun k k1 k2 => by
    by_cases e : k = c - 1
    · rw [e]; exact lo (by omega)
    · exact hT.tr _ _ _ (h k (c - 1) k1 (by omega) (by omega)) (lo (by omega))
  have hi2 : ∀ k, c ≤ k → k < m → lt (f m) (f k) = true := fun k k1 k2 => by
    by_cases e : k = c
    · rw [e]; exact hi (by omega)
    · exact hT.tr _ _ _ (hi (by omega)) (h c k h1 (by omega) k2)
  have v : ∀ k, toLeft f m c k = if k = c then f m else if c < k ∧ k ≤ m then f (k - 1) else f k := fun k => rfl
  rw [v i, v j]
  by_cases e1 : i = c
  · rw [if_pos e1, if_neg (by omega), if_pos (by omega)]; exact hi2 _ (by omega) (by omega)
  · rw [if_neg e1]
    by_cases e2 : c < i
    · rw [if_pos (by omega), if_neg (by omega), if_pos (by omega)]; exact h _ _ (by omega) (by omega) (by omega)
    · rw [if_neg (by omega)]
      by_cases e3 : j = c
      · rw [if_pos e3]; exact lo2 i i1 (by omega)
      · rw [if_neg e3]
        by_cases e4 : c < j
        · rw [if_pos (by omega)]
          by_cases e5 : i = j - 1
          · omega
          · exact h _ _ i1 (by omega) (by omega)
        · rw [if_neg (by omega)]; exact h _ _ i1 i2 (by omega)
/-- One number ahead of a sorted row, moved to its place c. -/
theorem insert_right {lt : Int → Int → Bool} {n a c b : Nat} {f : Nat → Int} (hT : Tot n lt) (h : Sorted lt (a + 1) b f) (h1 : a ≤ c) (h2 : c < b) (lo : a < c → lt (f c) (f a) = true) (hi : c + 1 < b → lt (f a) (f (c + 1)) = true) : Merged lt a b f (toRight f a c) := by
  refine ⟨Re.toRight f h1 h2, fun i j i1 i2 i3 => ?_⟩
  have lo2 : ∀ k, a < k → k ≤ c → lt (f k) (f a) = true := fun k k1 k2 => by
    by_cases e : k = c
    · rw [e]; exact lo (by omega)
    · exact hT.tr _ _ _ (h k c (by omega) (by omega) h2) (lo (by omega))
  have hi2 : ∀ k, c < k → k < b → lt (f a) (f k) = true := fun k k1 k2 => by
    by_cases e : k = c + 1
    · rw [e]; exact hi (by omega)
    · exact hT.tr _ _ _ (hi (by omega)) (h (c + 1) k (by omega) (by omega) k2)
  have v : ∀ k, toRight f a c k = if k = c then f a else if a ≤ k ∧ k < c then f (k + 1) else f k := fun k => rfl
  rw [v i, v j]
  by_cases e1 : i = c
  · rw [if_pos e1, if_neg (by omega), if_neg (by omega)]; exact hi2 _ (by omega) i3
  · rw [if_neg e1]
    by_cases e2 : c < i
    · rw [if_neg (by omega), if_neg (by omega), if_neg (by omega)]; exact h _ _ (by omega) i2 i3
    · rw [if_pos (by omega)]
      by_cases e3 : j = c
      · rw [if_pos e3]; exact lo2 _ (by omega) (by omega)
      · rw [if_neg e3]
        by_cases e4 : c < j
        · rw [if_neg (by omega)]
          exact h _ _ (by omega) (by omega) i3
        · rw [if_pos (by omega)]; exact h _ _ (by omega) (by omega) (by omega)
end Go.Proofs.Ytnkbnkiaokkjhaa.Srt
