/- Pure: the next order of some numbers. No condition. -/
import Derived.Test.YtnkbnkiaokkjhaaSortRow
import Derived.Test.YtnkbnkiaokkjhaaOrdPure
namespace Go.Proofs.Ytnkbnkiaokkjhaa
open Go.RowKit Go.Lst Go.Plan

/-- The last place with less than behind it, of the first k. -/
def pivF (f : Nat → Int) : Nat → Option Nat
  | 0 => none
  | k + 1 => if f k < f (k + 1) then some k else pivF f k
/-- The last place up to k with more than a. -/
def swpF (f : Nat → Int) (a : Int) : Nat → Nat
  | 0 => 0
  | k + 1 => if a < f (k + 1) then k + 1 else swpF f a k
/-- What stands from b to n - 1, the other way round. -/
def revA (n b : Nat) (f : Nat → Int) : Nat → Int := fun t => if b ≤ t ∧ t < n then f (b + n - 1 - t) else f t
/-- k of each end have been put for one another. -/
def revK (n b k : Nat) (f : Nat → Int) : Nat → Int := fun t => if (b ≤ t ∧ t < b + k) ∨ (t < n ∧ n ≤ t + k) then f (b + n - 1 - t) else f t
def nextF (n : Nat) (f : Nat → Int) : Option (Nat → Int) :=
  match pivF f (n - 1) with
  | none => none
  | some i => some (revA n (i + 1) (Srt.swap f i (swpF f (f i) (n - 1))))
theorem pivF_some {f : Nat → Int} {i : Nat} : ∀ {k : Nat}, pivF f k = some i → i < k ∧ f i < f (i + 1)
  | 0, h => by cases h
  | k + 1, h => by
    unfold pivF at h
    split at h
    · cases h; exact ⟨Nat.lt_succ_self _, by assumption⟩
    · have := pivF_some h; exact ⟨by omega, this.2⟩
theorem swpF_is {f : Nat → Int} {a : Int} {q : Nat} (hq : 1 ≤ q) (ha : a < f q) : ∀ {k : Nat}, q ≤ k → q ≤ swpF f a k ∧ swpF f a k ≤ k ∧ a < f (swpF f a k)
  | 0, h => by omega
  | k + 1, h => by
    unfold swpF
    split
    · exact ⟨h, Nat.le_refl _, by assumption⟩
    · have hne : q ≠ k + 1 := fun e => by subst e; contradiction
      have := swpF_is hq ha (k := k) (by omega)
      exact ⟨this.1, by omega, this.2.2⟩
theorem revK_zero (n b : Nat) (f : Nat → Int) : revK n b 0 f = f := by
  funext t; unfold revK; rw [if_neg (by omega)]
theorem revK_swap {n b k : Nat} (f : Nat → Int) (h : b + k < n - 1 - k) : Srt.swap (revK n b k f) (b + k) (n - 1 - k) = revK n b (k + 1) f := by
  funext t
  unfold Srt.swap revK
  by_cases h1 : t = n - 1 - k
  · rw [if_pos h1, if_neg (by omega), if_pos (by omega)]; congr 1; omega
  · rw [if_neg h1]
    by_cases h2 : t = b + k
    · rw [if_pos h2, if_neg (by omega), if_pos (by omega)]; congr 1; omega
    · rw [if_neg h2]
      by_cases h3 : (b ≤ t ∧ t < b + k) ∨ (t < n ∧ n ≤ t + k)
      · rw [if_pos h3, if_pos (by omega)]
      · rw [if_neg h3, if_neg (by omega)]
theorem revK_done {n b k : Nat} (f : Nat → Int) (h : n - 1 - k ≤ b + k) (hk : b + k ≤ n) (t : Nat) (ht : t < n) : revK n b k f t = revA n b f t := by
  unfold revK revA
  by_cases h3 : (b ≤ t ∧ t < b + k) ∨ (t < n ∧ n ≤ t + k)
  · rw [if_pos h3]
    by_cases h4 : b ≤ t ∧ t < n
    · rw [if_pos h4]
    · rw [if_neg h4]; congr 1; omega
  · rw [if_neg h3]
    by_cases h4 : b ≤ t ∧ t < n
    · rw [if_pos h4]; congr 1; omega
    · rw [if_neg h4]
/-- An order: each of 0 .. n - 1 at most once. -/
def OrdF (n : Nat) (f : Nat → Int) : Prop := (∀ q, q < n → 0 ≤ f q ∧ f q < n) ∧ ∀ p q, p < n → q < n → f p = f q → p = q
theorem ordF_first (n : Nat) : OrdF n (fun q => (q : Int)) := ⟨fun q h => by show (0 : Int) ≤ (q : Int) ∧ (q : Int) < n; omega, fun p q _ _ h => by have h2 : (p : Int) = (q : Int) := h; omega⟩
/-- Where a place of the next order comes from. -/
def sigF (n i j q : Nat) : Nat := if q < i then q else if q = i then j else if i + n - q = j then i else i + n - q
theorem nextF_at {n i j : Nat} {f : Nat → Int} (hi : i < j) (_ : j < n) (q : Nat) (hq : q < n) : revA n (i + 1) (Srt.swap f i j) q = f (sigF n i j q) := by
  unfold revA Srt.swap sigF
  by_cases h1 : q < i
  · rw [if_neg (by omega), if_neg (by omega), if_neg (by omega), if_pos h1]
  · rw [if_neg h1]
    by_cases h2 : q = i
    · rw [if_neg (by omega), if_neg (by omega), if_pos h2, if_pos h2]
    · rw [if_pos (show i + 1 ≤ q ∧ q < n by omega), if_neg h2, show i + 1 + n - 1 - q = i + n - q by omega]
      by_cases h3 : i + n - q = j
      · rw [if_pos h3, if_pos h3]
      · rw [if_neg h3, if_neg h3, if_neg (by omega)]
theorem nextF_parts {n : Nat} {f g : Nat → Int} (hn : 1 ≤ n) (h : nextF n f = some g) : ∃ i j, pivF f (n - 1) = some i ∧ j = swpF f (f i) (n - 1) ∧ i < j ∧ j < n ∧ f i < f j ∧ g = revA n (i + 1) (Srt.swap f i j) := by
  unfold nextF at h
  cases hp : pivF f (n - 1) with
  | none => rw [hp] at h; cases h
  | some i =>
    rw [hp] at h
    obtain ⟨h1, h2⟩ := pivF_some hp
    obtain ⟨h3, h4, h5⟩ := swpF_is (q := i + 1) (by omega) h2 (k := n - 1) (by omega)
    cases h
    exact ⟨i, _, rfl, rfl, by omega, by omega, h5, rfl⟩
theorem nextF_ord {n : Nat} {f g : Nat → Int} (hn : 1 ≤ n) (ho : OrdF n f) (h : nextF n f = some g) : OrdF n g := by
  obtain ⟨i, j, _, _, hi, hj, _, rfl⟩ := nextF_parts hn h
  have hs : ∀ q, q < n → sigF n i j q < n := fun q hq => by unfold sigF; repeat (first | omega | split)
  refine ⟨fun q hq => ?_, fun p q hp hq he => ?_⟩
  · rw [nextF_at hi hj q hq]; exact ho.1 _ (hs q hq)
  · rw [nextF_at hi hj p hp, nextF_at hi hj q hq] at he
    have := ho.2 _ _ (hs p hp) (hs q hq) he
    unfold sigF at this
    repeat (first | omega | split at this)
/-- The number that an order tells: it grows. -/
def valF (n : Nat) (f : Nat → Nat) : Nat → Nat
  | 0 => 0
  | k + 1 => valF n f k * n + f k
theorem valF_congr {n : Nat} {f g : Nat → Nat} : ∀ k, (∀ q, q < k → f q = g q) → valF n f k = valF n g k
  | 0, _ => rfl
  | k + 1, h => by
    show valF n f k * n + f k = valF n g k * n + g k
    rw [valF_congr k (fun q hq => h q (by omega)), h k (Nat.lt_succ_self k)]
theorem valF_lt {n : Nat} {f : Nat → Nat} (hf : ∀ q, q < n → f q < n) : ∀ k, k ≤ n → valF n f k < n ^ k
  | 0, _ => by simp [valF]
  | k + 1, h => by
    have ih := valF_lt hf k (by omega)
    have hk := hf k (by omega)
    show valF n f k * n + f k < n ^ (k + 1)
    rw [Nat.pow_succ]
    have : (valF n f k + 1) * n ≤ n ^ k * n := Nat.mul_le_mul_right n ih
    rw [Nat.add_mul, Nat.one_mul] at this
    omega
theorem valF_grow {n i : Nat} {f g : Nat → Nat} (hf : ∀ q, q < n → f q < n) (hs : ∀ q, q < i → g q = f q) (hi : f i < g i) : ∀ k, i < k → k ≤ n → valF n f k < valF n g k
  | 0, h, _ => by omega
  | k + 1, h, hk => by
    show valF n f k * n + f k < valF n g k * n + g k
    by_cases e : k = i
    · subst e
      rw [valF_congr k (f := g) (g := f) hs]
      omega
    · have ih := valF_grow hf hs hi k (by omega) (by omega)
      have h2 := hf k (by omega)
      have : (valF n f k + 1) * n ≤ valF n g k * n := Nat.mul_le_mul_right n ih
      rw [Nat.add_mul, Nat.one_mul] at this
      omega
def natF (f : Nat → Int) : Nat → Nat := fun q => (f q).toNat
theorem nextF_grow {n : Nat} {f g : Nat → Int} (hn : 1 ≤ n) (ho : OrdF n f) (h : nextF n f = some g) : valF n (natF f) n < valF n (natF g) n := by
  obtain ⟨i, j, _, _, hi, hj, hlt, rfl⟩ := nextF_parts hn h
  have hf : ∀ q, q < n → natF f q < n := fun q hq => by have := ho.1 q hq; unfold natF; omega
  refine valF_grow (i := i) hf (fun q hq => ?_) ?_ n (by omega) (Nat.le_refl _)
  · unfold natF; rw [nextF_at hi hj q (by omega)]; unfold sigF; rw [if_pos hq]
  · unfold natF; rw [nextF_at hi hj i (by omega)]; unfold sigF; rw [if_neg (by omega), if_pos rfl]
    have := ho.1 i (by omega)
    omega
theorem ordF_val {n : Nat} {f : Nat → Int} (ho : OrdF n f) : valF n (natF f) n < n ^ n := valF_lt (fun q hq => by have := ho.1 q hq; unfold natF; omega) n (Nat.le_refl _)
/-- The orders, one behind the other. -/
def itF (n : Nat) : Nat → Option (Nat → Int)
  | 0 => some fun q => (q : Int)
  | k + 1 => (itF n k).bind (nextF n)
def TotalF (n T : Nat) : Prop := itF n T = none ∧ ∀ k, k < T → (itF n k).isSome = true
theorem itF_none {n k : Nat} (h : itF n k = none) : ∀ j, k ≤ j → itF n j = none
  | 0, hj => by obtain rfl : k = 0 := by omega
                exact h
  | j + 1, hj => by
    by_cases e : k = j + 1
    · subst e; exact h
    · show (itF n j).bind (nextF n) = none
      rw [itF_none h j (by omega)]; rfl
theorem totalF_one {n S T : Nat} (h : TotalF n S) (k : TotalF n T) : S = T := by
  rcases Nat.lt_trichotomy S T with h1 | h1 | h1
  · have := k.2 S h1; rw [h.1] at this; cases this
  · exact h1
  · have := h.2 T h1; rw [k.1] at this; cases this
theorem itF_ord {n : Nat} (hn : 1 ≤ n) : ∀ {k : Nat} {f : Nat → Int}, itF n k = some f → OrdF n f
  | 0, f, h => by cases h; exact ordF_first n
  | k + 1, f, h => by
    have h2 : (itF n k).bind (nextF n) = some f := h
    cases hk : itF n k with
    | none => rw [hk] at h2; cases h2
    | some g => rw [hk] at h2; exact nextF_ord hn (itF_ord hn hk) h2
theorem itF_next {n k : Nat} {f : Nat → Int} (h : itF n k = some f) : itF n (k + 1) = nextF n f := by
  show (itF n k).bind (nextF n) = _
  rw [h]; rfl
theorem itF_total {n k : Nat} (h : (itF n k).isSome = true) (h2 : itF n (k + 1) = none) : TotalF n (k + 1) := ⟨h2, fun j hj => by
  cases hz : itF n j with
  | none => have := itF_none hz k (by omega); rw [this] at h; cases h
  | some _ => rfl⟩
/-- The list of an order. -/
def listF (n : Nat) (f : Nat → Int) : List Int := (List.range n).map f
theorem listF_length (n : Nat) (f : Nat → Int) : (listF n f).length = n := by simp [listF]
theorem cellsF_listF (n : Nat) (f : Nat → Int) : cellsF n f = (listF n f).map (Value.int .i64) := by unfold cellsF listF; rw [List.map_map]; rfl
theorem listF_ord {n : Nat} {f : Nat → Int} (ho : OrdF n f) : isOrd (listF n f) n = true := by
  unfold isOrd
  rw [listF_length, decide_eq_true rfl, Bool.true_and]
  have := (ordUpTo_iff (listF n f) n n (by rw [listF_length]; exact Nat.le_refl _)).2
  apply this
  rw [List.take_of_length_le (by rw [listF_length]; exact Nat.le_refl _)]
  refine ⟨fun x hx => ?_, ?_⟩
  · obtain ⟨q, hq, rfl⟩ := List.mem_map.1 hx
    have := ho.1 q (List.mem_range.1 hq)
    omega
  · unfold listF
    rw [List.nodup_iff_pairwise_ne, List.pairwise_map]
    refine (List.nodup_iff_pairwise_ne.1 (List.nodup_range (n := n))).imp_of_mem fun {a b} ha hb hne he => hne (ho.2 a b (List.mem_range.1 ha) (List.mem_range.1 hb) he)
def rowAt (n k : Nat) : List Int := listF n ((itF n k).getD fun q => (q : Int))
theorem rowAt_length (n k : Nat) : (rowAt n k).length = n := listF_length _ _
theorem rowAt_some {n k : Nat} {f : Nat → Int} (h : itF n k = some f) : rowAt n k = listF n f := by unfold rowAt; rw [h]; rfl
theorem rowAt_ord {n : Nat} (hn : 1 ≤ n) (k : Nat) : isOrd (rowAt n k) n = true := by
  unfold rowAt
  cases h : itF n k with
  | none => exact listF_ord (ordF_first n)
  | some f => exact listF_ord (itF_ord hn h)
end Go.Proofs.Ytnkbnkiaokkjhaa
