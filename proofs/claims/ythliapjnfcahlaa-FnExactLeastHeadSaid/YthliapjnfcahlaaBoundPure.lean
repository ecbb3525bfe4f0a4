/- Pure facts on bounds of shops: sums of times of jobs, and of machines. -/
import Derived.Test.YthliapjnfcahlaaShopRows
namespace Go.Proofs.Ythliapjnfcahlaa
open Go.Lst

/-- The sum of the first k times of the job i. -/
def partOf (ts : List Int) (m i k : Nat) : Int := sumTo (rowOf ts m i) k
def jobSum (ts : List Int) (m i : Nat) : Int := partOf ts m i m
theorem partOf_step (ts : List Int) {m i k : Nat} (h : k < m) : partOf ts m i (k + 1) = partOf ts m i k + ts.getD (i * m + k) 0 := by
  show sumTo (rowOf ts m i) k + (rowOf ts m i).getD k 0 = _
  rw [rowOf_getD ts h]; rfl
theorem partOf_bound {ts : List Int} {m n i : Nat} (ht : ∀ (i : Nat) (x : Int), ts[i]? = some x → 1 ≤ x ∧ x ≤ 10000) (hl : ts.length = n * m) (hi : i < n) : ∀ k, k ≤ m → 0 ≤ partOf ts m i k ∧ partOf ts m i k ≤ 10000 * k
  | 0, _ => by unfold partOf sumTo; omega
  | k + 1, hk => by
    have ih := partOf_bound ht hl hi k (by omega)
    have := row_fit (m := m) hi
    have hx := all_at ht (k := i * m + k) (by omega)
    rw [partOf_step ts (by omega)]
    omega
/-- The sums of jobs, as far as the first s steps go. -/
def jobsTo (ts : List Int) (m n : Nat) : Nat → List Int
  | 0 => List.replicate n 0
  | s + 1 => (jobsTo ts m n s).set (s / m) ((jobsTo ts m n s).getD (s / m) 0 + ts.getD s 0)
theorem jobsTo_length (ts : List Int) (m n : Nat) : ∀ s, (jobsTo ts m n s).length = n
  | 0 => by simp [jobsTo]
  | s + 1 => by unfold jobsTo; rw [List.length_set, jobsTo_length ts m n s]
theorem jobsTo_get {ts : List Int} {m n : Nat} (hm : 1 ≤ m) : ∀ s, s ≤ n * m → ∀ i, i < n → (jobsTo ts m n s).getD i 0 = partOf ts m i (min m (s - i * m))
  | 0, _, i, hi => by
    unfold jobsTo
    rw [List.getD_eq_getElem?_getD, List.getElem?_replicate, if_pos hi, Nat.zero_sub, Nat.min_zero]; rfl
  | s + 1, hs, i, hi => by
    have ih := jobsTo_get (ts := ts) (n := n) hm s (by omega)
    have hd := Nat.div_add_mod s m
    have hlt := Nat.mod_lt s (show 0 < m by omega)
    have hj : s / m < n := (Nat.div_lt_iff_lt_mul (show 0 < m by omega)).2 (show s < n * m by omega)
    rw [Nat.mul_comm] at hd
    unfold jobsTo
    rw [getD_set _ (by rw [jobsTo_length]; exact hj)]
    by_cases e : s / m = i
    · subst e
      rw [if_pos rfl, ih _ hj]
      generalize hq : s / m = q at *
      generalize hr : s % m = r at *
      rw [show min m (s + 1 - q * m) = r + 1 by omega, show min m (s - q * m) = r by omega, partOf_step ts hlt, hd]
    · rw [if_neg e, ih i hi]
      generalize hq : s / m = q at *
      generalize hr : s % m = r at *
      congr 1
      rcases Nat.lt_or_gt_of_ne e with h | h
      · have := Nat.mul_le_mul_right m (show q + 1 ≤ i from h)
        rw [Nat.add_mul, Nat.one_mul] at this
        omega
      · have := Nat.mul_le_mul_right m (show i + 1 ≤ q from h)
        rw [Nat.add_mul, Nat.one_mul] at this
        omega
/-- The greatest sum of the first k jobs. -/
def mostTo (ts : List Int) (m : Nat) : Nat → Int
  | 0 => 0
  | k + 1 => max (mostTo ts m k) (jobSum ts m k)
theorem mostTo_jobs {ts : List Int} {m n : Nat} (hm : 1 ≤ m) (ht : ∀ (i : Nat) (x : Int), ts[i]? = some x → 1 ≤ x ∧ x ≤ 10000) (hl : ts.length = n * m) : ∀ k, k < n → maxTo (jobsTo ts m n (n * m)) k = mostTo ts m (k + 1)
  | 0, hk => by
    have h0 := jobsTo_get (ts := ts) hm (n * m) (Nat.le_refl _) 0 hk
    have hb := partOf_bound ht hl hk m (Nat.le_refl _)
    have := row_fit (m := m) hk
    rw [show min m (n * m - 0 * m) = m by omega] at h0
    show (jobsTo ts m n (n * m)).getD 0 0 = max 0 (jobSum ts m 0)
    rw [h0]
    unfold jobSum
    omega
  | k + 1, hk => by
    have ih := mostTo_jobs hm ht hl k (by omega)
    have h0 := jobsTo_get (ts := ts) hm (n * m) (Nat.le_refl _) (k + 1) hk
    have := row_fit (m := m) hk
    rw [show min m (n * m - (k + 1) * m) = m by omega] at h0
    show max (maxTo (jobsTo ts m n (n * m)) k) ((jobsTo ts m n (n * m)).getD (k + 1) 0) = max (mostTo ts m (k + 1)) (jobSum ts m (k + 1))
    rw [ih, h0]; rfl
theorem mostTo_bound {ts : List Int} {m n : Nat} (hm : m ≤ 8) (ht : ∀ (i : Nat) (x : Int), ts[i]? = some x → 1 ≤ x ∧ x ≤ 10000) (hl : ts.length = n * m) : ∀ k, k ≤ n → 0 ≤ mostTo ts m k ∧ mostTo ts m k ≤ 80000
  | 0, _ => by unfold mostTo; omega
  | k + 1, hk => by
    have ih := mostTo_bound hm ht hl k (by omega)
    have := partOf_bound ht hl (show k < n by omega) m (Nat.le_refl _)
    unfold mostTo jobSum
    omega
/-- The sums of machines, as far as the first s steps go. -/
def machTo (ts rt : List Int) (m : Nat) : Nat → List Int
  | 0 => List.replicate m 0
  | s + 1 => (machTo ts rt m s).set (rt.getD s 0).toNat ((machTo ts rt m s).getD (rt.getD s 0).toNat 0 + ts.getD s 0)
theorem machTo_length (ts rt : List Int) (m : Nat) : ∀ s, (machTo ts rt m s).length = m
  | 0 => by simp [machTo]
  | s + 1 => by unfold machTo; rw [List.length_set, machTo_length ts rt m s]
theorem machTo_small {ts rt : List Int} {m : Nat} (ht : ∀ (i : Nat) (x : Int), ts[i]? = some x → 1 ≤ x ∧ x ≤ 10000) : ∀ s, s ≤ ts.length → Small (machTo ts rt m s) (10000 * s)
  | 0, _ => zeros_small m
  | s + 1, hs => by
    have ih := machTo_small (rt := rt) (m := m) ht s (by omega)
    have hx := all_at ht (k := s) (by omega)
    have := ih (rt.getD s 0).toNat
    unfold machTo
    exact ih.set ⟨by omega, by omega⟩ (by omega)
theorem jobsTo_small {ts : List Int} {m n : Nat} (ht : ∀ (i : Nat) (x : Int), ts[i]? = some x → 1 ≤ x ∧ x ≤ 10000) : ∀ s, s ≤ ts.length → Small (jobsTo ts m n s) (10000 * s)
  | 0, _ => zeros_small n
  | s + 1, hs => by
    have ih := jobsTo_small (m := m) (n := n) ht s (by omega)
    have hx := all_at ht (k := s) (by omega)
    have := ih (s / m)
    unfold jobsTo
    exact ih.set ⟨by omega, by omega⟩ (by omega)
/-- The bound by jobs and machines. -/
def loadB (ts rt : List Int) (m n : Nat) : Int := max (mostTo ts m n) (maxTo (machTo ts rt m (n * m)) (m - 1))
/-- Routes of as many steps as there are times, on m machines. -/
def onMachines (rt : List Int) (L m : Nat) : Prop := rt.length = L ∧ ∀ (i : Nat) (x : Int), rt[i]? = some x → 0 ≤ x ∧ x < (m : Int)
end Go.Proofs.Ythliapjnfcahlaa
