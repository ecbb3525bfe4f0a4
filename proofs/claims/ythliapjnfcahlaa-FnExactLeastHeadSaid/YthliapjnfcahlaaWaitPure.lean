/- Pure facts on jobs that may not wait: how much later one can begin than another one. -/
import Derived.Test.YthliapjnfcahlaaBoundPure
import Derived.Test.YthliapjnfcahlaaFillI
namespace Go.Proofs.Ythliapjnfcahlaa
open Go.Lst

/-- How much later a job with the times ys can begin than one with the times xs, by the first q machines. -/
def gapL (xs ys : List Int) : Nat → Int
  | 0 => 0
  | q + 1 => max (gapL xs ys q) (sumTo xs (q + 1) - sumTo ys q)
theorem sum_small {xs : List Int} {m : Nat} (h : ∀ q, q < m → 1 ≤ xs.getD q 0 ∧ xs.getD q 0 ≤ 10000) : ∀ q, q ≤ m → 0 ≤ sumTo xs q ∧ sumTo xs q ≤ 10000 * q
  | 0, _ => by unfold sumTo; omega
  | q + 1, hq => by
    have ih := sum_small h q (by omega)
    have := h q (by omega)
    unfold sumTo
    omega
theorem gapL_bound {xs ys : List Int} {m : Nat} (hx : ∀ q, q < m → 1 ≤ xs.getD q 0 ∧ xs.getD q 0 ≤ 10000) (hy : ∀ q, q < m → 1 ≤ ys.getD q 0 ∧ ys.getD q 0 ≤ 10000) : ∀ q, q ≤ m → 0 ≤ gapL xs ys q ∧ gapL xs ys q ≤ 10000 * q
  | 0, _ => by unfold gapL; omega
  | q + 1, hq => by
    have ih := gapL_bound hx hy q (by omega)
    have h1 := sum_small hx (q + 1) hq
    have h2 := sum_small hy q (by omega)
    unfold gapL
    omega
theorem row_times {ts : List Int} {m n i : Nat} (ht : ∀ (i : Nat) (x : Int), ts[i]? = some x → 1 ≤ x ∧ x ≤ 10000) (hl : ts.length = n * m) (hi : i < n) : ∀ q, q < m → 1 ≤ (rowOf ts m i).getD q 0 ∧ (rowOf ts m i).getD q 0 ≤ 10000 := fun q hq => by
  have := row_fit (m := m) hi
  rw [rowOf_getD ts hq]
  exact all_at ht (by omega)
/-- The gap between two jobs. -/
def gapAt (ts : List Int) (m i k : Nat) : Int := gapL (rowOf ts m i) (rowOf ts m k) m
/-- All gaps, row by row, by their place. -/
def gapPl (ts : List Int) (m n t : Nat) : Int := if t / n = t % n then 0 else gapAt ts m (t / n) (t % n)
theorem place_of {n i k : Nat} (hk : k < n) : (i * n + k) / n = i ∧ (i * n + k) % n = k := by
  rw [Nat.mul_comm]
  exact ⟨by rw [Nat.mul_add_div (by omega), Nat.div_eq_of_lt hk, Nat.add_zero], by rw [Nat.mul_add_mod, Nat.mod_eq_of_lt hk]⟩
theorem gapPl_same (ts : List Int) (m : Nat) {n i : Nat} (hi : i < n) : gapPl ts m n (i * n + i) = 0 := by
  obtain ⟨h1, h2⟩ := place_of (i := i) hi
  unfold gapPl
  rw [h1, h2, if_pos rfl]
theorem gapPl_other (ts : List Int) (m : Nat) {n i k : Nat} (hk : k < n) (hne : i ≠ k) : gapPl ts m n (i * n + k) = gapAt ts m i k := by
  obtain ⟨h1, h2⟩ := place_of (i := i) hk
  unfold gapPl
  rw [h1, h2, if_neg hne]
def gapsRes (ts : List Int) (M : Int) : List Int := if canShop ts M then fillI (gapPl ts M.toNat (ts.length / M.toNat)) ((ts.length / M.toNat) * (ts.length / M.toNat)) else []
theorem gapsRes_yes {ts : List Int} {m n : Nat} (h : canShop ts m = true) (hd : ts.length / m = n) : gapsRes ts m = fillI (gapPl ts m n) (n * n) := by
  unfold gapsRes; rw [h, if_pos rfl, Int.toNat_natCast, hd]
theorem gapsRes_length (ts : List Int) (M : Int) : (gapsRes ts M).length ≤ 1048576 := by
  unfold gapsRes
  split
  · rename_i h
    obtain ⟨m, n, rfl, h2, h3, h4, h5, h6, _⟩ := canShop_of h
    have hd : ts.length / m = n := by rw [h6]; exact Nat.mul_div_cancel n (by omega)
    rw [Int.toNat_natCast, hd, fillI_length]
    have := Nat.mul_le_mul h5 h5
    omega
  · simp
end Go.Proofs.Ythliapjnfcahlaa
