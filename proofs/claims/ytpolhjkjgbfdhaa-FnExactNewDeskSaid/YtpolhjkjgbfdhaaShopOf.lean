/- Contracts: which lists are the times of a shop; a list in rows; the shop of times. -/
import Derived.Test.YtpolhjkjgbfdhaaPost
import Derived.Test.YtpolhjkjgbfdhaaLine
import Derived.Test.YtpolhjkjgbfdhaaBlk
import Derived.Test.YtpolhjkjgbfdhaaMixPure
import Derived.Laws.AppendOwn
namespace Go.Proofs.Ytpolhjkjgbfdhaa
open Go.RowKit Go.Lst

/-- Rows of a length, for so many machines. -/
def rowsOk (L M : Int) : Bool := inB M 1 8 && decide (L % M = 0) && inB (L / M) 1 24
def canShop (ts : List Int) (M : Int) : Bool := rowsOk ts.length M && allIn ts 1 10000
theorem rowsOk_of {L : Nat} {M : Int} (h : rowsOk L M = true) : ∃ m n : Nat, M = (m : Int) ∧ 1 ≤ m ∧ m ≤ 8 ∧ 1 ≤ n ∧ n ≤ 24 ∧ L = n * m := by
  simp only [rowsOk, Bool.and_eq_true, decide_eq_true_eq] at h
  obtain ⟨⟨h1, h2⟩, h3⟩ := h
  obtain ⟨a, b⟩ := inB_true h1
  obtain ⟨c, d⟩ := inB_true h3
  obtain ⟨m, rfl⟩ : ∃ m : Nat, M = m := ⟨M.toNat, by omega⟩
  refine ⟨m, L / m, rfl, by omega, by omega, by omega, by omega, ?_⟩
  have h4 : L % m = 0 := by omega
  have := Nat.div_add_mod L m
  rw [h4, Nat.add_zero, Nat.mul_comm] at this
  exact this.symm
theorem canShop_of {ts : List Int} {M : Int} (h : canShop ts M = true) : ∃ m n : Nat, M = (m : Int) ∧ 1 ≤ m ∧ m ≤ 8 ∧ 1 ≤ n ∧ n ≤ 24 ∧ ts.length = n * m ∧ ∀ (i : Nat) (x : Int), ts[i]? = some x → 1 ≤ x ∧ x ≤ 10000 := by
  simp only [canShop, Bool.and_eq_true] at h
  obtain ⟨m, n, h1, h2, h3, h4, h5, h6⟩ := rowsOk_of h.1
  exact ⟨m, n, h1, h2, h3, h4, h5, h6, fun i x hx => allIn_of h.2 hx⟩
theorem mul_le24 {n m : Nat} (hn : n ≤ 24) (hm : m ≤ 8) : n * m ≤ 192 := Nat.mul_le_mul hn hm
theorem row_fit {k n m : Nat} (h : k < n) : k * m + m ≤ n * m := by
  have := Nat.mul_le_mul_right m (show k + 1 ≤ n from h)
  rw [Nat.add_mul, Nat.one_mul] at this
  exact this

end Go.Proofs.Ytpolhjkjgbfdhaa
