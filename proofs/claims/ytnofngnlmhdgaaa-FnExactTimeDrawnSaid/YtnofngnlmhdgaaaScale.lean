/- Facts on float32: a product with 2 to the power of -24 is a quotient by 2 to the power of 24. -/
import Derived.Test.YtnofngnlmhdgaaaFloatSub
namespace FloatKit
open Ieee Go

theorem read_up : single.read 1266679808 = .number false 8388608 1 := by decide +kernel
theorem read_down : single.read 864026624 = .number false 8388608 (-47) := by decide +kernel
theorem quo_exact {m more N : Nat} (hN : N = 2 ^ 23) (h : 23 ≤ more) : (m <<< more) / N = m <<< (more - 23) ∧ (m <<< more) % N = 0 := by
  have e : m <<< more = m <<< (more - 23) * N := by
    rw [hN, Nat.shiftLeft_eq, Nat.shiftLeft_eq, Nat.mul_assoc, ← Nat.pow_add]
    congr 2
    omega
  have hp : 0 < N := by rw [hN]; exact Nat.two_pow_pos 23
  rw [e]
  exact ⟨Nat.mul_div_cancel _ hp, Nat.mul_mod_left _ _⟩
theorem made_mul {m N : Nat} (s : Bool) (i : Int) (hN : N = 2 ^ 23) : made (Datum.product (.number s m i) (.number false N (-47))) = single.nearest (s ^^ false) m (i - 24) := by
  unfold made
  simp only [Datum.product, Format.write]
  have hL : m * N = m <<< 23 := by rw [hN, Nat.shiftLeft_eq]
  rw [hL, show i + (-47) = (i - 24) - ((23 : Nat) : Int) by omega, nearest_shift]
theorem made_quo {m N D : Nat} (s : Bool) (i : Int) (hN : N = 2 ^ 23) (hlN : N.log2 = 23) (hD : D = 25) (hm : m.log2 ≤ 23) : made (Datum.quotient D (.number s m i) (.number false N 1)) = single.nearest (s ^^ false) m (i - 24) := by
  have hp : N ≠ 0 := by rw [hN]; exact Nat.pos_iff_ne_zero.1 (Nat.two_pow_pos 23)
  unfold made
  simp only [Datum.quotient]
  rw [if_neg hp]
  simp only [Format.write]
  rw [hlN, hD, show 25 + 23 - m.log2 = 48 - m.log2 by omega]
  obtain ⟨e1, e2⟩ := quo_exact (m := m) (more := 48 - m.log2) hN (by omega)
  rw [e1, e2]
  have hz : ((0 : Nat) != 0).toNat = 0 := rfl
  rw [hz, Nat.add_zero]
  have hR : 2 * (m <<< (48 - m.log2 - 23)) = m <<< (26 - m.log2) := by
    rw [Nat.shiftLeft_eq, Nat.shiftLeft_eq, show 26 - m.log2 = (48 - m.log2 - 23) + 1 by omega, Nat.pow_succ, Nat.mul_comm 2, Nat.mul_assoc]
  rw [hR, show i - 1 - ((48 - m.log2 : Nat) : Int) - 1 = (i - 24) - ((26 - m.log2 : Nat) : Int) by omega, nearest_shift]
theorem fop_mul (x y : Nat) : fop .mul .f32 x y = made ((single.read x).product (single.read y)) := by
  show (((single.read x).product (single.read y)).map single.write).getD (qnan .f32) = _
  unfold made
  cases (single.read x).product (single.read y) <;> rfl
theorem fop_quo (x y : Nat) : fop .quo .f32 x y = made ((single.read x).quotient (single.fractionBits + 2) (single.read y)) := by
  show (((single.read x).quotient (single.fractionBits + 2) (single.read y)).map single.write).getD (qnan .f32) = _
  unfold made
  cases (single.read x).quotient (single.fractionBits + 2) (single.read y) <;> rfl
theorem big_ne : (8388608 : Nat) ≠ 0 := by decide
theorem mul_quo (x : Nat) : fop .mul .f32 x 864026624 = fop .quo .f32 x 1266679808 := by
  have hfb : single.fractionBits + 2 = 25 := by decide +kernel
  rw [fop_mul, fop_quo, read_up, read_down, hfb]
  have hN : (8388608 : Nat) = 2 ^ 23 := by decide
  have hlN : Nat.log2 8388608 = 23 := by decide +kernel
  have hb := big_ne
  generalize (8388608 : Nat) = N at *
  cases hr : single.read x with
  | nan s t => simp only [Datum.product, Datum.quotient]
  | infinity s =>
    simp only [Datum.product, Datum.quotient]
    rw [if_neg hb]
  | number s m i =>
    have b := (read_single_bounds hr).1
    have hl : m.log2 ≤ 23 := by
      by_cases h0 : m = 0
      · subst h0; decide
      · have := (Nat.log2_lt h0).2 (show m < 2 ^ 24 by omega)
        omega
    rw [made_mul s i hN, made_quo s i hN hlN rfl hl]
end FloatKit
