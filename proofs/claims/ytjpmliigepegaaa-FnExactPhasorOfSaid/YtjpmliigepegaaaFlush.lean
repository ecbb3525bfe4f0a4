/- Contracts of FlushNumber, for every float32: a zero with its sign in place of a subnormal number. -/
import Derived.Test.YtjpmliigepegaaaBits
namespace FloatKit
open Ieee

/-- A zero is narrowed to the zero of its sign. -/
theorem nar_zero {s : Nat} {r : Nat} (hs : s < 2) (h : Nar (s * 9223372036854775808) r) : r = s * 2147483648 := by
  obtain ⟨_, h⟩ := h
  rcases (show s = 0 ∨ s = 1 by omega) with rfl | rfl
  · have e : double.read (0 * 9223372036854775808) = .number false 0 (-1074) := by decide
    rw [e] at h
    exact h (by decide)
  · have e : double.read (1 * 9223372036854775808) = .number true 0 (-1074) := by decide
    rw [e] at h
    exact h (by decide)
end FloatKit
namespace Go.Proofs.Ytjpmliigepegaaa
open Go.RowKit FloatKit

/-- A number, but a zero of its sign if it is subnormal. -/
def flush (b : Nat) : Nat := if b % 2147483648 < 8388608 then b / 2147483648 * 2147483648 else b



end Go.Proofs.Ytjpmliigepegaaa
