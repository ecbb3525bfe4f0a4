/- Contracts of FlushNumber, for every float32: a zero with its sign in place of a subnormal number. -/
import Derived.Test.YtjiaghiefjnmoaaBits
namespace FloatKit
open Ieee

/-- A zero is narrowed to the zero of its sign. -/
theorem nar_zero {s : Nat} {r : Nat} (hs : s < 2) (h : Nar (s * 9223372036854775808) r) : r = s * 2147483648 := by
  obtain ⟨_, h⟩ := h
  rcases (show s = 0 ∨ s = 1 by omega) with rfl | rfl
  · have e : double.read (0 * 9223372036854775808) = .number false 0 (-1074) := by decide
    rw [e] at h
    exact h (by decide)
  · have e : double.read (1 * 9223372036854775808) = .number true 0 (-1074) := by decide
    rw [e] at h
    exact h (by decide)
end FloatKit
namespace Go.Proofs.Ytjiaghiefjnmoaa
open Go.RowKit FloatKit

/-- A number, but a zero of its sign if it is subnormal. -/
def flush (b : Nat) : Nat := if b % 2147483648 < 8388608 then b / 2147483648 * 2147483648 else b


theorem copysign_bits (s : Nat) (hs : s < 18446744073709551616) : bits .and .u64 (s : Int) 9223372036854775808 = ((s / 9223372036854775808 * 9223372036854775808 : Nat) : Int) := by
  have h := bits_and_u64_nat s 9223372036854775808 hs (by omega)
  have hm := nat_midmask 64 63 s (by decide)
  have hc : (2 ^ 64 - 2 ^ 63 : Nat) = 9223372036854775808 := by decide
  rw [hc] at hm
  rw [show ((9223372036854775808 : Nat) : Int) = 9223372036854775808 from rfl, hm] at h
  rw [h]
  omega
theorem or_zero_bits (z : Nat) (hz : z < 18446744073709551616) : bits .or .u64 0 (z : Int) = (z : Int) := by
  have h := bits_or_u64_nat 0 z (by omega) hz
  rw [Nat.zero_or] at h
  exact h

set_option maxHeartbeats 400000 in
/-- A zero with the sign of s. -/
theorem copysign_zero (s : Nat) (hs : s < 18446744073709551616) (w : World) : Calls Try.prog 36 #[.float .f64 0, .float .f64 s] w (Ret (.float .f64 (s / 9223372036854775808 * 9223372036854775808)) w) := by
  have h1 := copysign_bits s hs
  have h2 : bits .andNot .u64 0 9223372036854775808 = 0 := by decide
  have h3 := or_zero_bits (s / 9223372036854775808 * 9223372036854775808) (by omega)
  generalize hz : s / 9223372036854775808 * 9223372036854775808 = z at *
  clear hz hs
  go_enter Try.func36, Try.ntmps36
  go_wp2
  go_ret
  exact Ret.now _ _

end Go.Proofs.Ytjiaghiefjnmoaa
