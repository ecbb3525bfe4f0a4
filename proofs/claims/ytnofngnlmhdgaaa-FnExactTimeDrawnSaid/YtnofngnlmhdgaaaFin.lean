/- Facts on float32 that are finite, or equal up to not-a-numbers. No condition. -/
import Derived.Test.YtnofngnlmhdgaaaBits
import Derived.Test.YtnofngnlmhdgaaaFloatOrder
namespace Go.Proofs.Ytnofngnlmhdgaaa
open FloatKit

theorem nan_finite {x : Nat} (h : isNaN Ieee.single x = true) : finite Ieee.single x = false := by
  cases hf : finite Ieee.single x
  · rfl
  · rw [finite_nan hf] at h; cases h
theorem finite_eqv {x y : Nat} (h : Eqv Ieee.single x y) : finite Ieee.single x = finite Ieee.single y := by
  rcases h with h | ⟨h1, h2⟩
  · rw [h]
  · rw [nan_finite h1, nan_finite h2]
theorem word_of {x y : Nat} (h : Eqv Ieee.single x y) (hf : finite Ieee.single y = true) : x = y := h.eq (by first | exact finite_nan hf | (rw [h.nan]; exact finite_nan hf) | (rw [← h.nan]; exact finite_nan hf))
end Go.Proofs.Ytnofngnlmhdgaaa
