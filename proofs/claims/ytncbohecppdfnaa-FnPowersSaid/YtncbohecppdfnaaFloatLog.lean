/- The logarithm's own function on words, and its magnitude. -/
import Derived.Test.YtncbohecppdfnaaFloatAngle
namespace FloatKit
open Ieee Go

/-- 2, as a word. -/
def two : Nat := 4611686018427387904
theorem read_two : double.read two = .number false 4503599627370496 (-51) := by decide

/-- A normal number without a sign, one binade lower. -/
theorem half_exact {y : Nat} (h1 : 9007199254740992 ≤ y) (h2 : y < 9218868437227405312) : floatBits .quo .f64 y two = some (y - 4503599627370496) := by
  have hr : ∀ z, 4503599627370496 ≤ z → z < 9218868437227405312 → double.read z = .number false (4503599627370496 + z % 4503599627370496) (-1074 + ((z / 4503599627370496 - 1 : Nat) : Int)) := by
    intro z g1 g2
    have e1 : z / 9223372036854775808 = 0 := Nat.div_eq_of_lt (by omega)
    have e2 : z % 9223372036854775808 = z := Nat.mod_eq_of_lt (by omega)
    unfold Format.read
    simp only [double_sw, double_bin, double_inf, double_lp, e1, e2]
    rw [if_neg (by omega), if_pos g2]
    rfl
  have hy := hr y (by omega) h2
  have hz := hr (y - 4503599627370496) (by omega) (by omega)
  have hmod : (y - 4503599627370496) % 4503599627370496 = y % 4503599627370496 := by omega
  have hdiv : (y - 4503599627370496) / 4503599627370496 = y / 4503599627370496 - 1 := by omega
  have hml : y % 4503599627370496 < 4503599627370496 := Nat.mod_lt _ (by omega)
  generalize hM : 4503599627370496 + y % 4503599627370496 = M at *
  have hlog : M.log2 = 52 := (Nat.log2_eq_iff (by omega)).2 ⟨by omega, by omega⟩
  have hlog2 : (4503599627370496 : Nat).log2 = 52 := by decide
  show ((double.read y).quotient 54 (double.read two)).map double.write = _
  rw [hy, read_two]
  have hq : (Datum.number false M (-1074 + ((y / 4503599627370496 - 1 : Nat) : Int))).quotient 54 (.number false 4503599627370496 (-51)) =
      some (.number false (M <<< 3) ((-1074 + ((y / 4503599627370496 - 1 : Nat) : Int)) - 4)) := by
    simp only [Datum.quotient, show (4503599627370496 : Nat) ≠ 0 by decide, if_false, hlog, hlog2]
    have e54 : 54 + 52 - 52 = 54 := rfl
    rw [e54, Nat.shiftLeft_eq, Nat.shiftLeft_eq]
    have d1 : M * 2 ^ 54 / 4503599627370496 = M * 4 := by
      rw [show (2 : Nat) ^ 54 = 4 * 4503599627370496 by decide, ← Nat.mul_assoc, Nat.mul_div_cancel _ (by omega)]
    have d2 : M * 2 ^ 54 % 4503599627370496 = 0 := by
      rw [show (2 : Nat) ^ 54 = 4 * 4503599627370496 by decide, ← Nat.mul_assoc, Nat.mul_mod_left]
    rw [d1, d2]
    have e8 : 2 * (M * 4) + (0 != 0).toNat = M * 2 ^ 3 := by
      have : ((0 : Nat) != 0).toNat = 0 := by decide
      rw [this]; omega
    rw [e8]
    have ep : ∀ i : Int, i - -51 - ((54 : Nat) : Int) - 1 = i - 4 := by intro i; omega
    rw [ep]
    rfl
  rw [hq]
  show some (double.nearest false (M <<< 3) _) = _
  refine congrArg some ?_
  have hsh := nearest_shift double false M 3 ((-1074 + ((y / 4503599627370496 - 1 : Nat) : Int)) - 1)
  rw [show ((-1074 + ((y / 4503599627370496 - 1 : Nat) : Int)) - 1) - ((3 : Nat) : Int) = (-1074 + ((y / 4503599627370496 - 1 : Nat) : Int)) - 4 by omega] at hsh
  rw [hsh]
  have hwr := write_read double double_hb (y - 4503599627370496) (by show _ < 2 ^ 64; omega) (by unfold isNaN; rw [hz]; rfl)
  rw [hz, hmod, hM, hdiv] at hwr
  rw [← hwr]
  have ee : (-1074 + ((y / 4503599627370496 - 1 : Nat) : Int)) - 1 = -1074 + ((y / 4503599627370496 - 1 - 1 : Nat) : Int) := by
    have : 2 ≤ y / 4503599627370496 := (Nat.le_div_iff_mul_le (by omega)).2 (by omega)
    omega
  rw [ee]
  rfl

/-- .. and one binade higher. -/
theorem double_exact {y : Nat} (h1 : 4503599627370496 ≤ y) (h2 : y < 9214364837600034816) : floatBits .mul .f64 y two = some (y + 4503599627370496) := by
  have hr : ∀ z, 4503599627370496 ≤ z → z < 9218868437227405312 → double.read z = .number false (4503599627370496 + z % 4503599627370496) (-1074 + ((z / 4503599627370496 - 1 : Nat) : Int)) := by
    intro z g1 g2
    have e1 : z / 9223372036854775808 = 0 := Nat.div_eq_of_lt (by omega)
    have e2 : z % 9223372036854775808 = z := Nat.mod_eq_of_lt (by omega)
    unfold Format.read
    simp only [double_sw, double_bin, double_inf, double_lp, e1, e2]
    rw [if_neg (by omega), if_pos g2]
    rfl
  have hy := hr y h1 (by omega)
  have hz := hr (y + 4503599627370496) (by omega) (by omega)
  have hmod : (y + 4503599627370496) % 4503599627370496 = y % 4503599627370496 := by omega
  have hdiv : (y + 4503599627370496) / 4503599627370496 = y / 4503599627370496 + 1 := by omega
  generalize hM : 4503599627370496 + y % 4503599627370496 = M at *
  show ((double.read y).product (double.read two)).map double.write = _
  rw [hy, read_two]
  show some (double.nearest false (M * 4503599627370496) (-1074 + ((y / 4503599627370496 - 1 : Nat) : Int) + -51)) = _
  refine congrArg some ?_
  have hsh := nearest_shift double false M 52 (-1074 + ((y / 4503599627370496 - 1 : Nat) : Int) + 1)
  rw [show -1074 + ((y / 4503599627370496 - 1 : Nat) : Int) + 1 - ((52 : Nat) : Int) = -1074 + ((y / 4503599627370496 - 1 : Nat) : Int) + -51 by omega, Nat.shiftLeft_eq, show (2 : Nat) ^ 52 = 4503599627370496 by decide] at hsh
  rw [hsh]
  have hwr := write_read double double_hb (y + 4503599627370496) (by show _ < 2 ^ 64; omega) (by unfold isNaN; rw [hz]; rfl)
  rw [hz, hmod, hM, hdiv] at hwr
  rw [← hwr]
  have ee : -1074 + ((y / 4503599627370496 - 1 : Nat) : Int) + 1 = -1074 + ((y / 4503599627370496 + 1 - 1 : Nat) : Int) := by
    have : 1 ≤ y / 4503599627370496 := (Nat.le_div_iff_mul_le (by omega)).2 (by omega)
    omega
  rw [ee]
  rfl

/-- The series of the logarithm, j of its places. -/
def serC (u : Nat) : Nat → Nat
  | 0 => 0
  | j + 1 => fop .add .f64 (fop .quo .f64 one (floatOfInt .f64 ((25 - 2 * j : Nat) : Int))) (fop .mul .f64 u (serC u j))

theorem serInv_mag (j : Nat) (h : j < 13) : Mag 1074 (fop .quo .f64 one (floatOfInt .f64 ((25 - 2 * j : Nat) : Int))) := by
  have hc : ∀ k : Fin 13, fop .quo .f64 one (floatOfInt .f64 ((25 - 2 * k.val : Nat) : Int)) ≤ (1074 - 51) * 4503599627370496 := by decide +kernel
  exact Mag.const (by omega) (by omega) (hc ⟨j, h⟩)

theorem serC_mag {u : Nat} (hu : Mag 1078 u) : ∀ j, j ≤ 13 → Mag (1074 + 5 * j) (serC u j)
  | 0, _ => Mag.const (by omega) (by omega) (Nat.zero_le _)
  | j + 1, h => by
    have ih := serC_mag hu j (by omega)
    have h1 : Mag (1078 + 5 * j) (fop .mul .f64 u (serC u j)) := fop_of (p := Mag _) (hu.mul ih (by omega) (by omega) (by omega) (by omega) (by omega))
    have h2 := fop_of (p := Mag _) ((serInv_mag j (by omega)).mono (b := 1078 + 5 * j) (by omega) |>.add h1 (by omega) (by omega))
    exact h2.mono (by omega)

/-- The logarithm of x from 0.75 to 1.5, and of e doublings. -/
def logC (x : Nat) (e : Int) : Nat :=
  let s := fop .quo .f64 (fop .sub .f64 x one) (fop .add .f64 x one)
  fop .add .f64 (fop .mul .f64 two (fop .mul .f64 s (serC (fop .mul .f64 s s) 13))) (fop .mul .f64 (floatOfInt .f64 e) 4604418534313441775)

theorem logC_mag {x : Nat} {e : Int} (h1 : x < 4609434218613702656) (h2 : Mag 1090 (floatOfInt .f64 e)) : Mag 1146 (logC x e) := by
  have hx : Mag 1075 x := Mag.const (by omega) (by omega) (by omega)
  have ho : Mag 1075 one := Mag.const (by omega) (by omega) (by decide)
  have hl : Least 1074 one := Least.const (by omega) (by decide) (by decide)
  have hon : NonNeg one := by unfold NonNeg; decide
  have hxn : NonNeg x := by
    unfold NonNeg
    rw [Nat.div_eq_of_lt (by omega)]; rfl
  have hs : Mag 1076 (fop .sub .f64 x one) := fop_of (p := Mag _) (hx.sub ho (by omega) (by omega))
  have comm : floatBits .add .f64 x one = floatBits .add .f64 one x := by
    show ((double.read x).sum (double.read one)).map double.write = ((double.read one).sum (double.read x)).map double.write
    obtain ⟨s, m, i, hr1, _, _⟩ := hx.read (by omega)
    obtain ⟨t, n, j, hr2, _, _⟩ := ho.read (by omega)
    rw [hr1, hr2]
    simp only [Datum.sum]
    rw [Int.min_comm i j, Int.add_comm, Bool.and_comm]
  have hd : Mag 1076 (fop .add .f64 x one) ∧ NonNeg (fop .add .f64 x one) ∧ Least 1074 (fop .add .f64 x one) := by
    refine fop_of (p := fun r => Mag 1076 r ∧ NonNeg r ∧ Least 1074 r) ?_
    rw [comm]
    exact add_least ho hx (by omega) (by omega) hon hxn hl (by omega) (by omega)
  unfold logC
  simp only
  have hq : Mag 1076 (fop .quo .f64 (fop .sub .f64 x one) (fop .add .f64 x one)) := fop_of (p := Mag _) (hs.div hd.2.2 (hd.1.mono (by omega)) (by omega) (by omega) (by omega) (by omega))
  generalize fop .quo .f64 (fop .sub .f64 x one) (fop .add .f64 x one) = s at *
  have hu : Mag 1078 (fop .mul .f64 s s) := fop_of (p := Mag _) (hq.mul hq (by omega) (by omega) (by omega) (by omega) (by omega))
  have hp := serC_mag hu 13 (by omega)
  have a1 : Mag 1141 (fop .mul .f64 s (serC (fop .mul .f64 s s) 13)) := fop_of (p := Mag _) (hq.mul hp (by omega) (by omega) (by omega) (by omega) (by omega))
  have a2 : Mag 1145 (fop .mul .f64 two (fop .mul .f64 s (serC (fop .mul .f64 s s) 13))) := (fop_of (p := Mag 1142) ((Mag.const (k := 1075) (x := two) (by omega) (by omega) (by decide)).mul a1 (by omega) (by omega) (by omega) (by omega) (by omega))).mono (by omega)
  have a3 : Mag 1145 (fop .mul .f64 (floatOfInt .f64 e) 4604418534313441775) := (fop_of (p := Mag 1090) (h2.mul (Mag.const (k := 1074) (by omega) (by omega) (by decide)) (by omega) (by omega) (by omega) (by omega) (by omega))).mono (by omega)
  exact fop_of (p := Mag 1146) (a2.add a3 (by omega) (by omega))
end FloatKit
