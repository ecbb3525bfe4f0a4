/- Making a number whole, and the bound of TenthsOf's sum, on words. -/
import Derived.Test.YtjpmliigepegaaaFloatLog
namespace FloatKit
open Ieee Go

/-- However a number is made whole, no whole number is passed. -/
theorem cut_le_any (way : Toward) (neg : Bool) (n d N : Nat) (h : n ≤ N * 2 ^ d) : way.cut neg n d ≤ N := by
  unfold Toward.cut
  simp only
  have hg : 1 <<< min d (n.log2 + 2) = 2 ^ min d (n.log2 + 2) := by rw [Nat.shiftLeft_eq, Nat.one_mul]
  rw [hg]
  generalize hG : min d (n.log2 + 2) = g
  have hp : 0 < 2 ^ g := Nat.two_pow_pos g
  have hdm := Nat.div_add_mod n (2 ^ g)
  have hml : n % 2 ^ g < 2 ^ g := Nat.mod_lt _ hp
  have hb : ∀ b : Bool, b.toNat ≤ 1 := by intro b; cases b <;> simp
  by_cases hr : n % 2 ^ g = 0
  · -- nothing is left over
    have hq : n / 2 ^ g ≤ N := by
      by_cases hd : g = d
      · subst hd
        have : 2 ^ g * (n / 2 ^ g) ≤ N * 2 ^ g := by omega
        rw [Nat.mul_comm] at this
        exact Nat.le_of_mul_le_mul_right this hp
      · have hgl : g = n.log2 + 2 := by omega
        have : n < 2 ^ g := by
          have := @Nat.lt_log2_self n
          rw [hgl, Nat.pow_succ]; omega
        rw [Nat.div_eq_of_lt this]; exact Nat.zero_le _
    rw [hr]
    have hpe : (2 ^ g == 2 * 0) = false := by rw [beq_eq_false_iff_ne]; omega
    cases way <;> simp [hpe] <;> exact hq
  · have hq : n / 2 ^ g + 1 ≤ N := by
      by_cases hd : g = d
      · subst hd
        have h3 : 2 ^ g * (n / 2 ^ g) < N * 2 ^ g := by omega
        rw [Nat.mul_comm] at h3
        exact Nat.lt_of_mul_lt_mul_right h3
      · have hgl : g = n.log2 + 2 := by omega
        have hlt : n < 2 ^ g := by
          have := @Nat.lt_log2_self n
          rw [hgl, Nat.pow_succ]; omega
        rw [Nat.div_eq_of_lt hlt]
        rcases Nat.eq_zero_or_pos N with h0 | h0
        · rw [h0, Nat.zero_mul] at h
          have : n = 0 := by omega
          rw [this, Nat.zero_mod] at hr
          exact absurd rfl hr
        · omega
    exact Nat.le_trans (Nat.add_le_add_left (hb _) _) hq

/-- A number made whole has a magnitude of no more than a whole bound. -/
theorem integral_le {k x : Nat} (way : Toward) (hx : Mag (1074 + k) x) (hk : k ≤ 1000) : ∃ s c, (double.read x).integral way = .number s c 0 ∧ c ≤ 2 ^ k := by
  obtain ⟨s, m, e, hr, h1, h2⟩ := hx.read (by omega)
  refine ⟨s, _, by rw [hr]; rfl, ?_⟩
  refine cut_le_any way s _ _ (2 ^ k) ?_
  rw [Nat.shiftLeft_eq, ← Nat.pow_add]
  by_cases he : 0 ≤ e
  · rw [show (-e).toNat = 0 by omega, Nat.add_zero]
    obtain ⟨K, hK⟩ : ∃ K, K = 1074 := ⟨_, rfl⟩
    rw [show (e + 1074).toNat = e.toNat + K by omega, show 1074 + k = k + K by omega, Nat.pow_add, Nat.pow_add, ← Nat.mul_assoc] at h1
    exact Nat.le_of_mul_le_mul_right h1 (Nat.two_pow_pos _)
  · rw [show e.toNat = 0 by omega, Nat.pow_zero, Nat.mul_one]
    have : m * 2 ^ (e + 1074).toNat ≤ 2 ^ (k + (-e).toNat) * 2 ^ (e + 1074).toNat := by
      rw [← Nat.pow_add, show k + (-e).toNat + (e + 1074).toNat = 1074 + k by omega]; exact h1
    exact Nat.le_of_mul_le_mul_right this (Nat.two_pow_pos _)

def floorC (x : Nat) : Nat := double.write ((double.read x).integral .down)
def intC (x : Nat) : Int := ((double.read x).toInt .zero).getD 0

theorem floorC_mag {k x : Nat} (hx : Mag (1074 + k) x) (hk : k ≤ 1000) : Mag (1074 + k) (floorC x) := by
  obtain ⟨s, c, hi, hc⟩ := integral_le .down hx hk
  unfold floorC
  rw [hi]
  refine Mag.write s c 0 (-1074) (1074 + k) (by omega) (by omega) (by omega) (by omega) ?_
  rw [show ((0 : Int) - -1074).toNat = 1074 by decide, show (-1074 - -1074 : Int).toNat = 0 by decide, Nat.add_zero, Nat.add_comm, Nat.pow_add]
  exact Nat.mul_le_mul_right _ hc

theorem intC_le {k x : Nat} (hx : Mag (1074 + k) x) (hk : k ≤ 62) : (double.read x).toInt .zero = some (intC x) ∧ (intC x).natAbs ≤ 4611686018427387904 := by
  obtain ⟨s, c, hi, hc⟩ := integral_le .zero hx (by omega)
  have h : (double.read x).toInt .zero = some (signed s c 0) := by unfold Datum.toInt; rw [hi]
  unfold intC
  rw [h]
  refine ⟨rfl, ?_⟩
  show (signed s c 0).natAbs ≤ _
  rw [natAbs_signed, Nat.pow_zero, Nat.mul_one]
  refine Nat.le_trans hc ?_
  have : 2 ^ k ≤ 2 ^ 62 := Nat.pow_le_pow_right (by omega) hk
  exact this

theorem sub_one_mag {x : Nat} (hx : Mag 1075 x) (hn : NonNeg x) : ∃ r, floatBits .sub .f64 x one = some r ∧ Mag 1074 r := by
  obtain ⟨s, m, i, hr1, h1, h2⟩ := hx.read (by omega)
  have hs : s = false := by rw [← (mag_read hr1).2.2]; exact hn
  subst hs
  have ho : double.read one = .number false 4503599627370496 (-52) := by decide
  refine ⟨_, show ((double.read x).sum (double.read one).opposite).map double.write = some _ by rw [hr1, ho]; rfl, ?_⟩
  generalize hb : min i (-52) = base
  refine Mag.write _ _ base (-1074) 1074 (by omega) (by omega) (by omega) (by omega) ?_
  rw [show (-1074 - -1074 : Int).toNat = 0 by decide, Nat.add_zero]
  have e1 : (signed false m (i - base).toNat + signed (!false) 4503599627370496 (-52 - base).toNat).natAbs * 2 ^ (base - -1074).toNat =
      (((m * 2 ^ (i + 1074).toNat : Nat) : Int) - ((2 ^ 1074 : Nat) : Int)).natAbs := by
    have a1 : m * 2 ^ (i + 1074).toNat = m * 2 ^ (i - base).toNat * 2 ^ (base - -1074).toNat := by
      rw [Nat.mul_assoc, ← Nat.pow_add]; congr 2; omega
    have a2 : (2 : Nat) ^ 1074 = 2 ^ 52 * 2 ^ (-52 - base).toNat * 2 ^ (base - -1074).toNat := by
      rw [← Nat.pow_add, ← Nat.pow_add]; congr 1; omega
    rw [a1, a2]
    have a3 : signed false m (i - base).toNat + signed (!false) 4503599627370496 (-52 - base).toNat = ((m * 2 ^ (i - base).toNat : Nat) : Int) - ((2 ^ 52 * 2 ^ (-52 - base).toNat : Nat) : Int) := by
      unfold signed
      simp only [Bool.false_eq_true, if_false, Bool.not_false, if_true, Nat.shiftLeft_eq]
      rw [show (4503599627370496 : Nat) = 2 ^ 52 by decide]
      omega
    rw [a3, Int.natCast_mul (m * 2 ^ (i - base).toNat), Int.natCast_mul (2 ^ 52 * 2 ^ (-52 - base).toNat), ← Int.sub_mul, Int.natAbs_mul, Int.natAbs_natCast]
  rw [e1]
  generalize hA : m * 2 ^ (i + 1074).toNat = A at *
  have hB : ∀ K L : Nat, L = K + 1 → (2 : Nat) ^ L = 2 * 2 ^ K := fun K L h => by rw [h, Nat.pow_succ, Nat.mul_comm]
  obtain ⟨L, hL⟩ : ∃ L, L = 1075 := ⟨_, rfl⟩
  rw [← hL, hB 1074 L (by omega)] at h1
  generalize (2 : Nat) ^ 1074 = B at *
  omega

theorem serC_small {u : Nat} (hu : Mag 1074 u) : ∀ j, j ≤ 13 → Mag (1074 + j) (serC u j)
  | 0, _ => Mag.const (by omega) (by omega) (Nat.zero_le _)
  | j + 1, h => by
    have ih := serC_small hu j (by omega)
    have h1 : Mag (1074 + j) (fop .mul .f64 u (serC u j)) := fop_of (p := Mag _) (hu.mul ih (by omega) (by omega) (by omega) (by omega) (by omega))
    exact fop_of (p := Mag _) ((serInv_mag j (by omega)).mono (b := 1074 + j) (by omega) |>.add h1 (by omega) (by omega))

theorem logC_small {x : Nat} {e : Int} (h1 : x < 4609434218613702656) (h2 : Mag 1090 (floatOfInt .f64 e)) : Mag 1091 (logC x e) := by
  have hx : Mag 1075 x := Mag.const (by omega) (by omega) (by omega)
  have ho : Mag 1075 one := Mag.const (by omega) (by omega) (by decide)
  have hl : Least 1074 one := Least.const (by omega) (by decide) (by decide)
  have hon : NonNeg one := by unfold NonNeg; decide
  have hxn : NonNeg x := by
    unfold NonNeg
    rw [Nat.div_eq_of_lt (by omega)]; rfl
  have hs : Mag 1074 (fop .sub .f64 x one) := fop_of (p := Mag _) (sub_one_mag hx hxn)
  have comm : floatBits .add .f64 x one = floatBits .add .f64 one x := by
    show ((double.read x).sum (double.read one)).map double.write = ((double.read one).sum (double.read x)).map double.write
    obtain ⟨s, m, i, hr1, _, _⟩ := hx.read (by omega)
    obtain ⟨t, n, j, hr2, _, _⟩ := ho.read (by omega)
    rw [hr1, hr2]
    simp only [Datum.sum]
    rw [Int.min_comm i j, Int.add_comm, Bool.and_comm]
  have hd : Mag 1076 (fop .add .f64 x one) ∧ NonNeg (fop .add .f64 x one) ∧ Least 1074 (fop .add .f64 x one) := by
    refine fop_of (p := fun r => Mag 1076 r ∧ NonNeg r ∧ Least 1074 r) ?_
    rw [comm]
    exact add_least ho hx (by omega) (by omega) hon hxn hl (by omega) (by omega)
  unfold logC
  simp only
  have hq : Mag 1074 (fop .quo .f64 (fop .sub .f64 x one) (fop .add .f64 x one)) := fop_of (p := Mag _) (hs.div hd.2.2 (hd.1.mono (by omega)) (by omega) (by omega) (by omega) (by omega))
  generalize fop .quo .f64 (fop .sub .f64 x one) (fop .add .f64 x one) = s at *
  have hu : Mag 1074 (fop .mul .f64 s s) := fop_of (p := Mag _) (hq.mul hq (by omega) (by omega) (by omega) (by omega) (by omega))
  have hp := serC_small hu 13 (by omega)
  have a1 : Mag 1087 (fop .mul .f64 s (serC (fop .mul .f64 s s) 13)) := fop_of (p := Mag _) (hq.mul hp (by omega) (by omega) (by omega) (by omega) (by omega))
  have a2 : Mag 1090 (fop .mul .f64 two (fop .mul .f64 s (serC (fop .mul .f64 s s) 13))) := (fop_of (p := Mag 1088) ((Mag.const (k := 1075) (x := two) (by omega) (by omega) (by decide)).mul a1 (by omega) (by omega) (by omega) (by omega) (by omega))).mono (by omega)
  have a3 : Mag 1090 (fop .mul .f64 (floatOfInt .f64 e) 4604418534313441775) := fop_of (p := Mag 1090) (h2.mul (Mag.const (k := 1074) (by omega) (by omega) (by decide)) (by omega) (by omega) (by omega) (by omega) (by omega))
  exact fop_of (p := Mag 1091) (a2.add a3 (by omega) (by omega))
end FloatKit
