/- Sines on words: the part of a turn, the series, and their bounds. -/
import Derived.Test.YtjpmliigepegaaaFloatTenths
namespace FloatKit
open Ieee Go

theorem pow_split (a b c : Nat) (h : a = b + c) : (2 : Nat) ^ a = 2 ^ b * 2 ^ c := by rw [h, Nat.pow_add]
theorem cut_whole (neg : Bool) (n d : Nat) : Toward.zero.cut neg n d = n / 2 ^ d := by
  unfold Toward.cut
  simp only
  have hg : 1 <<< min d (n.log2 + 2) = 2 ^ min d (n.log2 + 2) := by rw [Nat.shiftLeft_eq, Nat.one_mul]
  rw [hg]
  generalize hG : min d (n.log2 + 2) = g
  show n / 2 ^ g + 0 = _
  rw [Nat.add_zero]
  by_cases hd : g = d
  · rw [hd]
  · have hgl : g = n.log2 + 2 := by omega
    have hlt : n < 2 ^ g := by
      have := @Nat.lt_log2_self n
      rw [hgl, Nat.pow_succ]; omega
    have hle : 2 ^ g ≤ 2 ^ d := Nat.pow_le_pow_right (by omega) (by omega)
    rw [Nat.div_eq_of_lt hlt, Nat.div_eq_of_lt (by omega)]

/-- A whole number below 2 to the power of 53 is a number of the format. -/
theorem rung_int (c : Nat) (hc : c < 9007199254740992) : ∃ R, R ≤ double.infRung ∧ rungVal double R = c * 2 ^ 1074 := by
  by_cases h0 : c = 0
  · exact ⟨0, Nat.zero_le _, by obtain ⟨K, hK⟩ : ∃ K, K = 1074 := ⟨_, rfl⟩; rw [← hK, rungVal_zero, h0, Nat.zero_mul]⟩
  have hL1 : 2 ^ c.log2 ≤ c := Nat.log2_self_le h0
  have hL2 : c < 2 ^ (c.log2 + 1) := @Nat.lt_log2_self c
  have hL : c.log2 ≤ 52 := by
    have h53 : c.log2 < 53 := (Nat.log2_lt h0).2 (by omega)
    omega
  generalize c.log2 = L at *
  have hM1 : 4503599627370496 ≤ c * 2 ^ (52 - L) := by
    have : 2 ^ L * 2 ^ (52 - L) ≤ c * 2 ^ (52 - L) := Nat.mul_le_mul_right _ hL1
    rw [← Nat.pow_add, show L + (52 - L) = 52 by omega] at this
    exact this
  have hM2 : c * 2 ^ (52 - L) < 9007199254740992 := by
    have : c * 2 ^ (52 - L) < 2 ^ (L + 1) * 2 ^ (52 - L) := Nat.mul_lt_mul_of_pos_right hL2 (Nat.two_pow_pos _)
    rw [← Nat.pow_add, show L + 1 + (52 - L) = 53 by omega] at this
    exact this
  have hE : c * 2 ^ (52 - L) * 2 ^ (1022 + L) = c * 2 ^ 1074 := by
    rw [Nat.mul_assoc, ← Nat.pow_add, show 52 - L + (1022 + L) = 1074 by omega]
  refine ⟨(1023 + L) * 4503599627370496 + (c * 2 ^ (52 - L) - 4503599627370496), ?_, ?_⟩
  · have : double.infRung = 2047 * 4503599627370496 := by decide
    rw [this]
    generalize c * 2 ^ (52 - L) = M at *
    omega
  · unfold rungVal
    rw [double_bin]
    generalize c * 2 ^ (52 - L) = M at *
    rw [if_neg (by omega), show ((1023 + L) * 4503599627370496 + (M - 4503599627370496)) % 4503599627370496 = M - 4503599627370496 by omega,
      show ((1023 + L) * 4503599627370496 + (M - 4503599627370496)) / 4503599627370496 = 1023 + L by omega, Nat.shiftLeft_eq, show 4503599627370496 + (M - 4503599627370496) = M by omega,
      show 1023 + L - 1 = 1022 + L by omega]
    exact hE
theorem int_nearest (n : Int) : floatOfInt .f64 n = double.nearest (decide (n < 0)) n.natAbs 0 := rfl
theorem int_mag (n : Int) (h : n.natAbs < 9007199254740992) : isNaN double (floatOfInt .f64 n) = false ∧ mag (floatOfInt .f64 n) = n.natAbs * 2 ^ 1074 ∧ (floatOfInt .f64 n / 9223372036854775808 % 2 == 1) = decide (n < 0) := by
  obtain ⟨R, hR, hv⟩ := rung_int n.natAbs h
  rw [int_nearest]
  have h1 := nearest_le double (decide (n < 0)) n.natAbs 0 R hR (-1074) (by omega) (by rw [double_lp]; omega) (by
    rw [hv, double_lp, show ((0 : Int) - -1074).toNat = 1074 by decide, show ((-1074 : Int) - -1074).toNat = 0 by decide, Nat.pow_zero, Nat.mul_one]; exact Nat.le_refl _)
  have h2 := nearest_ge double (decide (n < 0)) n.natAbs 0 R hR (-1074) (by omega) (by rw [double_lp]; omega) (by
    rw [hv, double_lp, show ((0 : Int) - -1074).toNat = 1074 by decide, show ((-1074 : Int) - -1074).toNat = 0 by decide, Nat.pow_zero, Nat.mul_one]; exact Nat.le_refl _)
  have h3 := nearest_div double (decide (n < 0)) n.natAbs 0
  rw [double_sw] at h1 h2 h3
  refine ⟨?_, ?_, ?_⟩
  · rw [nan_above double_hb, double_sw]
    exact decide_eq_false (by omega)
  · unfold mag
    rw [show double.nearest (decide (n < 0)) n.natAbs 0 % 9223372036854775808 = R by omega]
    exact hv
  · rw [h3]
    cases decide (n < 0) <;> rfl

theorem natAbs_diff (s : Bool) (m u k v : Nat) : (signed s m u + signed (!s) k v).natAbs = (((m * 2 ^ u : Nat) : Int) - ((k * 2 ^ v : Nat) : Int)).natAbs := by
  unfold signed
  rw [Nat.shiftLeft_eq, Nat.shiftLeft_eq]
  cases s
  · simp only [Bool.false_eq_true, if_false, Bool.not_false, if_true]
    congr 1
  · simp only [if_true, Bool.not_true, Bool.false_eq_true, if_false]
    rw [← Int.natAbs_neg]
    congr 1
    omega
/-- What a number is more than its whole part is no more than one. -/
theorem part_sub {y : Nat} (hy : Mag 1126 y) : ∃ r, floatBits .sub .f64 y (floatOfInt .f64 (intC y)) = some r ∧ Mag 1074 r := by
  obtain ⟨s, m, i, hr1, h1, h2⟩ := hy.read (by omega)
  have hi : intC y = signed s ((m <<< i.toNat) / 2 ^ (-i).toNat) 0 := by
    unfold intC
    rw [hr1]
    show (some (signed s (Toward.zero.cut s (m <<< i.toNat) (-i).toNat) 0)).getD 0 = _
    rw [cut_whole]; rfl
  rw [Nat.shiftLeft_eq] at hi
  -- the whole part, held against the number
  have hc : (m * 2 ^ i.toNat / 2 ^ (-i).toNat) * 2 ^ 1074 ≤ m * 2 ^ (i + 1074).toNat ∧ m * 2 ^ (i + 1074).toNat < (m * 2 ^ i.toNat / 2 ^ (-i).toNat + 1) * 2 ^ 1074 := by
    by_cases h0 : 0 ≤ i
    · rw [show (-i).toNat = 0 by omega, Nat.pow_zero, Nat.div_one, show (i + 1074).toNat = i.toNat + 1074 by omega, Nat.pow_add, ← Nat.mul_assoc]
      have hC : 0 < (2 : Nat) ^ 1074 := by
        obtain ⟨K, hK⟩ : ∃ K, K = 1074 := ⟨_, rfl⟩
        rw [← hK]; exact Nat.two_pow_pos K
      generalize (2 : Nat) ^ 1074 = C at *
      generalize m * 2 ^ i.toNat = Z at *
      exact ⟨Nat.le_refl _, Nat.mul_lt_mul_of_pos_right (Nat.lt_succ_self Z) hC⟩
    · rw [show i.toNat = 0 by omega, Nat.pow_zero, Nat.mul_one]
      have e : (2 : Nat) ^ 1074 = 2 ^ (-i).toNat * 2 ^ (i + 1074).toNat := by rw [← Nat.pow_add]; congr 1; omega
      rw [e, ← Nat.mul_assoc, ← Nat.mul_assoc]
      have hdm := Nat.div_add_mod m (2 ^ (-i).toNat)
      have hml := Nat.mod_lt m (Nat.two_pow_pos (-i).toNat)
      rw [Nat.mul_comm] at hdm
      refine ⟨Nat.mul_le_mul_right _ (by omega), Nat.mul_lt_mul_of_pos_right ?_ (Nat.two_pow_pos _)⟩
      rw [Nat.add_mul, Nat.one_mul]; omega
  generalize hcc : m * 2 ^ i.toNat / 2 ^ (-i).toNat = c at *
  have hab : (intC y).natAbs = c := by rw [hi, natAbs_signed, Nat.pow_zero, Nat.mul_one]
  have hsm : c < 9007199254740992 := by
    have h3 : c * 2 ^ 1074 ≤ 2 ^ 1126 := Nat.le_trans hc.1 h1
    have h4 := pow_split 1126 52 1074 (by omega)
    rw [h4] at h3
    have h5 : ∀ K : Nat, c * 2 ^ K ≤ 2 ^ 52 * 2 ^ K → c ≤ 2 ^ 52 := fun K h => Nat.le_of_mul_le_mul_right h (Nat.two_pow_pos K)
    have := h5 1074 h3
    omega
  obtain ⟨n1, n2, n3⟩ := int_mag (intC y) (by rw [hab]; exact hsm)
  rw [hab] at n2
  have hF : Mag 1127 (floatOfInt .f64 (intC y)) := ⟨n1, by
    rw [n2]
    have h4 := pow_split 1127 53 1074 (by omega)
    rw [h4]
    have h5 : ∀ K : Nat, c ≤ 2 ^ 53 → c * 2 ^ K ≤ 2 ^ 53 * 2 ^ K := fun K h => Nat.mul_le_mul_right (2 ^ K) h
    exact h5 1074 (by omega)⟩
  obtain ⟨t, k, j, hr2, _, h4⟩ := hF.read (by omega)
  obtain ⟨g1, _, g3⟩ := mag_read hr2
  rw [n2] at g1
  rw [n3] at g3
  refine ⟨_, show ((double.read y).sum (double.read (floatOfInt .f64 (intC y))).opposite).map double.write = some _ by rw [hr1, hr2]; rfl, ?_⟩
  generalize hb : min i j = base
  refine Mag.write _ _ base (-1074) 1074 (by omega) (by omega) (by omega) (by omega) ?_
  rw [show (-1074 - -1074 : Int).toNat = 0 by decide, Nat.add_zero]
  have a1 : m * 2 ^ (i + 1074).toNat = m * 2 ^ (i - base).toNat * 2 ^ (base - -1074).toNat := by
    rw [Nat.mul_assoc, ← Nat.pow_add]; congr 2; omega
  have a2 : k * 2 ^ (j + 1074).toNat = k * 2 ^ (j - base).toNat * 2 ^ (base - -1074).toNat := by
    rw [Nat.mul_assoc, ← Nat.pow_add]; congr 2; omega
  have key : (signed s m (i - base).toNat + signed (!t) k (j - base).toNat).natAbs * 2 ^ (base - -1074).toNat = m * 2 ^ (i + 1074).toNat - c * 2 ^ 1074 := by
    have hdif : (signed s m (i - base).toNat + signed (!t) k (j - base).toNat).natAbs = (((m * 2 ^ (i - base).toNat : Nat) : Int) - ((k * 2 ^ (j - base).toNat : Nat) : Int)).natAbs := by
      by_cases hst : t = s
      · rw [hst]; exact natAbs_diff s m _ k _
      · -- the whole part is zero
        have hc0 : c = 0 := by
          rcases Nat.eq_zero_or_pos c with h | h
          · exact h
          · exfalso
            apply hst
            rw [← g3, hi]
            unfold signed
            rw [Nat.shiftLeft_zero]
            cases s
            · simp only [Bool.false_eq_true, if_false]; exact decide_eq_false (by omega)
            · simp only [if_true]; exact decide_eq_true (by omega)
        have hz0 : ∀ K : Nat, 0 * 2 ^ K = 0 := fun K => Nat.zero_mul _
        rw [hc0, hz0 1074] at g1
        have hk0 : k = 0 := by
          rcases Nat.mul_eq_zero.1 g1 with h | h
          · exact h
          · exact absurd h (Nat.ne_of_gt (Nat.two_pow_pos _))
        rw [hk0]
        have hz : signed (!t) 0 (j - base).toNat = 0 := by unfold signed; rw [Nat.zero_shiftLeft]; cases t <;> rfl
        rw [hz, Int.add_zero, natAbs_signed, Nat.zero_mul]
        generalize m * 2 ^ (i - base).toNat = Z
        omega
    rw [hdif]
    have e2 : (((m * 2 ^ (i - base).toNat : Nat) : Int) - ((k * 2 ^ (j - base).toNat : Nat) : Int)).natAbs * 2 ^ (base - -1074).toNat = (((m * 2 ^ (i + 1074).toNat : Nat) : Int) - ((k * 2 ^ (j + 1074).toNat : Nat) : Int)).natAbs := by
      rw [a1, a2, Int.natCast_mul (m * 2 ^ (i - base).toNat), Int.natCast_mul (k * 2 ^ (j - base).toNat), ← Int.sub_mul, Int.natAbs_mul, Int.natAbs_natCast]
    rw [e2, g1]
    have := hc.1
    generalize m * 2 ^ (i + 1074).toNat = A at *
    generalize c * 2 ^ 1074 = B at *
    omega
  rw [key]
  have := hc.2
  have ha1 : ∀ K : Nat, (c + 1) * 2 ^ K = c * 2 ^ K + 2 ^ K := fun K => by rw [Nat.add_mul, Nat.one_mul]
  rw [ha1 1074] at this
  generalize m * 2 ^ (i + 1074).toNat = A at *
  generalize c * 2 ^ 1074 = B at *
  generalize (2 : Nat) ^ 1074 = C at *
  omega

def halfW : Nat := 4602678819172646912
def quartW : Nat := 4598175219545276416
def circleW : Nat := 4618760256179416344
/-- The part of a turn. -/
def partC (y : Nat) : Nat := if (double.order (fop .sub .f64 y (floatOfInt .f64 (intC y))) 0 == some .lt) then fop .add .f64 (fop .sub .f64 y (floatOfInt .f64 (intC y))) one else fop .sub .f64 y (floatOfInt .f64 (intC y))
/-- The series of a sine, from its last term on. -/
def serS (u : Nat) : Nat → Nat
  | 0 => one
  | j + 1 => fop .sub .f64 one (fop .quo .f64 (fop .mul .f64 u (serS u j)) (floatOfInt .f64 (2 * ((8 - j : Nat) : Int) * (2 * ((8 - j : Nat) : Int) + 1))))
def sideC (below : Bool) (f : Nat) : Nat := if below then fop .sub .f64 f halfW else f
def foldC (over : Bool) (f : Nat) : Nat := if over then fop .sub .f64 halfW f else f
def waveC (below over : Bool) (f : Nat) : Nat :=
  let z := fop .mul .f64 (foldC over (sideC below f)) circleW
  let s := fop .mul .f64 z (serS (fop .mul .f64 z z) 8)
  if below then negC s else s
theorem partC_mag {y : Nat} (hy : Mag 1126 y) : Mag 1075 (partC y) := by
  have h := fop_of (p := Mag 1074) (part_sub hy)
  unfold partC
  split
  · exact fop_of (p := Mag 1075) (h.add (Mag.const (k := 1074) (by omega) (by omega) (by decide)) (by omega) (by omega))
  · exact h.mono (by omega)
theorem den_least (j : Nat) (hj : j < 8) : Least 1076 (floatOfInt .f64 (2 * ((8 - j : Nat) : Int) * (2 * ((8 - j : Nat) : Int) + 1))) ∧ Mag 2097 (floatOfInt .f64 (2 * ((8 - j : Nat) : Int) * (2 * ((8 - j : Nat) : Int) + 1))) := by
  have hsm : ∀ j, j < 8 → floatOfInt .f64 (2 * ((8 - j : Nat) : Int) * (2 * ((8 - j : Nat) : Int) + 1)) ≤ 4652218415073722368 ∧ (1076 - 51) * 4503599627370496 ≤ floatOfInt .f64 (2 * ((8 - j : Nat) : Int) * (2 * ((8 - j : Nat) : Int) + 1)) := by decide +kernel
  obtain ⟨h1, h2⟩ := hsm j hj
  exact ⟨Least.const (by omega) (by omega) h2, Mag.const (by omega) (by omega) (by omega)⟩
theorem serS_mag {u : Nat} (hu : Mag 1090 u) : ∀ j, j ≤ 8 → Mag (1074 + 15 * j) (serS u j)
  | 0, _ => Mag.const (by omega) (by omega) (by show one ≤ (1074 + 15 * 0 - 51) * 4503599627370496; decide)
  | j + 1, h => by
    have ih := serS_mag hu j (by omega)
    obtain ⟨hl, hm⟩ := den_least j (by omega)
    have h1 : Mag (1090 + 15 * j) (fop .mul .f64 u (serS u j)) := fop_of (p := Mag _) (hu.mul ih (by omega) (by omega) (by omega) (by omega) (by omega))
    have h2 : Mag (1088 + 15 * j) (fop .quo .f64 (fop .mul .f64 u (serS u j)) (floatOfInt .f64 (2 * ((8 - j : Nat) : Int) * (2 * ((8 - j : Nat) : Int) + 1)))) := fop_of (p := Mag _) (h1.div hl hm (by omega) (by omega) (by omega) (by omega))
    have h3 : Mag (1088 + 15 * j + 1) (serS u (j + 1)) := fop_of (p := Mag _) ((Mag.const (k := 1088 + 15 * j) (x := one) (by omega) (by omega) (by have : one = 4607182418800017408 := rfl; omega)).sub h2 (by omega) (by omega))
    exact h3.mono (by omega)
theorem waveC_mag {f : Nat} (h : Mag 1075 f) (below over : Bool) : Mag 1201 (waveC below over f) := by
  have hH : ∀ k, 1074 ≤ k → k ≤ 2000 → Mag k halfW := fun k h1 h2 => Mag.const (by omega) (by omega) (by have : halfW = 4602678819172646912 := rfl; omega)
  have h1 : Mag 1076 (sideC below f) := by
    unfold sideC
    split
    · exact fop_of (p := Mag 1076) (h.sub (hH 1075 (by omega) (by omega)) (by omega) (by omega))
    · exact h.mono (by omega)
  have h2 : Mag 1077 (foldC over (sideC below f)) := by
    unfold foldC
    split
    · exact fop_of (p := Mag 1077) ((hH 1076 (by omega) (by omega)).sub h1 (by omega) (by omega))
    · exact h1.mono (by omega)
  have h3 : Mag 1080 (fop .mul .f64 (foldC over (sideC below f)) circleW) := fop_of (p := Mag 1080) (h2.mul (Mag.const (k := 1077) (x := circleW) (by omega) (by omega) (by decide)) (by omega) (by omega) (by omega) (by omega) (by omega))
  unfold waveC
  simp only
  generalize fop .mul .f64 (foldC over (sideC below f)) circleW = z at *
  have h4 : Mag 1086 (fop .mul .f64 z z) := fop_of (p := Mag 1086) (h3.mul h3 (by omega) (by omega) (by omega) (by omega) (by omega))
  have h5 := serS_mag (h4.mono (by omega)) 8 (by omega)
  have h6 : Mag 1201 (fop .mul .f64 z (serS (fop .mul .f64 z z) 8)) := fop_of (p := Mag 1201) (h3.mul h5 (by omega) (by omega) (by omega) (by omega) (by omega))
  split
  · exact negC_mag h6
  · exact h6
end FloatKit
