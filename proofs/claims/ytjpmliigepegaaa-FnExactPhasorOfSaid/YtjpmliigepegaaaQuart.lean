/- The points of the unit circle: the quarters of a turn that are taken off, the program's and the model's, alike. -/
import Derived.Test.YtjpmliigepegaaaSineBoth
import Derived.Laws.ComplexArith
namespace Go.Proofs.Ytjpmliigepegaaa
open Go.RowKit Go.Lst FloatKit

/-- So many quarters of a turn. -/
def quartR : Nat → Nat
  | 0 => 0 | 1 => 4598175219545276416 | 2 => 4602678819172646912 | 3 => 4604930618986332160 | 4 => 4607182418800017408 | 5 => 4608308318706860032 | 6 => 4609434218613702656 | 7 => 4610560118520545280 | _ => 4611686018427387904
theorem quartR_val : ∀ c, c < 9 → rungVal Ieee.double (quartR c) = c * 2 ^ 1072 := by decide +kernel
theorem quartR_inf : ∀ c, c < 9 → quartR c ≤ Ieee.double.infRung := by decide +kernel
theorem quart_const : isNaN Ieee.double quartW = false ∧ quartW / 9223372036854775808 % 2 = 0 ∧ quartW % 9223372036854775808 = quartW := by decide
/-- What is no less than a quarter has no sign, and a quarter of magnitude. -/
theorem quart_ge {x : Nat} (hn : isNaN Ieee.double x = false) (h : geC x quartW = true) : NonNeg x ∧ 2 ^ 1072 ≤ mag x := by
  obtain ⟨c1, c2, c3⟩ := quart_const
  have hq : sval Ieee.double quartW = (rungVal Ieee.double quartW : Int) := by
    unfold sval
    rw [double_sw, c2, c3]; rfl
  have hv : rungVal Ieee.double quartW = 1 * 2 ^ 1072 := quartR_val 1 (by omega)
  have e1 : Ieee.double.order x quartW = some (compare (sval Ieee.double x) (sval Ieee.double quartW)) := order_sval double_hb hn c1
  unfold geC at h
  rw [e1, test_ge, hq, hv] at h
  have h := of_decide_eq_true h
  obtain ⟨K, hK⟩ : ∃ K, K = 1072 := ⟨_, rfl⟩
  rw [← hK] at h ⊢
  have hp : 0 < 2 ^ K := Nat.two_pow_pos _
  generalize (2 : Nat) ^ K = B at *
  unfold sval at h
  rw [double_sw] at h
  unfold NonNeg mag
  cases hs : (x / 9223372036854775808 % 2 == 1)
  · rw [hs, if_neg (by simp)] at h
    exact ⟨rfl, by omega⟩
  · rw [hs, if_pos rfl] at h
    omega
/-- A quarter that is taken off leaves a quarter less. -/
theorem quart_sub {x c : Nat} (hx : Mag 1075 x) (hs : NonNeg x) (hl : 2 ^ 1072 ≤ mag x) (hc : mag x ≤ (c + 1) * 2 ^ 1072) (hc8 : c < 9) : ∃ r, floatBits .sub .f64 x quartW = some r ∧ (Mag 1075 r ∧ mag r ≤ c * 2 ^ 1072) := by
  obtain ⟨s, m, i, hr1, h1, h2⟩ := hx.read (by omega)
  have hs : s = false := by rw [← (mag_read hr1).2.2]; exact hs
  subst hs
  have hm := (mag_read hr1).1
  rw [← hm] at hc hl
  have ho : Ieee.double.read quartW = .number false 4503599627370496 (-54) := by decide
  refine ⟨_, show ((Ieee.double.read x).sum (Ieee.double.read quartW).opposite).map Ieee.double.write = some _ by rw [hr1, ho]; rfl, ?_⟩
  generalize hb : min i (-54) = base
  have e1 : (Ieee.signed false m (i - base).toNat + Ieee.signed (!false) 4503599627370496 (-54 - base).toNat).natAbs * 2 ^ (base - -1074).toNat =
      (((m * 2 ^ (i + 1074).toNat : Nat) : Int) - ((2 ^ 1072 : Nat) : Int)).natAbs := by
    have a1 : m * 2 ^ (i + 1074).toNat = m * 2 ^ (i - base).toNat * 2 ^ (base - -1074).toNat := by
      rw [Nat.mul_assoc, ← Nat.pow_add]; congr 2; omega
    have a2 : (2 : Nat) ^ 1072 = 2 ^ 52 * 2 ^ (-54 - base).toNat * 2 ^ (base - -1074).toNat := by
      rw [← Nat.pow_add, ← Nat.pow_add]; congr 1; omega
    rw [a1, a2]
    have a3 : Ieee.signed false m (i - base).toNat + Ieee.signed (!false) 4503599627370496 (-54 - base).toNat = ((m * 2 ^ (i - base).toNat : Nat) : Int) - ((2 ^ 52 * 2 ^ (-54 - base).toNat : Nat) : Int) := by
      unfold Ieee.signed
      simp only [Bool.false_eq_true, if_false, Bool.not_false, if_true, Nat.shiftLeft_eq]
      rw [show (4503599627370496 : Nat) = 2 ^ 52 by decide]
      omega
    rw [a3, Int.natCast_mul (m * 2 ^ (i - base).toNat), Int.natCast_mul (2 ^ 52 * 2 ^ (-54 - base).toNat), ← Int.sub_mul, Int.natAbs_mul, Int.natAbs_natCast]
  have key : ∀ neg, Ieee.double.nearest neg (Ieee.signed false m (i - base).toNat + Ieee.signed (!false) 4503599627370496 (-54 - base).toNat).natAbs base % Ieee.double.signWeight ≤ quartR c := fun neg => by
    refine nearest_le Ieee.double neg _ base (quartR c) (quartR_inf c hc8) (-1074) (by omega) (by rw [double_lp]; omega) ?_
    rw [quartR_val c hc8, double_lp, show (-1074 - -1074 : Int).toNat = 0 by decide, Nat.pow_zero, Nat.mul_one, e1]
    generalize m * 2 ^ (i + 1074).toNat = A at *
    obtain ⟨K, hK⟩ : ∃ K, K = 1072 := ⟨_, rfl⟩
    rw [← hK] at hl hc ⊢
    generalize (2 : Nat) ^ K = B at *
    rw [Nat.succ_mul] at hc
    omega
  have fin : ∀ neg, Mag 1075 (Ieee.double.nearest neg (Ieee.signed false m (i - base).toNat + Ieee.signed (!false) 4503599627370496 (-54 - base).toNat).natAbs base) ∧ mag (Ieee.double.nearest neg (Ieee.signed false m (i - base).toNat + Ieee.signed (!false) 4503599627370496 (-54 - base).toNat).natAbs base) ≤ c * 2 ^ 1072 := fun neg => by
    have k := key neg
    generalize Ieee.double.nearest neg _ base = r at *
    rw [double_sw] at k
    have hmr : mag r ≤ c * 2 ^ 1072 := by
      unfold mag
      rw [← quartR_val c hc8]
      exact rungVal_le_iff.2 k
    refine ⟨⟨?_, ?_⟩, hmr⟩
    · rw [nan_above double_hb, double_sw]
      have := quartR_inf c hc8
      exact decide_eq_false (by omega)
    · refine Nat.le_trans hmr ?_
      have e : ∀ K L : Nat, L = K + 3 → (2 : Nat) ^ L = 8 * 2 ^ K := fun K L h => by rw [h, Nat.pow_succ, Nat.pow_succ, Nat.pow_succ]; omega
      obtain ⟨K, hK⟩ : ∃ K, K = 1072 := ⟨_, rfl⟩
      obtain ⟨L, hL⟩ : ∃ L, L = 1075 := ⟨_, rfl⟩
      rw [← hK, ← hL, e K L (by omega)]
      exact Nat.mul_le_mul_right _ (by omega)
  exact fin _
/-- The quarters that are taken off a part of a turn, and what is left. -/
def quarts : Nat → Nat → Nat × Nat
  | 0, f => (f, 0)
  | n + 1, f => if geC f quartW then ((quarts n (fop .sub .f64 f quartW)).1, (quarts n (fop .sub .f64 f quartW)).2 + 1) else (f, 0)
/-- A part of a turn from which some quarters may still be taken. -/
def Left (n f : Nat) : Prop := Mag 1075 f ∧ mag f ≤ n * 2 ^ 1072 ∧ n < 9
theorem Left.zero {f : Nat} (h : Left 0 f) : geC f quartW = false := by
  cases hg : geC f quartW
  · rfl
  · obtain ⟨_, h2⟩ := quart_ge h.1.1 hg
    have h3 := h.2.1
    obtain ⟨K, hK⟩ : ∃ K, K = 1072 := ⟨_, rfl⟩
    rw [← hK] at h2 h3
    have hp : 0 < 2 ^ K := Nat.two_pow_pos _
    omega
theorem Left.next {n f : Nat} (h : Left (n + 1) f) (hg : geC f quartW = true) : floatBits .sub .f64 f quartW = some (fop .sub .f64 f quartW) ∧ Left n (fop .sub .f64 f quartW) := by
  obtain ⟨h1, h2⟩ := quart_ge h.1.1 hg
  have hs := quart_sub (c := n) h.1 h1 h2 h.2.1 (by have := h.2.2; omega)
  have hf := fop_of (p := fun r => Mag 1075 r ∧ mag r ≤ n * 2 ^ 1072) hs
  exact ⟨some_fop hs, hf.1, hf.2, by have := h.2.2; omega⟩
theorem quarts_mag : ∀ {n f : Nat}, Left n f → Mag 1075 (quarts n f).1 ∧ geC (quarts n f).1 quartW = false
  | 0, f, h => ⟨h.1, h.zero⟩
  | n + 1, f, h => by
    unfold quarts
    by_cases hg : geC f quartW = true
    · rw [if_pos hg]
      exact quarts_mag (h.next hg).2
    · rw [if_neg hg]
      exact ⟨h.1, by simpa using hg⟩
theorem left_of {f : Nat} (h : Mag 1075 f) : Left 8 f := by
  refine ⟨h, ?_, by omega⟩
  have h2 := h.2
  have e : ∀ K L : Nat, L = K + 3 → (2 : Nat) ^ L = 8 * 2 ^ K := fun K L h => by rw [h, Nat.pow_succ, Nat.pow_succ, Nat.pow_succ]; omega
  obtain ⟨K, hK⟩ : ∃ K, K = 1072 := ⟨_, rfl⟩
  obtain ⟨L, hL⟩ : ∃ L, L = 1075 := ⟨_, rfl⟩
  rw [← hL, e K L (by omega)] at h2
  rw [← hK]
  exact h2
/-- What is less than zero by a number has its magnitude. -/
theorem zero_sub {a y : Nat} (hy : Mag a y) (ha1 : 52 ≤ a) (ha : a ≤ 2097) : ∃ r, floatBits .sub .f64 0 y = some r ∧ Mag a r := by
  obtain ⟨t, n, j, hr2, h3, h4⟩ := hy.read (by omega)
  have h0 : Ieee.double.read 0 = .number false 0 (-1074) := by decide
  refine ⟨_, show ((Ieee.double.read 0).sum (Ieee.double.read y).opposite).map Ieee.double.write = some _ by rw [h0, hr2]; rfl, ?_⟩
  generalize hb : min (-1074 : Int) j = base
  have hb2 : base = -1074 := by omega
  subst hb2
  refine Mag.write _ _ (-1074) (-1074) a ha1 ha (by omega) (by omega) ?_
  rw [show (-1074 - -1074 : Int).toNat = 0 by decide, Nat.add_zero, Nat.pow_zero, Nat.mul_one, signed_zero, Int.zero_add, natAbs_signed, show (j - -1074).toNat = (j + 1074).toNat by omega]
  exact h3
/-- What has so small a magnitude is not far. -/
theorem near_of {k y : Nat} (h : Mag k y) (hk : k < 1126) : finite Ieee.double y = true ∧ farB y = false := by
  obtain ⟨s, m, e, hr, _⟩ := h.read (by omega)
  refine ⟨(finite_iff double_hb y).2 ⟨s, m, e, hr⟩, ?_⟩
  unfold farB farW
  refine decide_eq_false fun hle => ?_
  have h1 := (rungVal_le_iff (f := Ieee.double)).2 hle
  obtain ⟨K, hK⟩ : ∃ K, K = 1126 := ⟨_, rfl⟩
  rw [show (4841369599423283200 : Nat) = (K - 51) * 4503599627370496 by rw [hK], rung_pow K (by omega)] at h1
  have h2 : 2 ^ k < 2 ^ K := Nat.pow_lt_pow_right (by omega) (by omega)
  exact absurd (Nat.le_trans h1 h.2) (Nat.not_le_of_lt h2)
end Go.Proofs.Ytjpmliigepegaaa
