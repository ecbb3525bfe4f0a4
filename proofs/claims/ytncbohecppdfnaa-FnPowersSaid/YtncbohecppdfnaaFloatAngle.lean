/- The angle's own function on words, and its magnitude. -/
import Derived.Test.YtncbohecppdfnaaFloatMag
namespace FloatKit
open Ieee Go

theorem Mag.mul_sq {a c x : Nat} (hx : Mag a x) (ha : a ≤ 2097) (hc : a + a ≤ c + 1074) (hc1 : 52 ≤ c) (hc2 : c ≤ 2097) :
    ∃ r, floatBits .mul .f64 x x = some r ∧ Mag c r ∧ NonNeg r := by
  obtain ⟨r, hr, hm⟩ := hx.mul hx ha ha hc hc1 hc2
  refine ⟨r, hr, hm, ?_⟩
  obtain ⟨s, m, i, hr1, _, _⟩ := hx.read ha
  have h2 : floatBits .mul .f64 x x = ((double.read x).product (double.read x)).map double.write := rfl
  rw [hr, hr1] at h2
  simp only [Datum.product, Option.map_some, Option.some.injEq] at h2
  rw [h2]
  have : (s ^^ s) = false := by cases s <;> rfl
  rw [this]
  exact nearest_nonneg _ _

/-- A sum of two numbers without a sign has none, and is no less than each. -/
theorem add_least {a k x y : Nat} (hx : Mag a x) (hy : Mag a y) (ha1 : 51 ≤ a) (ha : a ≤ 2096) (hs : NonNeg x) (ht : NonNeg y) (hl : Least k x) (hk : 52 ≤ k) (hk2 : k ≤ 2097) :
    ∃ r, floatBits .add .f64 x y = some r ∧ Mag (a + 1) r ∧ NonNeg r ∧ Least k r := by
  obtain ⟨r, hr, hm⟩ := hx.add hy ha1 ha
  refine ⟨r, hr, hm, ?_⟩
  obtain ⟨s, m, i, hr1, _, h2⟩ := hx.read (by omega)
  obtain ⟨t, n, j, hr2, _, h4⟩ := hy.read (by omega)
  have hsf : s = false := by rw [← (mag_read hr1).2.2]; exact hs
  have htf : t = false := by rw [← (mag_read hr2).2.2]; exact ht
  subst hsf; subst htf
  have e : floatBits .add .f64 x y = ((double.read x).sum (double.read y)).map double.write := rfl
  rw [hr, hr1, hr2] at e
  simp only [Datum.sum, Option.map_some, Option.some.injEq] at e
  generalize hb : min i j = base at *
  have es : signed false m (i - base).toNat + signed false n (j - base).toNat = ((m * 2 ^ (i - base).toNat + n * 2 ^ (j - base).toNat : Nat) : Int) := by
    unfold signed
    simp only [Bool.false_eq_true, if_false, Nat.shiftLeft_eq]
    rw [Int.natCast_add]
  rw [es] at e
  generalize hT : m * 2 ^ (i - base).toNat + n * 2 ^ (j - base).toNat = T at *
  have eneg : (if (T : Int) = 0 then false && false else decide ((T : Int) < 0)) = false := by
    split
    · rfl
    · exact decide_eq_false (by omega)
  rw [eneg, Int.natAbs_natCast] at e
  have hinf : double.infRung = 2047 * 4503599627370496 := by decide
  subst e
  refine ⟨nearest_nonneg _ _, hm.1, ?_⟩
  have key := nearest_ge double false T base ((k - 51) * 4503599627370496) (by rw [hinf]; exact Nat.mul_le_mul_right _ (by omega)) (-1074) (by omega) (by decide) (by
    rw [rung_pow k hk, double_lp, show (-1074 - -1074 : Int).toNat = 0 by decide, Nat.pow_zero, Nat.mul_one]
    refine Nat.le_trans hl.2 ?_
    rw [← (mag_read hr1).1, ← hT, Nat.add_mul, Nat.mul_assoc, ← Nat.pow_add, show (i - base).toNat + (base - -1074).toNat = (i + 1074).toNat by omega]
    exact Nat.le_add_right _ _)
  rw [double_sw] at key
  unfold mag
  rw [← rung_pow k hk]
  exact rungVal_le_iff.2 key

theorem fop_of {op : BinOp} {x y : Nat} {p : Nat → Prop} (h : ∃ r, floatBits op .f64 x y = some r ∧ p r) : p (fop op .f64 x y) := by
  obtain ⟨r, hr, hp⟩ := h
  rw [fop_some hr]; exact hp

def one : Nat := 4607182418800017408
/-- A constant's magnitude, by its rung. -/
theorem Mag.const {k x : Nat} (hk : 52 ≤ k) (hk2 : k ≤ 2097) (h : x ≤ (k - 51) * 4503599627370496) : Mag k x := by
  have hb : (k - 51) * 4503599627370496 ≤ 2046 * 4503599627370496 := Nat.mul_le_mul_right _ (by omega)
  have hx : x % 9223372036854775808 = x := Nat.mod_eq_of_lt (by omega)
  refine ⟨?_, ?_⟩
  · rw [nan_above double_hb, double_sw, double_inf, hx]; exact decide_eq_false (by omega)
  · unfold mag
    rw [hx, ← rung_pow k hk]
    exact rungVal_le_iff.2 h
theorem Least.const {k x : Nat} (hk : 52 ≤ k) (hx : x ≤ 9218868437227405312) (h : (k - 51) * 4503599627370496 ≤ x) : Least k x := by
  have hx2 : x % 9223372036854775808 = x := Nat.mod_eq_of_lt (by omega)
  refine ⟨?_, ?_⟩
  · rw [nan_above double_hb, double_sw, double_inf, hx2]; exact decide_eq_false (by omega)
  · unfold mag
    rw [hx2, ← rung_pow k hk]
    exact rungVal_le_iff.2 h

/-- One halving of the angle. -/
def halfC (t : Nat) : Nat := fop .quo .f64 t (fop .add .f64 one (sqrtC (fop .add .f64 one (fop .mul .f64 t t))))

theorem halfC_mag {t : Nat} (h : Mag 1075 t) : Mag 1075 (halfC t) := by
  have h1 : Mag 1076 (fop .mul .f64 t t) ∧ NonNeg (fop .mul .f64 t t) := fop_of (p := fun r => Mag 1076 r ∧ NonNeg r) (h.mul_sq (by omega) (by omega) (by omega) (by omega))
  have ho : Mag 1076 one := Mag.const (by omega) (by omega) (by decide)
  have hl : Least 1074 one := Least.const (by omega) (by decide) (by decide)
  have hon : NonNeg one := by unfold NonNeg; decide
  have h2 : Mag 1077 (fop .add .f64 one (fop .mul .f64 t t)) ∧ NonNeg (fop .add .f64 one (fop .mul .f64 t t)) ∧ Least 1074 (fop .add .f64 one (fop .mul .f64 t t)) :=
    fop_of (p := fun r => Mag 1077 r ∧ NonNeg r ∧ Least 1074 r) (add_least ho h1.1 (by omega) (by omega) hon h1.2 hl (by omega) (by omega))
  obtain ⟨r, hr, hm, hn⟩ := h2.1.sqrt (c := 1076) h2.2.1 (by omega) (by omega) (by omega) (by omega)
  have hs : sqrtC (fop .add .f64 one (fop .mul .f64 t t)) = r := by unfold sqrtC; rw [hr]; rfl
  have h3 : Mag 1077 (fop .add .f64 one r) ∧ NonNeg (fop .add .f64 one r) ∧ Least 1074 (fop .add .f64 one r) :=
    fop_of (p := fun r => Mag 1077 r ∧ NonNeg r ∧ Least 1074 r) (add_least ho hm (by omega) (by omega) hon hn hl (by omega) (by omega))
  unfold halfC
  rw [hs]
  exact fop_of (p := Mag 1075) (h.div h3.2.2 (h3.1.mono (by omega)) (by omega) (by omega) (by omega) (by omega))

def invC (k : Nat) : Nat := fop .quo .f64 one (floatOfInt .f64 k)
/-- The sum of the angle's powers, j of its places. -/
def polyC (u : Nat) : Nat → Nat
  | 0 => 0
  | j + 1 => fop .sub .f64 (invC (15 - 2 * j)) (fop .mul .f64 u (polyC u j))

theorem invC_mag (j : Nat) (h : j < 8) : Mag 1074 (invC (15 - 2 * j)) := by
  have hc : ∀ k : Fin 8, invC (15 - 2 * k.val) ≤ (1074 - 51) * 4503599627370496 := by decide +kernel
  exact Mag.const (by omega) (by omega) (hc ⟨j, h⟩)

theorem polyC_mag {u : Nat} (hu : Mag 1076 u) : ∀ j, j ≤ 8 → Mag (1074 + 3 * j) (polyC u j)
  | 0, _ => Mag.const (by omega) (by omega) (Nat.zero_le _)
  | j + 1, h => by
    have ih := polyC_mag hu j (by omega)
    have h1 : Mag (1076 + 3 * j) (fop .mul .f64 u (polyC u j)) := fop_of (p := Mag _) (hu.mul ih (by omega) (by omega) (by omega) (by omega) (by omega))
    have h2 := fop_of (p := Mag _) ((invC_mag j (by omega)).mono (b := 1076 + 3 * j) (by omega) |>.sub h1 (by omega) (by omega))
    exact h2.mono (by omega)

def flatC (t : Nat) : Nat :=
  let h := halfC (halfC (halfC t))
  fop .quo .f64 (fop .mul .f64 4620693217682128896 (fop .mul .f64 h (polyC (fop .mul .f64 h h) 8))) 4618760256179416344

theorem flatC_mag {t : Nat} (h : Mag 1075 t) : Mag 1100 (flatC t) := by
  unfold flatC
  have hh := halfC_mag (halfC_mag (halfC_mag h))
  generalize halfC (halfC (halfC t)) = x at *
  simp only
  have hu : Mag 1076 (fop .mul .f64 x x) := (fop_of (p := fun r => Mag 1076 r ∧ NonNeg r) (hh.mul_sq (by omega) (by omega) (by omega) (by omega))).1
  have hp := polyC_mag hu 8 (by omega)
  have h1 : Mag 1099 (fop .mul .f64 x (polyC (fop .mul .f64 x x) 8)) := fop_of (p := Mag _) (hh.mul hp (by omega) (by omega) (by omega) (by omega) (by omega))
  have h2 : Mag 1102 (fop .mul .f64 4620693217682128896 (fop .mul .f64 x (polyC (fop .mul .f64 x x) 8))) :=
    fop_of (p := Mag _) ((Mag.const (k := 1077) (by omega) (by omega) (by decide)).mul h1 (by omega) (by omega) (by omega) (by omega) (by omega))
  exact fop_of (p := Mag _) (h2.div (Least.const (k := 1076) (by omega) (by decide) (by decide)) (Mag.const (by omega) (by omega) (by decide)) (by omega) (by omega) (by omega) (by omega))

def halfN : Nat → Nat → Nat
  | 0, t => t
  | k + 1, t => halfC (halfN k t)

theorem halfC_eqv {x y : Nat} (h : Eqv double x y) : halfC x = halfC y := by
  unfold halfC
  have e1 := fop_eqv .mul .f64 h h
  rw [e1]
  exact fop_eqv .quo .f64 h (Eqv.refl _ _)

/-- A quotient of no more than 1. -/
theorem ratio_mag {a b : Nat} (ha : Mag 1202 a) (hab : mag b ≤ mag a) (hb : isNaN double b = false) (h0 : mag a ≠ 0) : Mag 1075 (fop .quo .f64 b a) := by
  generalize hk : (mag a).log2 = k
  have h1 : 2 ^ k ≤ mag a := by rw [← hk]; exact Nat.log2_self_le h0
  have h2 : mag a < 2 ^ (k + 1) := by rw [← hk]; exact Nat.lt_log2_self
  have hk2 : k ≤ 1202 := (Nat.pow_le_pow_iff_right (by omega : 1 < 2)).1 (Nat.le_trans h1 ha.2)
  have hb2 : Mag (k + 1) b := ⟨hb, by omega⟩
  exact fop_of (p := Mag _) (hb2.div ⟨ha.1, h1⟩ (ha.mono (by omega)) (by omega) (by omega) (by omega) (by omega))

theorem neg_mod (x : Nat) : (x ^^^ 9223372036854775808) % 9223372036854775808 = x % 9223372036854775808 := by
  have h := Nat.xor_mod_two_pow (a := x) (b := 9223372036854775808) (n := 63)
  rw [show (2 ^ 63 : Nat) = 9223372036854775808 by decide] at h
  rw [h, Nat.mod_self, Nat.xor_zero]

def negC (x : Nat) : Nat := Go.Op.negFloat .f64 x
theorem negC_eq (x : Nat) : negC x = x ^^^ 9223372036854775808 := rfl
theorem negC_nan (x : Nat) : isNaN double (negC x) = isNaN double x := by
  rw [nan_above double_hb, nan_above double_hb, double_sw, negC_eq, neg_mod]
theorem negC_eqv {x y : Nat} (h : Eqv double x y) : Eqv double (negC x) (negC y) := by
  rcases h with rfl | ⟨a, b⟩
  · exact .inl rfl
  · exact .inr ⟨by rw [negC_nan, a], by rw [negC_nan, b]⟩
theorem negC_mag {k x : Nat} (h : Mag k x) : Mag k (negC x) := by
  refine ⟨by rw [negC_nan, h.1], ?_⟩
  have := h.2
  unfold mag at this ⊢
  rw [negC_eq, neg_mod]; exact this

/-- The angle of a point, by where it lies and by its flat angle's tangent. -/
def angleC (over xneg yneg : Bool) (t : Nat) : Nat :=
  let f := flatC t
  let g := if over then fop .sub .f64 4598175219545276416 f else f
  let h := if xneg then fop .sub .f64 4602678819172646912 g else g
  if yneg then negC h else h

theorem angleC_mag {t : Nat} (h : Mag 1075 t) (over xneg yneg : Bool) : Mag 1102 (angleC over xneg yneg t) := by
  have h1 := flatC_mag h
  have h2 : Mag 1101 (if over then fop .sub .f64 4598175219545276416 (flatC t) else flatC t) := by
    cases over
    · exact h1.mono (by omega)
    · exact fop_of (p := Mag _) ((Mag.const (k := 1100) (by omega) (by omega) (by decide)).sub h1 (by omega) (by omega))
  have h3 : Mag 1102 (if xneg then fop .sub .f64 4602678819172646912 (if over then fop .sub .f64 4598175219545276416 (flatC t) else flatC t) else (if over then fop .sub .f64 4598175219545276416 (flatC t) else flatC t)) := by
    cases xneg
    · exact h2.mono (by omega)
    · exact fop_of (p := Mag _) ((Mag.const (k := 1101) (by omega) (by omega) (by decide)).sub h2 (by omega) (by omega))
  unfold angleC
  cases yneg
  · exact h3
  · exact negC_mag h3
end FloatKit
namespace Go
@[go_sem] theorem unary_neg_float (k : FloatKind) (b : Nat) : Op.unary .neg (.float k b) = pure (.float k (Op.negFloat k b)) := rfl
end Go
