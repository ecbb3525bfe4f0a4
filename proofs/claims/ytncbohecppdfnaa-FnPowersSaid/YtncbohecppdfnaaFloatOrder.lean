/- How the words of floating-point numbers stand to each other: as the integers do that number them. No condition. -/
import Derived.Test.YtncbohecppdfnaaFloatWalk
namespace FloatKit
open Ieee

/-- The magnitude of a rung, in units of the least place; infinity's rung reads as the next greater number. -/
def rungVal (f : Format) (r : Nat) : Nat := if r < f.binade then r else (f.binade + r % f.binade) <<< (r / f.binade - 1)

theorem binade_pos (f : Format) : 0 < f.binade := Nat.two_pow_pos _

theorem rungVal_succ (f : Format) (r : Nat) : rungVal f r < rungVal f (r + 1) := by
  have hb := binade_pos f
  unfold rungVal
  by_cases h1 : r + 1 < f.binade
  · rw [if_pos (by omega), if_pos h1]; omega
  · rw [if_neg h1]
    by_cases h2 : r < f.binade
    · have : r + 1 = f.binade := by omega
      rw [if_pos h2, this, Nat.mod_self, Nat.div_self hb]; simp; omega
    · rw [if_neg h2]
      have hdm := Nat.div_add_mod r f.binade
      have hm : r % f.binade < f.binade := Nat.mod_lt _ hb
      have hq : 1 ≤ r / f.binade := (Nat.le_div_iff_mul_le hb).2 (by omega)
      generalize r / f.binade = q at *
      generalize r % f.binade = m at *
      by_cases h3 : m + 1 < f.binade
      · have e1 : (r + 1) / f.binade = q := by
          rw [← hdm, Nat.add_assoc, Nat.mul_add_div hb, Nat.div_eq_of_lt h3, Nat.add_zero]
        have e2 : (r + 1) % f.binade = m + 1 := by
          rw [← hdm, Nat.add_assoc, Nat.mul_add_mod, Nat.mod_eq_of_lt h3]
        rw [e1, e2, Nat.shiftLeft_eq, Nat.shiftLeft_eq]
        exact Nat.mul_lt_mul_of_pos_right (by omega) (Nat.two_pow_pos _)
      · have h4 : m + 1 = f.binade := by omega
        have e0 : r + 1 = f.binade * (q + 1) := by rw [Nat.mul_add, Nat.mul_one]; omega
        have e1 : (r + 1) / f.binade = q + 1 := by rw [e0, Nat.mul_div_cancel_left _ hb]
        have e2 : (r + 1) % f.binade = 0 := by rw [e0, Nat.mul_mod_right]
        rw [e1, e2, Nat.shiftLeft_eq, Nat.shiftLeft_eq, Nat.add_zero, show q + 1 - 1 = (q - 1) + 1 by omega, Nat.pow_succ, Nat.mul_comm (2 ^ (q - 1)) 2, ← Nat.mul_assoc]
        exact Nat.mul_lt_mul_of_pos_right (by omega) (Nat.two_pow_pos _)

theorem rungVal_lt {f : Format} {a b : Nat} (h : a < b) : rungVal f a < rungVal f b := by
  obtain ⟨d, rfl⟩ : ∃ d, b = a + 1 + d := ⟨b - (a + 1), by omega⟩
  clear h
  induction d with
  | zero => exact rungVal_succ f a
  | succ d ih => exact Nat.lt_trans ih (rungVal_succ f _)

theorem rungVal_lt_iff {f : Format} {a b : Nat} : rungVal f a < rungVal f b ↔ a < b := by
  refine ⟨fun h => ?_, rungVal_lt⟩
  rcases Nat.lt_trichotomy a b with h1 | h1 | h1
  · exact h1
  · subst h1; exact absurd h (Nat.lt_irrefl _)
  · exact absurd (Nat.lt_trans h (rungVal_lt h1)) (Nat.lt_irrefl _)

theorem rungVal_inj {f : Format} {a b : Nat} (h : rungVal f a = rungVal f b) : a = b := by
  rcases Nat.lt_trichotomy a b with h1 | h1 | h1
  · exact absurd h (Nat.ne_of_lt (rungVal_lt h1))
  · exact h1
  · exact absurd h.symm (Nat.ne_of_lt (rungVal_lt h1))

theorem rungVal_zero (f : Format) : rungVal f 0 = 0 := by unfold rungVal; rw [if_pos (binade_pos f)]

/-- A word's value, in units of the least place. -/
def sval (f : Format) (w : Nat) : Int := if w / f.signWeight % 2 == 1 then -(rungVal f (w % f.signWeight) : Int) else (rungVal f (w % f.signWeight) : Int)

theorem read_sval {f : Format} (hfb : f.binade ≤ f.infRung) {w : Nat} {s : Bool} {m : Nat} {e : Int} (h : f.read w = .number s m e) :
    signed s m (e - f.leastPlace).toNat = sval f w ∧ f.leastPlace ≤ e ∧ w % f.signWeight < f.infRung ∧ (w / f.signWeight % 2 == 1) = s := by
  have hb := binade_pos f
  unfold Format.read at h
  unfold sval rungVal
  generalize (w / f.signWeight % 2 == 1) = neg at *
  generalize hr : w % f.signWeight = r at *
  simp only at h
  split at h
  · rename_i h1
    injection h with h2 h3 h4
    subst h2; subst h3; subst h4
    rw [if_pos h1]
    refine ⟨?_, by omega, ?_, rfl⟩
    · rw [Int.sub_self, Int.toNat_zero]; unfold signed; simp
    · omega
  · split at h
    · rename_i h1 h2
      injection h with h3 h4 h5
      subst h3; subst h4; subst h5
      rw [if_neg h1]
      refine ⟨?_, by omega, h2, rfl⟩
      rw [show (f.leastPlace + ((r / f.binade - 1 : Nat) : Int) - f.leastPlace).toNat = r / f.binade - 1 by omega]
      unfold signed; rfl
    · split at h <;> cases h

theorem read_inf {f : Format} {w : Nat} {s : Bool} (h : f.read w = .infinity s) : w % f.signWeight = f.infRung ∧ (w / f.signWeight % 2 == 1) = s := by
  unfold Format.read at h
  generalize (w / f.signWeight % 2 == 1) = neg at *
  simp only at h
  split at h
  · cases h
  · split at h
    · cases h
    · split at h
      · rename_i h3; injection h with h4; exact ⟨h3, h4⟩
      · cases h

theorem sval_lt_inf {f : Format} {w : Nat} (h : w % f.signWeight < f.infRung) : sval f w < rungVal f f.infRung ∧ -(rungVal f f.infRung : Int) < sval f w := by
  have := rungVal_lt (f := f) h
  unfold sval
  split <;> omega

/-- Two words that are no NaNs stand to each other as their values do. -/
theorem order_sval {f : Format} (hfb : f.binade ≤ f.infRung) {x y : Nat} (hx : isNaN f x = false) (hy : isNaN f y = false) : f.order x y = some (compare (sval f x) (sval f y)) := by
  have hip : 0 < rungVal f f.infRung := by
    have := rungVal_lt (f := f) (a := 0) (b := f.infRung) (by have := binade_pos f; omega)
    rw [rungVal_zero] at this; exact this
  unfold isNaN at hx hy
  unfold Format.order
  cases hrx : f.read x with
  | nan s t => rw [hrx] at hx; cases hx
  | number s m i =>
    obtain ⟨a1, a2, a3, a4⟩ := read_sval hfb hrx
    have a5 := sval_lt_inf a3
    cases hry : f.read y with
    | nan s t => rw [hry] at hy; cases hy
    | number t n j =>
      obtain ⟨b1, b2, b3, b4⟩ := read_sval hfb hry
      rw [order_num s m i t n j f.leastPlace a2 b2, a1, b1]
    | infinity t =>
      obtain ⟨b1, b2⟩ := read_inf hry
      have hs : sval f y = if t then -(rungVal f f.infRung : Int) else (rungVal f f.infRung : Int) := by unfold sval; rw [b1, b2]
      rw [hs]
      simp only [Datum.order, compare, compareOfLessAndEq]
      cases t
      · simp only [Bool.false_eq_true, if_false]; rw [if_pos (by omega)]
      · simp only [if_true]; rw [if_neg (by omega), if_neg (by omega)]
  | infinity s =>
    obtain ⟨a1, a2⟩ := read_inf hrx
    have hs : sval f x = if s then -(rungVal f f.infRung : Int) else (rungVal f f.infRung : Int) := by unfold sval; rw [a1, a2]
    rw [hs]
    cases hry : f.read y with
    | nan s t => rw [hry] at hy; cases hy
    | number t n j =>
      obtain ⟨b1, b2, b3, b4⟩ := read_sval hfb hry
      have b5 := sval_lt_inf b3
      simp only [Datum.order, compare, compareOfLessAndEq]
      cases s
      · simp only [Bool.false_eq_true, if_false]; rw [if_neg (by omega), if_neg (by omega)]
      · simp only [if_true]; rw [if_pos (by omega)]
    | infinity t =>
      obtain ⟨b1, b2⟩ := read_inf hry
      have ht : sval f y = if t then -(rungVal f f.infRung : Int) else (rungVal f f.infRung : Int) := by unfold sval; rw [b1, b2]
      rw [ht]
      simp only [Datum.order, compare, compareOfLessAndEq]
      cases s <;> cases t <;> simp only [Bool.toNat_true, Bool.toNat_false, Bool.false_eq_true, if_true, if_false]
      · rw [if_neg (by omega), if_neg (by omega)]
      · rw [if_neg (by omega), if_neg (by omega), if_neg (by omega), if_neg (by omega)]
      · rw [if_pos (by omega), if_pos (by omega)]
      · rw [if_neg (by omega), if_neg (by omega)]

/-- Words without a sign stand to each other as they do as numbers. -/
theorem order_pos {f : Format} (hfb : f.binade ≤ f.infRung) {x y : Nat} (hx : x ≤ f.infRung) (hy : y ≤ f.infRung) : f.order x y = some (compare x y) := by
  have hsw := f.infRung_lt
  have nn : ∀ z, z ≤ f.infRung → isNaN f z = false ∧ sval f z = rungVal f z := by
    intro z hz
    have h1 : z / f.signWeight = 0 := Nat.div_eq_of_lt (by omega)
    have h2 : z % f.signWeight = z := Nat.mod_eq_of_lt (by omega)
    unfold isNaN sval Format.read
    rw [h1, h2]
    refine ⟨?_, by simp⟩
    simp only
    split
    · rfl
    · split
      · rfl
      · rw [if_pos (by omega)]; rfl
  rw [order_sval hfb (nn x hx).1 (nn y hy).1, (nn x hx).2, (nn y hy).2]
  congr 1
  simp only [compare, compareOfLessAndEq]
  have h1 : ((rungVal f x : Int) < rungVal f y) ↔ x < y := by rw [Int.ofNat_lt]; exact rungVal_lt_iff
  have h2 : ((rungVal f x : Int) = rungVal f y) ↔ x = y := ⟨fun h => rungVal_inj (Int.ofNat_inj.1 h), fun h => by rw [h]⟩
  simp only [h1, h2]

theorem nan_above {f : Format} (hfb : f.binade ≤ f.infRung) {x : Nat} : isNaN f x = decide (f.infRung < x % f.signWeight) := by
  unfold isNaN Format.read
  simp only
  split
  · rename_i h1
    simp [Datum.isNaN]; omega
  · split
    · simp [Datum.isNaN]; omega
    · split
      · simp [Datum.isNaN]; omega
      · simp [Datum.isNaN]; omega

/-- A number or a zero. -/
def finite (f : Format) (x : Nat) : Bool := decide (x % f.signWeight < f.infRung)

theorem read_mod (f : Format) (x : Nat) : f.read (x % f.signWeight) = match f.read x with | .number _ m e => .number false m e | .infinity _ => .infinity false | .nan _ t => .nan false t := by
  have h1 : x % f.signWeight / f.signWeight = 0 := Nat.div_eq_of_lt (Nat.mod_lt _ (Nat.two_pow_pos _))
  unfold Format.read
  simp only [h1, Nat.mod_mod]
  split
  · rfl
  · split
    · rfl
    · split <;> rfl

theorem finite_iff {f : Format} (hfb : f.binade ≤ f.infRung) (x : Nat) : finite f x = true ↔ ∃ s m e, f.read x = .number s m e := by
  unfold finite Format.read
  simp only [decide_eq_true_eq]
  constructor
  · intro h
    split
    · exact ⟨_, _, _, rfl⟩
    · exact ⟨_, _, _, rfl⟩
  · rintro ⟨s, m, e, h⟩
    split at h
    · omega
    · split at h
      · assumption
      · split at h <;> cases h

theorem finite_nan {f : Format} {x : Nat} (h : finite f x = true) : isNaN f x = false := by
  unfold finite at h
  have h := of_decide_eq_true h
  unfold isNaN Format.read
  simp only
  split
  · rfl
  · rfl

/-- 'x > the greatest number', of the magnitude of x: an infinity. -/
theorem above_max (x : Nat) : (double.order (x % 9223372036854775808) 9218868437227405311 == some .gt) = (!finite double x && !isNaN double x) := by
  have hm : x % 9223372036854775808 < 9223372036854775808 := Nat.mod_lt _ (by omega)
  have hn : isNaN double x = decide (9218868437227405312 < x % 9223372036854775808) := by rw [nan_above double_hb, double_sw, double_inf]
  have hf : finite double x = decide (x % 9223372036854775808 < 9218868437227405312) := by unfold finite; rw [double_sw, double_inf]
  rw [hn, hf]
  by_cases h : 9218868437227405312 < x % 9223372036854775808
  · rw [order_nan_left _ _ _ (by rw [nan_above double_hb, double_sw, double_inf, Nat.mod_mod]; simpa using h)]
    simp [h]
  · rw [order_pos double_hb (by rw [double_inf]; omega) (by rw [double_inf]; omega)]
    by_cases h2 : x % 9223372036854775808 = 9218868437227405312
    · rw [h2]; decide
    · have h3 : compare (x % 9223372036854775808) 9218868437227405311 ≠ .gt := by
        rw [Ne, Nat.compare_eq_gt]; omega
      have h4 : x % 9223372036854775808 < 9218868437227405312 := by omega
      simp [h3, h4]

theorem finite_widen {b : Nat} (h : isNaN single b = false) : finite double (widen b) = finite single b := by
  rw [Bool.eq_iff_iff, finite_iff double_hb, finite_iff single_hb]
  unfold isNaN at h
  cases hr : single.read b with
  | number s m e =>
    obtain ⟨m', e', hw, _⟩ := widen_value hr
    exact ⟨fun _ => ⟨_, _, _, rfl⟩, fun _ => ⟨_, _, _, hw⟩⟩
  | infinity s =>
    rw [read_widen_inf hr]
  | nan s t => rw [hr] at h; cases h

theorem Wid.finite {b x : Nat} (h : Wid b x) : FloatKit.finite double x = FloatKit.finite single b := by
  cases hb : isNaN single b
  · rw [h.eq hb]; exact finite_widen hb
  · have h1 : FloatKit.finite double x = false := by
      cases hf : FloatKit.finite double x
      · rfl
      · have := finite_nan hf; rw [h.nan, hb] at this; cases this
    have h2 : FloatKit.finite single b = false := by
      cases hf : FloatKit.finite single b
      · rfl
      · have := finite_nan hf; rw [hb] at this; cases this
    rw [h1, h2]

/-- 'x - x' is +0 of a number, and a NaN else. -/
theorem fsub_self (x : Nat) : (Go.FloatKind.f32.format.order (fop .sub .f32 x x) 0 == some .eq) = finite single x := by
  show (single.order (fop .sub .f32 x x) 0 == some .eq) = finite single x
  have hz : single.order 0 0 = some .eq := by decide +kernel
  have hq : single.order (qnan .f32) 0 = none := by decide +kernel
  have hb : ∀ o, Go.floatBits .sub .f32 x x = o → fop .sub .f32 x x = o.getD (qnan .f32) := fun o h => by unfold fop; rw [h]
  have hd : Go.floatBits .sub .f32 x x = ((single.read x).sum (single.read x).opposite).map single.write := rfl
  cases hr : single.read x with
  | number s m e =>
    rw [hr] at hd
    have hs : (Datum.number s m e).sum (Datum.number s m e).opposite = some (.number false 0 e) := by
      simp only [Datum.opposite, Datum.sum, Int.min_self, Int.sub_self, Int.toNat_zero]
      have : signed s m 0 + signed (!s) m 0 = 0 := by unfold signed; cases s <;> simp <;> omega
      rw [this]; cases s <;> rfl
    rw [hs] at hd
    have h0 : single.write (.number false 0 e) = 0 := rfl
    rw [hb _ hd, Option.map_some, Option.getD_some, h0, hz, (finite_iff single_hb x).2 ⟨_, _, _, hr⟩]; rfl
  | infinity s =>
    rw [hr] at hd
    have hs : (Datum.infinity s).sum (Datum.infinity s).opposite = none := by cases s <;> rfl
    rw [hs] at hd
    have hf : finite single x = false := by
      cases hf : finite single x
      · rfl
      · obtain ⟨_, _, _, h⟩ := (finite_iff single_hb x).1 hf; rw [hr] at h; cases h
    rw [hb _ hd, Option.map_none, Option.getD_none, hq, hf]; rfl
  | nan s t =>
    rw [hr] at hd
    have hs : (Datum.nan s t).sum (Datum.nan s t).opposite = none := rfl
    rw [hs] at hd
    have hf : finite single x = false := by
      cases hf : finite single x
      · rfl
      · obtain ⟨_, _, _, h⟩ := (finite_iff single_hb x).1 hf; rw [hr] at h; cases h
    rw [hb _ hd, Option.map_none, Option.getD_none, hq, hf]; rfl

/-- 'x - x' is +0 of a number, and a NaN else. -/
theorem dsub_self (x : Nat) : (Go.FloatKind.f64.format.order (fop .sub .f64 x x) 0 == some .eq) = finite double x := by
  show (double.order (fop .sub .f64 x x) 0 == some .eq) = finite double x
  have hz : double.order 0 0 = some .eq := by decide +kernel
  have hq : double.order (qnan .f64) 0 = none := by decide +kernel
  have hb : ∀ o, Go.floatBits .sub .f64 x x = o → fop .sub .f64 x x = o.getD (qnan .f64) := fun o h => by unfold fop; rw [h]
  have hd : Go.floatBits .sub .f64 x x = ((double.read x).sum (double.read x).opposite).map double.write := rfl
  cases hr : double.read x with
  | number s m e =>
    rw [hr] at hd
    have hs : (Datum.number s m e).sum (Datum.number s m e).opposite = some (.number false 0 e) := by
      simp only [Datum.opposite, Datum.sum, Int.min_self, Int.sub_self, Int.toNat_zero]
      have : signed s m 0 + signed (!s) m 0 = 0 := by unfold signed; cases s <;> simp <;> omega
      rw [this]; cases s <;> rfl
    rw [hs] at hd
    have h0 : double.write (.number false 0 e) = 0 := rfl
    rw [hb _ hd, Option.map_some, Option.getD_some, h0, hz, (finite_iff double_hb x).2 ⟨_, _, _, hr⟩]; rfl
  | infinity s =>
    rw [hr] at hd
    have hs : (Datum.infinity s).sum (Datum.infinity s).opposite = none := by cases s <;> rfl
    rw [hs] at hd
    have hf : finite double x = false := by
      cases hf : finite double x
      · rfl
      · obtain ⟨_, _, _, h⟩ := (finite_iff double_hb x).1 hf; rw [hr] at h; cases h
    rw [hb _ hd, Option.map_none, Option.getD_none, hq, hf]; rfl
  | nan s t =>
    rw [hr] at hd
    have hs : (Datum.nan s t).sum (Datum.nan s t).opposite = none := rfl
    rw [hs] at hd
    have hf : finite double x = false := by
      cases hf : finite double x
      · rfl
      · obtain ⟨_, _, _, h⟩ := (finite_iff double_hb x).1 hf; rw [hr] at h; cases h
    rw [hb _ hd, Option.map_none, Option.getD_none, hq, hf]; rfl

theorem nan_lt_of {f : Format} (hfb : f.binade ≤ f.infRung) {x : Nat} (h : isNaN f x = false) : x % f.signWeight ≤ f.infRung := by
  rw [nan_above hfb] at h
  have := of_decide_eq_false h
  omega

theorem nearest_mod (f : Format) (neg : Bool) (m : Nat) (e : Int) : f.nearest neg m e % f.signWeight = f.nearest false m e := by
  have hsw := f.infRung_lt
  have key : ∀ r, r < f.signWeight → f.word neg r % f.signWeight = f.word false r := by
    intro r hr
    have := (word_read_parts f neg r hr).2
    rw [this]; rfl
  unfold Format.nearest
  split
  · exact key 0 (Nat.two_pow_pos _)
  · exact key _ (Nat.lt_of_le_of_lt (Nat.min_le_right ..) hsw)

/-- The magnitude of a widened number is the widened magnitude. -/
theorem widen_mod (b : Nat) (h : isNaN single b = false) : widen b % 9223372036854775808 = widen (b % 2147483648) := by
  have hm := read_mod single b
  rw [single_sw] at hm
  unfold isNaN at h
  unfold widen
  rw [hm]
  cases hr : single.read b with
  | number s m e =>
    have := nearest_mod double s m e
    rw [double_sw] at this
    exact this
  | infinity s => cases s <;> decide
  | nan s t => rw [hr] at h; cases h

theorem nan_mod {f : Format} (hfb : f.binade ≤ f.infRung) (x : Nat) : isNaN f (x % f.signWeight) = isNaN f x := by
  rw [nan_above hfb, nan_above hfb, Nat.mod_mod]

/-- 'x == 0': no magnitude. -/
theorem order_zero (x : Nat) : (single.order x 0 == some .eq) = decide (x % 2147483648 = 0) := by
  cases hn : isNaN single x
  · have h0 : isNaN single 0 = false := by decide
    rw [order_sval single_hb hn h0]
    have s0 : sval single 0 = 0 := by decide
    rw [s0]
    have hs : sval single x = 0 ↔ x % 2147483648 = 0 := by
      unfold sval
      rw [single_sw]
      have h1 : rungVal single (x % 2147483648) = 0 ↔ x % 2147483648 = 0 :=
        ⟨fun h => rungVal_inj (f := single) (h.trans (rungVal_zero single).symm), fun h => by rw [h, rungVal_zero]⟩
      split <;> omega
    by_cases h : sval single x = 0
    · rw [h]; simp [hs.1 h]
    · have h2 : ¬ x % 2147483648 = 0 := fun h3 => h (hs.2 h3)
      simp [h, h2]
  · rw [order_nan_left _ _ _ hn]
    rw [nan_above single_hb, single_sw, single_inf] at hn
    have := of_decide_eq_true hn
    have h2 : ¬ x % 2147483648 = 0 := by omega
    simp [h2]

/-- 'the magnitude, as a float64, is less than 2^-126': the exponent's field is empty. -/
theorem below_normal {b x : Nat} (hx : Wid b x) : (double.order (x % 9223372036854775808) 4039728865751334912 == some .lt) = decide (b % 2147483648 < 8388608) := by
  cases hn : isNaN single b
  · rw [hx.eq hn, widen_mod b hn]
    have hc : (4039728865751334912 : Nat) = widen 8388608 := by decide
    have hm : b % 2147483648 ≤ 2139095040 := by
      have := nan_lt_of single_hb hn
      rwa [single_sw, single_inf] at this
    have hn2 := nan_mod single_hb b
    rw [single_sw, hn] at hn2
    rw [hc, order_widen hn2 (by decide), order_pos single_hb (by rw [single_inf]; exact hm) (by decide)]
    by_cases h : b % 2147483648 < 8388608
    · rw [(Nat.compare_eq_lt).2 h]; simp [h]
    · have : compare (b % 2147483648) 8388608 ≠ .lt := fun hh => h ((Nat.compare_eq_lt).1 hh)
      simp [h, this]
  · have hq := hx.nan.trans hn
    have hn3 := nan_mod double_hb x
    rw [double_sw, hq] at hn3
    rw [order_nan_left _ _ _ hn3]
    rw [nan_above single_hb, single_sw, single_inf] at hn
    have := of_decide_eq_true hn
    have h2 : ¬ b % 2147483648 < 8388608 := by omega
    simp [h2]
theorem word_div (f : Format) (neg : Bool) (rung : Nat) (h : rung < f.signWeight) : f.word neg rung / f.signWeight = neg.toNat := by
  have hs : 0 < f.signWeight := Nat.two_pow_pos _
  unfold Format.word
  cases neg
  · simp only [Bool.false_eq_true, if_false, Bool.toNat_false]; exact Nat.div_eq_of_lt h
  · simp only [if_true, Bool.toNat_true]
    rw [Nat.add_div_left _ hs, Nat.div_eq_of_lt h]

theorem nearest_div (f : Format) (neg : Bool) (m : Nat) (e : Int) : f.nearest neg m e / f.signWeight = neg.toNat := by
  have hsw := f.infRung_lt
  unfold Format.nearest
  split
  · exact word_div f neg 0 (Nat.two_pow_pos _)
  · exact word_div f neg _ (Nat.lt_of_le_of_lt (Nat.min_le_right ..) hsw)

theorem read_sign {f : Format} {w : Nat} {d : Datum} (h : f.read w = d) : d.neg = (w / f.signWeight % 2 == 1) := by
  unfold Format.read at h
  simp only at h
  subst h
  split
  · rfl
  · split
    · rfl
    · split <;> rfl

theorem widen_sign {b : Nat} (hb : b < 4294967296) (hn : isNaN single b = false) : widen b / 9223372036854775808 = b / 2147483648 := by
  have key : widen b / 9223372036854775808 = (b / 2147483648 % 2 == 1).toNat := by
    have hs := read_sign (f := single) (w := b) rfl
    rw [single_sw] at hs
    rw [← hs]
    unfold widen
    unfold isNaN at hn
    cases hr : single.read b with
    | number s m e => have := nearest_div double s m e; rw [double_sw] at this; exact this
    | infinity s => cases s <;> decide
    | nan s t => rw [hr] at hn; cases hn
  rw [key]
  have h2 : b / 2147483648 < 2 := by omega
  rcases (show b / 2147483648 = 0 ∨ b / 2147483648 = 1 by omega) with h | h <;> rw [h] <;> rfl

end FloatKit
