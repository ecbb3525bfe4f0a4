/- Facts on the model's floating-point words, proved from the definitions alone: what is written is read again, what a float32 is as a float64, how two words compare. No condition. -/
import Ieee.Arith
import Derived.Laws.FloatBits
import Derived.Laws.FloatArith
namespace FloatKit
open Ieee

def isNaN (f : Format) (w : Nat) : Bool := (f.read w).isNaN

theorem order_self (f : Format) (x : Nat) : f.order x x = if isNaN f x then none else some .eq := by
  unfold Format.order isNaN
  cases f.read x <;> simp [Datum.order, Datum.isNaN]

theorem order_nan_left (f : Format) (x y : Nat) (h : isNaN f x = true) : f.order x y = none := by
  unfold Format.order
  unfold isNaN at h
  cases hx : f.read x <;> simp [hx, Datum.isNaN] at h
  simp [Datum.order]

theorem order_nan_right (f : Format) (x y : Nat) (h : isNaN f y = true) : f.order x y = none := by
  unfold Format.order
  unfold isNaN at h
  cases hx : f.read y <;> simp [hx, Datum.isNaN] at h
  cases f.read x <;> simp [Datum.order]

theorem log2_shl {m k : Nat} (hm : m ≠ 0) : (m <<< k).log2 = m.log2 + k := by
  have h0 : m <<< k ≠ 0 := by
    rw [Nat.shiftLeft_eq]; exact Nat.mul_ne_zero hm (by have := Nat.two_pow_pos k; omega)
  refine (Nat.log2_eq_iff h0).2 ⟨?_, ?_⟩
  · rw [Nat.shiftLeft_eq, Nat.pow_add]; exact Nat.mul_le_mul_right _ (Nat.log2_self_le hm)
  · rw [Nat.shiftLeft_eq, show m.log2 + k + 1 = (m.log2 + 1) + k by omega, Nat.pow_add]
    exact Nat.mul_lt_mul_of_pos_right Nat.lt_log2_self (Nat.two_pow_pos k)

theorem cut_zero (way : Toward) (neg : Bool) (n : Nat) : way.cut neg n 0 = n := by
  unfold Toward.cut
  cases way <;> simp [Nat.mod_one]

theorem cut_shift (neg : Bool) (n d k : Nat) (hn : n ≠ 0) : Toward.even.cut neg (n <<< k) (d + k) = Toward.even.cut neg n d := by
  have hl : (n <<< k).log2 = n.log2 + k := by
    rw [log2_shl hn]
  have hg : 1 <<< min (d + k) ((n <<< k).log2 + 2) = (1 <<< min d (n.log2 + 2)) * 2 ^ k := by
    rw [hl, show min (d + k) (n.log2 + k + 2) = min d (n.log2 + 2) + k by omega, Nat.shiftLeft_add, Nat.shiftLeft_eq]
  have hp : 0 < 2 ^ k := Nat.two_pow_pos k
  unfold Toward.cut
  simp only [hg]
  generalize hG : 1 <<< min d (n.log2 + 2) = g
  have hg0 : 0 < g := by rw [← hG, Nat.shiftLeft_eq]; exact Nat.mul_pos (by omega) (Nat.two_pow_pos _)
  have e1 : n <<< k / (g * 2 ^ k) = n / g := by
    rw [Nat.shiftLeft_eq, Nat.mul_div_mul_right _ _ hp]
  have e2 : n <<< k % (g * 2 ^ k) = (n % g) * 2 ^ k := by
    rw [Nat.shiftLeft_eq, Nat.mul_mod_mul_right]
  rw [e1, e2]
  have e3 : (g * 2 ^ k < 2 * (n % g * 2 ^ k)) ↔ g < 2 * (n % g) := by
    rw [← Nat.mul_assoc]; exact Nat.mul_lt_mul_right hp
  have e4 : (g * 2 ^ k = 2 * (n % g * 2 ^ k)) ↔ g = 2 * (n % g) := by
    rw [← Nat.mul_assoc]; exact Nat.mul_left_inj (by omega)
  have e5 : (g * 2 ^ k == 2 * (n % g * 2 ^ k)) = (g == 2 * (n % g)) := by
    rw [Bool.eq_iff_iff]; simp only [beq_iff_eq]; exact e4
  simp only [e3, e5]

theorem nearest_shift (f : Format) (neg : Bool) (m k : Nat) (e : Int) : f.nearest neg (m <<< k) (e - k) = f.nearest neg m e := by
  by_cases hm : m = 0
  · subst hm; simp [Format.nearest]
  have hmk : m <<< k ≠ 0 := by
    rw [Nat.shiftLeft_eq]; exact Nat.mul_ne_zero hm (by have := Nat.two_pow_pos k; omega)
  have hl : (m <<< k).log2 = m.log2 + k := log2_shl hm
  unfold Format.nearest
  simp only [hm, hmk, if_false, hl]
  rw [show e - (k : Int) + ((m.log2 + k : Nat) : Int) - f.fractionBits = e + (m.log2 : Int) - f.fractionBits by omega]
  generalize max (e + (m.log2 : Int) - f.fractionBits) f.leastPlace = last
  have key : Toward.even.cut neg (m <<< k <<< (e - k - last).toNat) (last - (e - k)).toNat = Toward.even.cut neg (m <<< (e - last).toNat) (last - e).toNat := by
    by_cases h1 : last ≤ e - k
    · rw [show (last - (e - k)).toNat = 0 by omega, show (last - e).toNat = 0 by omega, cut_zero, cut_zero, ← Nat.shiftLeft_add]
      congr 1; omega
    · by_cases h2 : last ≤ e
      · rw [show (e - k - last).toNat = 0 by omega, show (last - e).toNat = 0 by omega, cut_zero, Nat.shiftLeft_zero]
        have : m <<< k = (m <<< (e - last).toNat) <<< (last - (e - k)).toNat := by
          rw [← Nat.shiftLeft_add]; congr 1; omega
        rw [this]
        have := cut_shift neg (m <<< (e - last).toNat) 0 (last - (e - k)).toNat (by rw [Nat.shiftLeft_eq]; exact Nat.mul_ne_zero hm (by have := Nat.two_pow_pos (e - last).toNat; omega))
        rw [Nat.zero_add] at this
        rw [this, cut_zero]
      · rw [show (e - k - last).toNat = 0 by omega, show (e - last).toNat = 0 by omega, Nat.shiftLeft_zero, Nat.shiftLeft_zero, show (last - (e - k)).toNat = (last - e).toNat + k by omega]
        exact cut_shift neg m _ k hm
  rw [key]

theorem word_read_parts (f : Format) (neg : Bool) (rung : Nat) (h : rung < f.signWeight) :
    (f.word neg rung / f.signWeight % 2 == 1) = neg ∧ f.word neg rung % f.signWeight = rung := by
  have hs : 0 < f.signWeight := Nat.two_pow_pos _
  unfold Format.word
  cases neg
  · simp only [Bool.false_eq_true, if_false]
    rw [Nat.div_eq_of_lt h, Nat.mod_eq_of_lt h]; simp
  · simp only [if_true]
    rw [Nat.add_div_left _ hs, Nat.div_eq_of_lt h, Nat.add_mod_left, Nat.mod_eq_of_lt h]; simp

/-- What is written of a number that the format has is read again as the same number. -/
theorem read_nearest (f : Format) (neg : Bool) (m : Nat) (e : Int) (hm : m ≠ 0) (last : Int)
    (hlast : last = max (e + m.log2 - f.fractionBits) f.leastPlace) (hle : last ≤ e)
    (hfit : (last - f.leastPlace).toNat * f.binade + m <<< (e - last).toNat < f.infRung) :
    f.read (f.nearest neg m e) = .number neg (m <<< (e - last).toNat) last := by
  have hsw := f.infRung_lt
  have hlog : (m <<< (e - last).toNat).log2 = m.log2 + (e - last).toNat := log2_shl hm
  have hK0 : m <<< (e - last).toNat ≠ 0 := by
    rw [Nat.shiftLeft_eq]; exact Nat.mul_ne_zero hm (by have := Nat.two_pow_pos (e - last).toNat; omega)
  unfold Format.nearest
  rw [if_neg hm]
  simp only [← hlast]
  rw [show (last - e).toNat = 0 by omega, cut_zero, Nat.min_eq_left (Nat.le_of_lt hfit)]
  obtain ⟨p1, p2⟩ := word_read_parts f neg _ (Nat.lt_trans hfit hsw)
  unfold Format.read
  simp only [p1, p2]
  generalize hK : m <<< (e - last).toNat = K at *
  have hb : f.binade = 2 ^ f.fractionBits := rfl
  by_cases hc : e + m.log2 - f.fractionBits < f.leastPlace
  · have hl : last = f.leastPlace := by omega
    have hlt : K < f.binade := by
      rw [hb]; exact (Nat.log2_lt hK0).1 (by omega)
    rw [show (last - f.leastPlace).toNat = 0 by omega, Nat.zero_mul, Nat.zero_add, if_pos hlt, hl]
  · have hl : last = e + m.log2 - f.fractionBits := by omega
    have hlK : K.log2 = f.fractionBits := by omega
    have h1 : f.binade ≤ K := by rw [hb, ← hlK]; exact Nat.log2_self_le hK0
    have h2 : K < 2 * f.binade := by
      have := @Nat.lt_log2_self K
      rw [hlK, Nat.pow_succ] at this; rw [hb]; omega
    have hbp : 0 < f.binade := Nat.two_pow_pos _
    generalize hq : (last - f.leastPlace).toNat = q at *
    obtain ⟨r, rfl⟩ : ∃ r, K = f.binade + r := ⟨K - f.binade, by omega⟩
    have hr : r < f.binade := by omega
    have d1 : (q * f.binade + (f.binade + r)) / f.binade = q + 1 := by
      rw [show q * f.binade + (f.binade + r) = r + (q + 1) * f.binade by rw [Nat.add_mul]; omega, Nat.add_mul_div_right _ _ hbp, Nat.div_eq_of_lt hr, Nat.zero_add]
    have d2 : (q * f.binade + (f.binade + r)) % f.binade = r := by
      rw [show q * f.binade + (f.binade + r) = r + (q + 1) * f.binade by rw [Nat.add_mul]; omega, Nat.add_mul_mod_self_right, Nat.mod_eq_of_lt hr]
    have d0 : ¬ q * f.binade + (f.binade + r) < f.binade := by
      have := Nat.zero_le (q * f.binade); omega
    rw [if_neg d0, if_pos hfit, d1, d2]
    congr 1
    omega

theorem write_read (f : Format) (hfb : f.binade ≤ f.infRung) (w : Nat) (hw : w < 2 ^ f.width) (hn : isNaN f w = false) : f.write (f.read w) = w := by
  have two : 2 ^ f.width = 2 * f.signWeight := by
    unfold Format.width Format.signWeight
    rw [Nat.add_assoc, Nat.add_comm 1, Nat.pow_succ, Nat.mul_comm]
  rw [two] at hw
  have hs : 0 < f.signWeight := Nat.two_pow_pos _
  have hsw := f.infRung_lt
  have hbp : 0 < f.binade := Nat.two_pow_pos _
  have hword : f.word (w / f.signWeight % 2 == 1) (w % f.signWeight) = w := by
    have hd : w / f.signWeight < 2 := Nat.div_lt_of_lt_mul (by omega)
    have hdm := Nat.div_add_mod w f.signWeight
    unfold Format.word
    have hc : ∀ q : Nat, q < 2 → q = 0 ∨ q = 1 := by omega
    rcases hc _ hd with h | h
    · simp [h]; rw [h] at hdm; omega
    · simp [h]; rw [h] at hdm; omega
  unfold isNaN at hn
  unfold Format.read at hn ⊢
  generalize hneg : (w / f.signWeight % 2 == 1) = neg at *
  generalize hrung : w % f.signWeight = rung at *
  simp only at hn ⊢
  by_cases h1 : rung < f.binade
  · rw [if_pos h1]
    simp only [Format.write, Format.nearest]
    by_cases h0 : rung = 0
    · rw [if_pos h0, ← hword, h0]
    · rw [if_neg h0]
      have hlog : rung.log2 < f.fractionBits := (Nat.log2_lt h0).2 h1
      rw [show max (f.leastPlace + (rung.log2 : Int) - f.fractionBits) f.leastPlace = f.leastPlace by omega]
      simp only [Int.sub_self, Int.toNat_zero, Nat.shiftLeft_zero, cut_zero, Nat.zero_mul, Nat.zero_add]
      have hif : rung ≤ f.infRung := by omega
      rw [Nat.min_eq_left hif]
      exact hword
  · rw [if_neg h1] at hn ⊢
    by_cases h2 : rung < f.infRung
    · rw [if_pos h2]
      simp only [Format.write, Format.nearest]
      have hr : rung % f.binade < f.binade := Nat.mod_lt _ hbp
      have hq1 : 1 ≤ rung / f.binade := (Nat.le_div_iff_mul_le hbp).2 (by omega)
      rw [if_neg (by omega)]
      have hlog : (f.binade + rung % f.binade).log2 = f.fractionBits := by
        have hb : f.binade = 2 ^ f.fractionBits := rfl
        refine (Nat.log2_eq_iff (by omega)).2 ⟨by rw [hb]; omega, ?_⟩
        rw [Nat.pow_succ]; rw [hb] at hr ⊢; omega
      rw [hlog]
      rw [show max (f.leastPlace + ((rung / f.binade - 1 : Nat) : Int) + (f.fractionBits : Int) - f.fractionBits) f.leastPlace = f.leastPlace + ((rung / f.binade - 1 : Nat) : Int) by omega]
      simp only [Int.sub_self, Int.toNat_zero, Nat.shiftLeft_zero, cut_zero]
      rw [show (f.leastPlace + ((rung / f.binade - 1 : Nat) : Int) - f.leastPlace).toNat = rung / f.binade - 1 by omega]
      have hdm := Nat.div_add_mod rung f.binade
      have : (rung / f.binade - 1) * f.binade + (f.binade + rung % f.binade) = rung := by
        rw [Nat.sub_mul, Nat.one_mul, Nat.mul_comm]
        have : f.binade ≤ f.binade * (rung / f.binade) := Nat.le_mul_of_pos_right _ hq1
        omega
      rw [this, Nat.min_eq_left (Nat.le_of_lt h2)]
      exact hword
    · rw [if_neg h2] at hn ⊢
      by_cases h3 : rung = f.infRung
      · rw [if_pos h3]
        simp only [Format.write]
        rw [← h3]; exact hword
      · rw [if_neg h3] at hn
        simp [Datum.isNaN] at hn
theorem single_sw : single.signWeight = 2147483648 := by decide +kernel
theorem single_bin : single.binade = 8388608 := by decide +kernel
theorem single_inf : single.infRung = 2139095040 := by decide +kernel
theorem single_lp : single.leastPlace = -149 := by decide +kernel
theorem double_sw : double.signWeight = 9223372036854775808 := by decide +kernel
theorem double_bin : double.binade = 4503599627370496 := by decide +kernel
theorem double_inf : double.infRung = 9218868437227405312 := by decide +kernel
theorem double_lp : double.leastPlace = -1074 := by decide +kernel

theorem read_single_bounds {b : Nat} {s : Bool} {m : Nat} {e : Int} (h : single.read b = .number s m e) : m < 16777216 ∧ -149 ≤ e ∧ e ≤ 104 := by
  unfold Format.read at h
  simp only [single_sw, single_bin, single_inf, single_lp] at h
  split at h
  · rename_i h1
    injection h with h1 h2 h3
    omega
  · split at h
    · rename_i h1 h2
      injection h with h4 h5 h6
      omega
    · split at h <;> cases h

theorem read_double_bounds {b : Nat} {s : Bool} {m : Nat} {e : Int} (h : double.read b = .number s m e) : m < 9007199254740992 ∧ -1074 ≤ e ∧ e ≤ 971 := by
  unfold Format.read at h
  simp only [double_sw, double_bin, double_inf, double_lp] at h
  split at h
  · rename_i h1
    injection h with h1 h2 h3
    omega
  · split at h
    · rename_i h1 h2
      injection h with h4 h5 h6
      omega
    · split at h <;> cases h

def widen (b : Nat) : Nat := double.write (single.read b)

theorem read_word_zero (f : Format) (hb : 0 < f.binade) (s : Bool) : f.read (f.word s 0) = .number s 0 f.leastPlace := by
  obtain ⟨p1, p2⟩ := word_read_parts f s 0 (Nat.two_pow_pos _)
  unfold Format.read
  simp only [p1, p2]
  rw [if_pos hb]

theorem read_word_inf (f : Format) (hb : f.binade ≤ f.infRung) (s : Bool) : f.read (f.word s f.infRung) = .infinity s := by
  obtain ⟨p1, p2⟩ := word_read_parts f s f.infRung f.infRung_lt
  unfold Format.read
  simp only [p1, p2]
  rw [if_neg (by omega), if_neg (by omega), if_pos trivial]

theorem double_hb : double.binade ≤ double.infRung := by decide +kernel
theorem single_hb : single.binade ≤ single.infRung := by decide +kernel

theorem read_widen_num {b : Nat} {s : Bool} {m : Nat} {e : Int} (h : single.read b = .number s m e) (hm : m ≠ 0) :
    ∃ k : Nat, double.read (widen b) = .number s (m <<< k) (e - k) ∧ -1074 ≤ e - k := by
  obtain ⟨h1, h2, h3⟩ := read_single_bounds h
  have hl : m.log2 < 24 := (Nat.log2_lt hm).2 (by omega)
  have hfb : double.fractionBits = 52 := rfl
  refine ⟨52 - m.log2, ?_, by omega⟩
  unfold widen
  rw [h]
  simp only [Format.write]
  have hmax : e - ((52 - m.log2 : Nat) : Int) = max (e + m.log2 - double.fractionBits) double.leastPlace := by
    rw [double_lp, hfb]; omega
  have := read_nearest double s m e hm (e - ((52 - m.log2 : Nat) : Int)) hmax (by omega) (by
    rw [double_lp, double_bin, double_inf, show (e - (e - ((52 - m.log2 : Nat) : Int))).toNat = 52 - m.log2 by omega]
    have hlog := log2_shl (k := 52 - m.log2) hm
    have : m <<< (52 - m.log2) < 2 ^ 53 := by
      refine (Nat.log2_lt ?_).1 (by omega)
      rw [Nat.shiftLeft_eq]; exact Nat.mul_ne_zero hm (by have := Nat.two_pow_pos (52 - m.log2); omega)
    have h5 : (e - ((52 - m.log2 : Nat) : Int) - -1074).toNat ≤ 1178 := by omega
    have h6 := Nat.mul_le_mul_right 4503599627370496 h5
    omega)
  rw [this, show (e - (e - ((52 - m.log2 : Nat) : Int))).toNat = 52 - m.log2 by omega]

theorem read_widen_zero {b : Nat} {s : Bool} {e : Int} (h : single.read b = .number s 0 e) : double.read (widen b) = .number s 0 (-1074) := by
  unfold widen
  rw [h]
  simp only [Format.write, Format.nearest, if_true]
  rw [read_word_zero _ (by decide +kernel), double_lp]

theorem read_widen_inf {b : Nat} {s : Bool} (h : single.read b = .infinity s) : double.read (widen b) = .infinity s := by
  unfold widen
  rw [h]
  exact read_word_inf _ double_hb s

theorem widen_not_nan {b : Nat} (h : isNaN single b = false) : isNaN double (widen b) = false := by
  unfold isNaN at *
  cases hr : single.read b with
  | number s m e =>
    by_cases hm : m = 0
    · subst hm; rw [read_widen_zero hr]; rfl
    · obtain ⟨k, hk, _⟩ := read_widen_num hr hm; rw [hk]; rfl
  | infinity s => rw [read_widen_inf hr]; rfl
  | nan s t => rw [hr] at h; simp [Datum.isNaN] at h

theorem widen_lt (b : Nat) : widen b < 2 ^ 64 := double.write_lt _

theorem narrow_widen {b : Nat} (hb : b < 2 ^ 32) (h : isNaN single b = false) : single.write (double.read (widen b)) = b := by
  have hw := write_read single single_hb b hb h
  unfold isNaN at h
  cases hr : single.read b with
  | number s m e =>
    rw [hr] at hw
    by_cases hm : m = 0
    · subst hm
      rw [read_widen_zero hr]
      simp only [Format.write, Format.nearest, if_true] at hw ⊢
      exact hw
    · obtain ⟨k, hk, _⟩ := read_widen_num hr hm
      rw [hk]
      simp only [Format.write] at hw ⊢
      rw [nearest_shift]; exact hw
  | infinity s => rw [read_widen_inf hr]; rw [hr] at hw; exact hw
  | nan s t => rw [hr] at h; simp [Datum.isNaN] at h

theorem signed_shift (s : Bool) (m u d : Nat) : signed s m (u + d) = signed s m u * 2 ^ d := by
  unfold signed
  have : ((m <<< (u + d) : Nat) : Int) = (m <<< u : Nat) * 2 ^ d := by
    rw [Nat.shiftLeft_add, Nat.shiftLeft_eq (m <<< u) d]; simp
  cases s <;> simp only [Bool.false_eq_true, if_false, if_true, this]
  rw [Int.neg_mul]

theorem compare_mul (a b : Int) (d : Nat) : compare (a * 2 ^ d) (b * 2 ^ d) = compare a b := by
  have hp : (0 : Int) < 2 ^ d := Int.pow_pos (by omega)
  simp only [compare, compareOfLessAndEq]
  have h1 : a * 2 ^ d < b * 2 ^ d ↔ a < b := Int.mul_lt_mul_right hp
  have h2 : a * 2 ^ d = b * 2 ^ d ↔ a = b := ⟨fun h => Int.eq_of_mul_eq_mul_right (by omega) h, fun h => by rw [h]⟩
  simp only [h1, h2]

theorem order_num (s : Bool) (m : Nat) (i : Int) (t : Bool) (n : Nat) (j c : Int) (hi : c ≤ i) (hj : c ≤ j) :
    Datum.order (.number s m i) (.number t n j) = some (compare (signed s m (i - c).toNat) (signed t n (j - c).toNat)) := by
  simp only [Datum.order]
  rw [show (i - c).toNat = (i - min i j).toNat + (min i j - c).toNat by omega, show (j - c).toNat = (j - min i j).toNat + (min i j - c).toNat by omega,
    signed_shift, signed_shift, compare_mul]

theorem signed_shl (s : Bool) (m k u : Nat) : signed s (m <<< k) u = signed s m (u + k) := by
  unfold signed
  rw [← Nat.shiftLeft_add, Nat.add_comm]

theorem signed_zero (s : Bool) (u : Nat) : signed s 0 u = 0 := by
  unfold signed; cases s <;> simp

/-- What a widened number is, over a common place far below. -/
theorem widen_value {b : Nat} {s : Bool} {m : Nat} {e : Int} (h : single.read b = .number s m e) :
    ∃ m' e', double.read (widen b) = .number s m' e' ∧ -1074 ≤ e' ∧ ∀ c : Int, c ≤ -1074 → signed s m' (e' - c).toNat = signed s m (e - c).toNat := by
  obtain ⟨h1, h2, h3⟩ := read_single_bounds h
  by_cases hm : m = 0
  · subst hm
    exact ⟨0, -1074, read_widen_zero h, by omega, fun c _ => by rw [signed_zero, signed_zero]⟩
  · obtain ⟨k, hk, hk2⟩ := read_widen_num h hm
    refine ⟨_, _, hk, hk2, fun c hc => ?_⟩
    rw [signed_shl]
    congr 1
    omega

theorem order_widen {a b : Nat} (ha : isNaN single a = false) (hb : isNaN single b = false) : double.order (widen a) (widen b) = single.order a b := by
  unfold isNaN at ha hb
  unfold Format.order
  cases hra : single.read a with
  | nan s t => rw [hra] at ha; simp [Datum.isNaN] at ha
  | infinity s =>
    rw [read_widen_inf hra]
    cases hrb : single.read b with
    | nan s t => rw [hrb] at hb; simp [Datum.isNaN] at hb
    | infinity t => rw [read_widen_inf hrb]
    | number t n j =>
      obtain ⟨n', j', hn, _, _⟩ := widen_value hrb
      rw [hn]; rfl
  | number s m i =>
    obtain ⟨m', i', hm, h1, h2⟩ := widen_value hra
    rw [hm]
    cases hrb : single.read b with
    | nan s t => rw [hrb] at hb; simp [Datum.isNaN] at hb
    | infinity t => rw [read_widen_inf hrb]; rfl
    | number t n j =>
      obtain ⟨n', j', hn, h3, h4⟩ := widen_value hrb
      obtain ⟨_, h5, _⟩ := read_single_bounds hra
      obtain ⟨_, h6, _⟩ := read_single_bounds hrb
      rw [hn, order_num s m' i' t n' j' (-1074) h1 h3, order_num s m i t n j (-1074) (by omega) (by omega), h2 _ (Int.le_refl _), h4 _ (Int.le_refl _)]
end FloatKit
