/- The magnitudes of floating-point results: rounding passes no number of the format; so bounds are kept, and narrowing does not overflow. No condition but those typed. -/
import Derived.Test.YtncbohecppdfnaaFloatOrder
namespace FloatKit
open Ieee Go

/-- Rounding to a whole number does not pass a whole number. -/
theorem cut_le (neg : Bool) (n d N : Nat) (h : n ≤ N * 2 ^ d) : Toward.even.cut neg n d ≤ N := by
  unfold Toward.cut
  simp only
  -- the gap is 2^g with g = min d (log2 n + 2)
  have hg : 1 <<< min d (n.log2 + 2) = 2 ^ min d (n.log2 + 2) := by rw [Nat.shiftLeft_eq, Nat.one_mul]
  rw [hg]
  generalize hG : min d (n.log2 + 2) = g
  have hgd : g ≤ d := by omega
  have hp : 0 < 2 ^ g := Nat.two_pow_pos g
  have hdm := Nat.div_add_mod n (2 ^ g)
  have hml : n % 2 ^ g < 2 ^ g := Nat.mod_lt _ hp
  -- either the gap is exact, or the whole of n is below it
  by_cases hd : g = d
  · subst hd
    generalize n / 2 ^ g = q at *
    generalize n % 2 ^ g = r at *
    have hq : q ≤ N := by
      have : 2 ^ g * q ≤ N * 2 ^ g := by omega
      rw [Nat.mul_comm] at this
      exact Nat.le_of_mul_le_mul_right this hp
    by_cases hr : r = 0
    · subst hr
      have h1 : decide (2 ^ g < 2 * 0) = false := by simp
      have h2 : (2 ^ g == 2 * 0) = false := by
        rw [beq_eq_false_iff_ne]; omega
      rw [h1, h2]; simpa using hq
    · have hq2 : q + 1 ≤ N := by
        have h3 : 2 ^ g * q < N * 2 ^ g := by omega
        rw [Nat.mul_comm] at h3
        exact Nat.lt_of_mul_lt_mul_right h3
      have hb : ∀ b : Bool, b.toNat ≤ 1 := by intro b; cases b <;> simp
      exact Nat.le_trans (Nat.add_le_add_left (hb _) q) hq2
  · have hgl : g = n.log2 + 2 := by omega
    have hlt : 2 * n < 2 ^ g := by
      have := @Nat.lt_log2_self n
      rw [hgl, Nat.pow_succ]; omega
    have hq : n / 2 ^ g = 0 := Nat.div_eq_of_lt (by omega)
    have hr : n % 2 ^ g = n := Nat.mod_eq_of_lt (by omega)
    rw [hq, hr]
    have h1 : decide (2 ^ g < 2 * n) = false := by simp; omega
    have h2 : (2 ^ g == 2 * n) = false := by
      rw [beq_eq_false_iff_ne]; omega
    rw [h1, h2]; simp

/-- Rounding does not pass a number of the format: of no more than the number of the rung R, no more than R comes. -/
theorem nearest_le (f : Format) (neg : Bool) (m : Nat) (e : Int) (R : Nat) (_ : R ≤ f.infRung) (c : Int) (hc1 : c ≤ e) (hc2 : c ≤ f.leastPlace)
    (h : m * 2 ^ (e - c).toNat ≤ rungVal f R * 2 ^ (f.leastPlace - c).toNat) : f.nearest neg m e % f.signWeight ≤ R := by
  have hbp := binade_pos f
  have hsw := f.infRung_lt
  rw [nearest_mod]
  unfold Format.nearest
  by_cases hm : m = 0
  · rw [if_pos hm]; exact Nat.zero_le _
  rw [if_neg hm]
  simp only
  generalize hlast : max (e + (m.log2 : Int) - f.fractionBits) f.leastPlace = last
  generalize hkept : Toward.even.cut false (m <<< (e - last).toNat) (last - e).toNat = kept
  show min ((last - f.leastPlace).toNat * f.binade + kept) f.infRung ≤ R
  refine Nat.le_trans (Nat.min_le_left ..) ?_
  -- what is kept is no more than a whole number that is no less than the number
  have keep : ∀ N : Nat, m * 2 ^ (e - c).toNat ≤ N * 2 ^ (last - c).toNat → kept ≤ N := by
    intro N hN
    rw [← hkept]
    by_cases hle : last ≤ e
    · rw [show (last - e).toNat = 0 by omega, cut_zero, Nat.shiftLeft_eq]
      rw [show (e - c).toNat = (e - last).toNat + (last - c).toNat by omega, Nat.pow_add, ← Nat.mul_assoc] at hN
      exact Nat.le_of_mul_le_mul_right hN (Nat.two_pow_pos _)
    · rw [show (e - last).toNat = 0 by omega, Nat.shiftLeft_zero]
      refine cut_le false m _ N ?_
      rw [show (last - c).toNat = (last - e).toNat + (e - c).toNat by omega, Nat.pow_add, ← Nat.mul_assoc] at hN
      exact Nat.le_of_mul_le_mul_right hN (Nat.two_pow_pos _)
  have hb : f.binade = 2 ^ f.fractionBits := rfl
  -- the number is at least binade places of 'last', where 'last' is above the least place
  have hlow : f.leastPlace < last → f.binade * 2 ^ (last - c).toNat ≤ m * 2 ^ (e - c).toNat := by
    intro hl
    have h1 : last = e + (m.log2 : Int) - f.fractionBits := by omega
    have h2 : 2 ^ m.log2 ≤ m := Nat.log2_self_le hm
    rw [hb, ← Nat.pow_add]
    rw [show f.fractionBits + (last - c).toNat = m.log2 + (e - c).toNat by omega, Nat.pow_add]
    exact Nat.mul_le_mul_right _ h2
  have hhigh : m * 2 ^ (e - c).toNat < 2 * f.binade * 2 ^ (last - c).toNat := by
    have h2 : m < 2 ^ (m.log2 + 1) := Nat.lt_log2_self
    have h3 : m * 2 ^ (e - c).toNat < 2 ^ (m.log2 + 1) * 2 ^ (e - c).toNat := Nat.mul_lt_mul_of_pos_right h2 (Nat.two_pow_pos _)
    refine Nat.lt_of_lt_of_le h3 ?_
    rw [hb, ← Nat.pow_succ', ← Nat.pow_add, ← Nat.pow_add]
    exact Nat.pow_le_pow_right (by omega) (by omega)
  have hk2 : kept ≤ 2 * f.binade := keep _ (Nat.le_of_lt hhigh)
  by_cases hl : last = f.leastPlace
  · rw [show (last - f.leastPlace).toNat = 0 by omega, Nat.zero_mul, Nat.zero_add]
    by_cases hRs : R < 2 * f.binade
    · -- there a rung is its value
      have hv : rungVal f R = R := by
        unfold rungVal
        split
        · rfl
        · have e1 : R / f.binade = 1 := by
            refine Nat.div_eq_of_lt_le ?_ ?_ <;> omega
          have e2 : R % f.binade = R - f.binade := by
            rw [Nat.mod_eq_sub_mod (by omega), Nat.mod_eq_of_lt (by omega)]
          rw [e1, e2, Nat.sub_self, Nat.shiftLeft_zero]; omega
      rw [hv] at h
      exact keep R (by rw [hl]; exact h)
    · omega
  · have hl2 : f.leastPlace < last := by omega
    have hlo := Nat.le_trans (hlow hl2) h
    by_cases hRs : R < f.binade
    · exfalso
      have hv : rungVal f R = R := by unfold rungVal; rw [if_pos hRs]
      rw [hv, show (last - c).toNat = (last - f.leastPlace).toNat + (f.leastPlace - c).toNat by omega, Nat.pow_add, ← Nat.mul_assoc] at hlo
      have := Nat.le_of_mul_le_mul_right hlo (Nat.two_pow_pos _)
      have : f.binade * 1 ≤ f.binade * 2 ^ (last - f.leastPlace).toNat := Nat.mul_le_mul_left _ (Nat.two_pow_pos _)
      omega
    · have hdm := Nat.div_add_mod R f.binade
      have hml : R % f.binade < f.binade := Nat.mod_lt _ hbp
      have hq1 : 1 ≤ R / f.binade := (Nat.le_div_iff_mul_le hbp).2 (by omega)
      have hv : rungVal f R = (f.binade + R % f.binade) * 2 ^ (R / f.binade - 1) := by
        unfold rungVal; rw [if_neg hRs, Nat.shiftLeft_eq]
      rw [hv] at h hlo
      generalize R / f.binade = q at *
      generalize R % f.binade = r at *
      generalize hs : (last - f.leastPlace).toNat = s at *
      have hls : (last - c).toNat = s + (f.leastPlace - c).toNat := by omega
      rw [hls, Nat.pow_add, ← Nat.mul_assoc] at hlo
      have hlo2 := Nat.le_of_mul_le_mul_right hlo (Nat.two_pow_pos _)
      -- so q - 1 is no less than s
      have hsq : s ≤ q - 1 := by
        rcases Nat.lt_or_ge (q - 1) s with hlt | hge
        · exfalso
          have h5 : 2 ^ (q - 1) * 2 ≤ 2 ^ s := by rw [← Nat.pow_succ]; exact Nat.pow_le_pow_right (by omega) (by omega)
          have h6 : f.binade * (2 ^ (q - 1) * 2) ≤ f.binade * 2 ^ s := Nat.mul_le_mul_left _ h5
          have h7 : (f.binade + r) * 2 ^ (q - 1) < (2 * f.binade) * 2 ^ (q - 1) := Nat.mul_lt_mul_of_pos_right (by omega) (Nat.two_pow_pos _)
          have h8 : f.binade * (2 ^ (q - 1) * 2) = (2 * f.binade) * 2 ^ (q - 1) := by
            rw [Nat.mul_comm (2 ^ (q - 1)) 2, ← Nat.mul_assoc, Nat.mul_comm f.binade 2]
          omega
        · exact hge
      rw [← hdm]
      by_cases heq : s = q - 1
      · have hk := keep (f.binade + r) (by rw [hls, Nat.pow_add, ← Nat.mul_assoc, heq]; exact h)
        have : f.binade * q = s * f.binade + f.binade := by
          rw [heq, Nat.mul_comm, Nat.sub_mul, Nat.one_mul]
          have : f.binade ≤ q * f.binade := Nat.le_mul_of_pos_left _ hq1
          omega
        omega
      · have : (s + 2) * f.binade ≤ f.binade * q := by rw [Nat.mul_comm f.binade q]; exact Nat.mul_le_mul_right _ (by omega)
        rw [Nat.add_mul] at this
        omega

theorem cut_ge (neg : Bool) (n d N : Nat) (h : N * 2 ^ d ≤ n) : N ≤ Toward.even.cut neg n d := by
  unfold Toward.cut
  simp only
  have hg : 1 <<< min d (n.log2 + 2) = 2 ^ min d (n.log2 + 2) := by rw [Nat.shiftLeft_eq, Nat.one_mul]
  rw [hg]
  refine Nat.le_trans ?_ (Nat.le_add_right _ _)
  by_cases hd : d ≤ n.log2 + 2
  · rw [Nat.min_eq_left hd]
    exact (Nat.le_div_iff_mul_le (Nat.two_pow_pos d)).2 h
  · have h1 : n < 2 ^ d := by
      have h2 := @Nat.lt_log2_self n
      exact Nat.lt_of_lt_of_le h2 (Nat.pow_le_pow_right (by omega) (by omega))
    rcases Nat.eq_zero_or_pos N with h0 | h0
    · rw [h0]; exact Nat.zero_le _
    · have : 1 * 2 ^ d ≤ N * 2 ^ d := Nat.mul_le_mul_right _ h0
      omega

/-- .. of no less than the number of the rung R, no less than R comes. -/
theorem nearest_ge (f : Format) (neg : Bool) (m : Nat) (e : Int) (R : Nat) (hR : R ≤ f.infRung) (c : Int) (hc1 : c ≤ e) (hc2 : c ≤ f.leastPlace)
    (h : rungVal f R * 2 ^ (f.leastPlace - c).toNat ≤ m * 2 ^ (e - c).toNat) : R ≤ f.nearest neg m e % f.signWeight := by
  have hbp := binade_pos f
  have hsw := f.infRung_lt
  rw [nearest_mod]
  unfold Format.nearest
  by_cases hm : m = 0
  · rw [if_pos hm]
    rw [hm, Nat.zero_mul] at h
    have h0 : rungVal f R * 2 ^ (f.leastPlace - c).toNat = 0 := by omega
    rcases Nat.mul_eq_zero.1 h0 with h1 | h1
    · have := rungVal_inj (f := f) (h1.trans (rungVal_zero f).symm); omega
    · have := Nat.two_pow_pos (f.leastPlace - c).toNat; omega
  rw [if_neg hm]
  simp only
  generalize hlast : max (e + (m.log2 : Int) - f.fractionBits) f.leastPlace = last
  generalize hkept : Toward.even.cut false (m <<< (e - last).toNat) (last - e).toNat = kept
  show R ≤ min ((last - f.leastPlace).toNat * f.binade + kept) f.infRung
  refine Nat.le_min.2 ⟨?_, hR⟩
  have keep : ∀ N : Nat, N * 2 ^ (last - c).toNat ≤ m * 2 ^ (e - c).toNat → N ≤ kept := by
    intro N hN
    rw [← hkept]
    by_cases hle : last ≤ e
    · rw [show (last - e).toNat = 0 by omega, cut_zero, Nat.shiftLeft_eq]
      rw [show (e - c).toNat = (e - last).toNat + (last - c).toNat by omega, Nat.pow_add, ← Nat.mul_assoc] at hN
      exact Nat.le_of_mul_le_mul_right hN (Nat.two_pow_pos _)
    · rw [show (e - last).toNat = 0 by omega, Nat.shiftLeft_zero]
      refine cut_ge false m _ N ?_
      rw [show (last - c).toNat = (last - e).toNat + (e - c).toNat by omega, Nat.pow_add, ← Nat.mul_assoc] at hN
      exact Nat.le_of_mul_le_mul_right hN (Nat.two_pow_pos _)
  have hb : f.binade = 2 ^ f.fractionBits := rfl
  have hlow : f.leastPlace < last → f.binade * 2 ^ (last - c).toNat ≤ m * 2 ^ (e - c).toNat := by
    intro hl
    have h2 : 2 ^ m.log2 ≤ m := Nat.log2_self_le hm
    rw [hb, ← Nat.pow_add, show f.fractionBits + (last - c).toNat = m.log2 + (e - c).toNat by omega, Nat.pow_add]
    exact Nat.mul_le_mul_right _ h2
  have hhigh : m * 2 ^ (e - c).toNat < 2 * f.binade * 2 ^ (last - c).toNat := by
    have h3 : m * 2 ^ (e - c).toNat < 2 ^ (m.log2 + 1) * 2 ^ (e - c).toNat := Nat.mul_lt_mul_of_pos_right Nat.lt_log2_self (Nat.two_pow_pos _)
    refine Nat.lt_of_lt_of_le h3 ?_
    rw [hb, ← Nat.pow_succ', ← Nat.pow_add, ← Nat.pow_add]
    exact Nat.pow_le_pow_right (by omega) (by omega)
  have hv2 : ¬ R < f.binade → rungVal f R = (f.binade + R % f.binade) * 2 ^ (R / f.binade - 1) := by
    intro hRs; unfold rungVal; rw [if_neg hRs, Nat.shiftLeft_eq]
  by_cases hRb : R < f.binade
  · have hv : rungVal f R = R := by unfold rungVal; rw [if_pos hRb]
    by_cases hl : last = f.leastPlace
    · have := keep R (by rw [hl, ← hv]; exact h)
      omega
    · have := keep f.binade (hlow (by omega))
      omega
  · have hdm := Nat.div_add_mod R f.binade
    have hml : R % f.binade < f.binade := Nat.mod_lt _ hbp
    have hq1 : 1 ≤ R / f.binade := (Nat.le_div_iff_mul_le hbp).2 (by omega)
    have hv := hv2 hRb
    rw [hv] at h
    generalize R / f.binade = q at *
    generalize R % f.binade = r at *
    generalize hs : (last - f.leastPlace).toNat = s at *
    have hls : (last - c).toNat = s + (f.leastPlace - c).toNat := by omega
    -- q - 1 is no greater than s
    have hsq : q - 1 ≤ s := by
      rcases Nat.lt_or_ge s (q - 1) with hlt | hge
      · exfalso
        rw [hls, Nat.pow_add, ← Nat.mul_assoc] at hhigh
        have h5 := Nat.lt_of_mul_lt_mul_right (Nat.lt_of_le_of_lt h hhigh)
        have h6 : 2 ^ s * 2 ≤ 2 ^ (q - 1) := by rw [← Nat.pow_succ]; exact Nat.pow_le_pow_right (by omega) (by omega)
        have h7 : f.binade * (2 ^ s * 2) ≤ f.binade * 2 ^ (q - 1) := Nat.mul_le_mul_left _ h6
        have h8 : f.binade * (2 ^ s * 2) = 2 * f.binade * 2 ^ s := by rw [Nat.mul_comm (2 ^ s) 2, ← Nat.mul_assoc, Nat.mul_comm f.binade 2]
        have h9 : f.binade * 2 ^ (q - 1) ≤ (f.binade + r) * 2 ^ (q - 1) := Nat.mul_le_mul_right _ (by omega)
        omega
      · exact hge
    rw [← hdm]
    by_cases heq : q - 1 = s
    · have hk := keep (f.binade + r) (by rw [hls, Nat.pow_add, ← Nat.mul_assoc, ← heq]; exact h)
      have : f.binade * q = s * f.binade + f.binade := by
        rw [← heq, Nat.mul_comm, Nat.sub_mul, Nat.one_mul]
        have : f.binade ≤ q * f.binade := Nat.le_mul_of_pos_left _ hq1
        omega
      omega
    · have hk := keep f.binade (hlow (by omega))
      have : f.binade * q ≤ s * f.binade := by rw [Nat.mul_comm f.binade q]; exact Nat.mul_le_mul_right _ (by omega)
      omega

/-- The magnitude of a float64, in units of 2 to the power of -1074. -/
def mag (x : Nat) : Nat := rungVal double (x % 9223372036854775808)

theorem mag_read {x : Nat} {s : Bool} {m : Nat} {e : Int} (h : double.read x = .number s m e) : m * 2 ^ (e + 1074).toNat = mag x ∧ -1074 ≤ e ∧ (x / 9223372036854775808 % 2 == 1) = s := by
  obtain ⟨h1, h2, _, h4⟩ := read_sval double_hb h
  rw [double_lp] at h1 h2
  rw [double_sw] at h4
  refine ⟨?_, h2, h4⟩
  unfold sval at h1
  rw [double_sw, h4] at h1
  rw [show e - -1074 = e + 1074 by omega] at h1
  unfold mag
  unfold signed at h1
  rw [Nat.shiftLeft_eq] at h1
  cases s
  · simp only [Bool.false_eq_true, if_false] at h1; exact Int.ofNat_inj.1 h1
  · simp only [if_true] at h1
    have := Int.neg_inj.1 h1
    exact Int.ofNat_inj.1 this

/-- 2 to the power of k, as a rung. -/
theorem rung_pow (k : Nat) (hk : 52 ≤ k) : rungVal double ((k - 51) * 4503599627370496) = 2 ^ k := by
  unfold rungVal
  rw [double_bin, if_neg (by omega), Nat.mul_mod_left, Nat.mul_div_cancel _ (by omega), Nat.add_zero, Nat.shiftLeft_eq, show (4503599627370496 : Nat) = 2 ^ 52 by decide, ← Nat.pow_add]
  congr 1; omega

/-- A number of a magnitude of no more than 2 to the power of k - 1074. -/
def Mag (k : Nat) (x : Nat) : Prop := isNaN double x = false ∧ mag x ≤ 2 ^ k

theorem rungVal_le_iff {f : Format} {a b : Nat} : rungVal f a ≤ rungVal f b ↔ a ≤ b := by
  rw [← Nat.not_lt, ← Nat.not_lt, rungVal_lt_iff]

theorem Mag.read {k x : Nat} (h : Mag k x) (hk : k ≤ 2097) : ∃ s m e, double.read x = .number s m e ∧ m * 2 ^ (e + 1074).toNat ≤ 2 ^ k ∧ -1074 ≤ e := by
  have hf : finite double x = true := by
    unfold finite
    rw [double_sw]
    refine decide_eq_true ?_
    refine (rungVal_lt_iff (f := double)).1 (Nat.lt_of_le_of_lt h.2 ?_)
    obtain ⟨K, hK⟩ : ∃ K, K = 2098 := ⟨_, rfl⟩
    have : double.infRung = (K - 51) * 4503599627370496 := by rw [hK]; decide
    rw [this, rung_pow K (by omega)]
    exact Nat.pow_lt_pow_right (by omega) (by omega)
  obtain ⟨s, m, e, hr⟩ := (finite_iff double_hb x).1 hf
  obtain ⟨h1, h2, _⟩ := mag_read hr
  exact ⟨s, m, e, hr, by rw [h1]; exact h.2, h2⟩

/-- What is written of a number of such a magnitude has such a magnitude. -/
theorem Mag.write (neg : Bool) (m : Nat) (e c : Int) (k : Nat) (hk1 : 52 ≤ k) (hk2 : k ≤ 2097) (hc1 : c ≤ e) (hc2 : c ≤ -1074)
    (h : m * 2 ^ (e - c).toNat ≤ 2 ^ (k + (-1074 - c).toNat)) : Mag k (double.nearest neg m e) := by
  have hinf : double.infRung = 2047 * 4503599627370496 := by decide
  have hR : (k - 51) * 4503599627370496 ≤ double.infRung := by rw [hinf]; exact Nat.mul_le_mul_right _ (by omega)
  have key := nearest_le double neg m e ((k - 51) * 4503599627370496) hR c hc1 (by rw [double_lp]; exact hc2) (by rw [rung_pow k hk1, double_lp, ← Nat.pow_add]; exact h)
  rw [double_sw] at key
  refine ⟨?_, ?_⟩
  · rw [nan_above double_hb, double_sw]
    exact decide_eq_false (by omega)
  · unfold mag
    rw [← rung_pow k hk1]
    exact rungVal_le_iff.2 key

theorem Mag.mono {a b x : Nat} (h : Mag a x) (hab : a ≤ b) : Mag b x := ⟨h.1, Nat.le_trans h.2 (Nat.pow_le_pow_right (by omega) hab)⟩

theorem Mag.mul {a b c x y : Nat} (hx : Mag a x) (hy : Mag b y) (ha : a ≤ 2097) (hb : b ≤ 2097) (hc : a + b ≤ c + 1074) (hc1 : 52 ≤ c) (hc2 : c ≤ 2097) :
    ∃ r, floatBits .mul .f64 x y = some r ∧ Mag c r := by
  obtain ⟨s, m, i, hr1, h1, h2⟩ := hx.read ha
  obtain ⟨t, n, j, hr2, h3, h4⟩ := hy.read hb
  refine ⟨_, show ((double.read x).product (double.read y)).map double.write = some _ by rw [hr1, hr2]; rfl, ?_⟩
  refine Mag.write _ (m * n) (i + j) (-2148) c hc1 hc2 (by omega) (by omega) ?_
  rw [show (i + j - -2148).toNat = (i + 1074).toNat + (j + 1074).toNat by omega, Nat.pow_add, show (-1074 - -2148 : Int).toNat = 1074 by decide]
  have e1 : m * n * (2 ^ (i + 1074).toNat * 2 ^ (j + 1074).toNat) = (m * 2 ^ (i + 1074).toNat) * (n * 2 ^ (j + 1074).toNat) := by
    rw [Nat.mul_assoc, Nat.mul_assoc, ← Nat.mul_assoc n, Nat.mul_comm n, Nat.mul_assoc]
  rw [e1]
  refine Nat.le_trans (Nat.mul_le_mul h1 h3) ?_
  rw [← Nat.pow_add]
  exact Nat.pow_le_pow_right (by omega) hc

theorem natAbs_signed (s : Bool) (m u : Nat) : (signed s m u).natAbs = m * 2 ^ u := by
  unfold signed
  rw [Nat.shiftLeft_eq]
  cases s
  · simp only [Bool.false_eq_true, if_false]; exact Int.natAbs_natCast _
  · simp only [if_true]; rw [Int.natAbs_neg]; exact Int.natAbs_natCast _

theorem sum_mag {k : Nat} {s t : Bool} {m n : Nat} {i j : Int} (hk1 : 52 ≤ k + 1) (hk : k + 1 ≤ 2097)
    (h1 : m * 2 ^ (i + 1074).toNat ≤ 2 ^ k) (h2 : -1074 ≤ i) (h3 : n * 2 ^ (j + 1074).toNat ≤ 2 ^ k) (h4 : -1074 ≤ j) :
    ∃ r, ((Datum.number s m i).sum (.number t n j)).map double.write = some r ∧ Mag (k + 1) r := by
  refine ⟨_, rfl, ?_⟩
  generalize hb : min i j = base
  refine Mag.write _ _ base (-1074) (k + 1) hk1 hk (by omega) (by omega) ?_
  rw [show (base - -1074).toNat = (base + 1074).toNat by omega, show (-1074 - -1074 : Int).toNat = 0 by decide, Nat.add_zero]
  have e1 : (signed s m (i - base).toNat + signed t n (j - base).toNat).natAbs ≤ m * 2 ^ (i - base).toNat + n * 2 ^ (j - base).toNat := by
    have := Int.natAbs_add_le (signed s m (i - base).toNat) (signed t n (j - base).toNat)
    rw [natAbs_signed, natAbs_signed] at this
    exact this
  refine Nat.le_trans (Nat.mul_le_mul_right _ e1) ?_
  rw [Nat.add_mul, Nat.mul_assoc, Nat.mul_assoc, ← Nat.pow_add, ← Nat.pow_add, show (i - base).toNat + (base + 1074).toNat = (i + 1074).toNat by omega, show (j - base).toNat + (base + 1074).toNat = (j + 1074).toNat by omega, Nat.pow_succ]
  omega

theorem Mag.add {a x y : Nat} (hx : Mag a x) (hy : Mag a y) (ha1 : 51 ≤ a) (ha : a ≤ 2096) : ∃ r, floatBits .add .f64 x y = some r ∧ Mag (a + 1) r := by
  obtain ⟨s, m, i, hr1, h1, h2⟩ := hx.read (by omega)
  obtain ⟨t, n, j, hr2, h3, h4⟩ := hy.read (by omega)
  obtain ⟨r, hr, hm⟩ := sum_mag (s := s) (t := t) (by omega) (by omega) h1 h2 h3 h4
  exact ⟨r, by show ((double.read x).sum (double.read y)).map double.write = some r; rw [hr1, hr2]; exact hr, hm⟩

theorem Mag.sub {a x y : Nat} (hx : Mag a x) (hy : Mag a y) (ha1 : 51 ≤ a) (ha : a ≤ 2096) : ∃ r, floatBits .sub .f64 x y = some r ∧ Mag (a + 1) r := by
  obtain ⟨s, m, i, hr1, h1, h2⟩ := hx.read (by omega)
  obtain ⟨t, n, j, hr2, h3, h4⟩ := hy.read (by omega)
  obtain ⟨r, hr, hm⟩ := sum_mag (s := s) (t := !t) (by omega) (by omega) h1 h2 h3 h4
  exact ⟨r, by show ((double.read x).sum (double.read y).opposite).map double.write = some r; rw [hr1, hr2]; exact hr, hm⟩

/-- A magnitude of no less than 2 to the power of k - 1074. -/
def Least (k : Nat) (x : Nat) : Prop := isNaN double x = false ∧ 2 ^ k ≤ mag x

theorem Mag.div {a b c x y : Nat} (hx : Mag a x) (hy : Least b y) (hy2 : Mag 2097 y) (ha : a ≤ 2097) (hc : a + 1074 ≤ c + b) (hc1 : 52 ≤ c) (hc2 : c ≤ 2097) :
    ∃ r, floatBits .quo .f64 x y = some r ∧ Mag c r := by
  obtain ⟨s, m, i, hr1, h1, h2⟩ := hx.read ha
  obtain ⟨t, n, j, hr2, h3, h4⟩ := hy2.read (Nat.le_refl _)
  have hl : 2 ^ b ≤ n * 2 ^ (j + 1074).toNat := by rw [(mag_read hr2).1]; exact hy.2
  have hn : n ≠ 0 := by
    intro h0
    rw [h0, Nat.zero_mul] at hl
    have := Nat.two_pow_pos b
    omega
  have hq : (Datum.number s m i).quotient 54 (.number t n j) = some (.number (s ^^ t) (2 * ((m <<< (54 + n.log2 - m.log2)) / n) + ((m <<< (54 + n.log2 - m.log2)) % n != 0).toNat) (i - j - ((54 + n.log2 - m.log2 : Nat) : Int) - 1)) := by
    simp only [Datum.quotient, hn, if_false]
  refine ⟨_, show ((double.read x).quotient 54 (double.read y)).map double.write = some _ by rw [hr1, hr2, hq]; rfl, ?_⟩
  generalize hw : 54 + n.log2 - m.log2 = w at *
  rw [Nat.shiftLeft_eq]
  generalize hD : m * 2 ^ w = D at *
  have hdm := Nat.div_add_mod D n
  have hml : D % n < n := Nat.mod_lt _ (by omega)
  generalize hQ : D / n = Q at *
  generalize hRm : D % n = R at *
  -- twice the quotient and one more, where anything is left over: no more than twice the next whole number; and a number that is no less than the quotient
  have sticky : ∀ Z : Nat, D ≤ Z * n → 2 * Q + (R != 0).toNat ≤ 2 * Z := by
    intro Z hZ
    by_cases hR0 : R = 0
    · subst hR0
      have : n * Q ≤ Z * n := by omega
      rw [Nat.mul_comm] at this
      have := Nat.le_of_mul_le_mul_right this (by omega)
      simp; omega
    · have : n * Q < Z * n := by omega
      rw [Nat.mul_comm] at this
      have := Nat.lt_of_mul_lt_mul_right this
      have hb : (R != 0).toNat ≤ 1 := by cases (R != 0) <;> simp
      omega
  by_cases hm0 : m = 0
  · subst hm0
    have hD0 : D = 0 := by rw [← hD, Nat.zero_mul]
    subst hD0
    have := sticky 0 (by omega)
    rw [show 2 * Q + (R != 0).toNat = 0 by omega]
    exact Mag.write _ 0 _ (min (i - j - (w : Int) - 1) (-1074)) c hc1 hc2 (by omega) (by omega) (by rw [Nat.zero_mul]; exact Nat.zero_le _)
  · -- the place from which all is counted
    have hplace : ∃ p : Int, p = min (i - j - (w : Int) - 1) (-1074) := ⟨_, rfl⟩
    obtain ⟨p, hp⟩ := hplace
    refine Mag.write _ _ _ p c hc1 hc2 (by omega) (by omega) ?_
    -- D 2^.. n-wise
    have hD2 : D * 2 ^ (i + 1074).toNat ≤ 2 ^ (a + w) := by
      rw [← hD, Nat.mul_comm m, Nat.mul_assoc, Nat.pow_add, Nat.mul_comm (2 ^ a)]
      exact Nat.mul_le_mul_left _ h1
    -- the quotient is at least 2^53
    have hbig : n * 2 ^ 53 ≤ D := by
      have g1 : n < 2 ^ (n.log2 + 1) := Nat.lt_log2_self
      have g2 : 2 ^ m.log2 ≤ m := Nat.log2_self_le hm0
      have g3 : 2 ^ (n.log2 + 1 + 53) ≤ D := by
        rw [← hD]
        refine Nat.le_trans ?_ (Nat.mul_le_mul_right _ g2)
        rw [← Nat.pow_add]
        exact Nat.pow_le_pow_right (by omega) (by omega)
      refine Nat.le_trans ?_ g3
      rw [Nat.pow_add]
      exact Nat.mul_le_mul_right _ (Nat.le_of_lt g1)
    generalize hi' : (i + 1074).toNat = i' at *
    generalize hj' : (j + 1074).toNat = j' at *
    have cross : D * 2 ^ (i' + b) ≤ 2 ^ (a + w) * (n * 2 ^ j') := by
      rw [Nat.pow_add, ← Nat.mul_assoc]
      exact Nat.mul_le_mul hD2 hl
    have hz0 : 53 + i' + b ≤ a + w + j' := by
      have g1 : n * 2 ^ 53 * 2 ^ (i' + b) ≤ 2 ^ (a + w) * (n * 2 ^ j') := Nat.le_trans (Nat.mul_le_mul_right _ hbig) cross
      have g2 : n * 2 ^ (53 + i' + b) ≤ n * 2 ^ (a + w + j') := by
        rw [Nat.mul_assoc, ← Nat.pow_add, ← Nat.mul_assoc, Nat.mul_comm (2 ^ (a + w)) n, Nat.mul_assoc, ← Nat.pow_add] at g1
        rwa [Nat.add_assoc]
      have g3 := Nat.le_of_mul_le_mul_left g2 (by omega)
      exact (Nat.pow_le_pow_iff_right (by omega)).1 g3
    obtain ⟨z, hz⟩ : ∃ z, a + w + j' = z + (i' + b) := ⟨a + w + j' - (i' + b), by omega⟩
    have hDz : D ≤ 2 ^ z * n := by
      have g1 : D * 2 ^ (i' + b) ≤ 2 ^ z * n * 2 ^ (i' + b) := by
        refine Nat.le_trans cross ?_
        rw [← Nat.mul_assoc, Nat.mul_comm (2 ^ (a + w)) n, Nat.mul_assoc, ← Nat.pow_add, hz, Nat.pow_add, Nat.mul_comm (2 ^ z) n, Nat.mul_assoc]
        exact Nat.le_refl _
      exact Nat.le_of_mul_le_mul_right g1 (Nat.two_pow_pos _)
    have h5 := sticky _ hDz
    refine Nat.le_trans (Nat.mul_le_mul_right _ h5) ?_
    rw [← Nat.pow_succ', ← Nat.pow_add]
    exact Nat.pow_le_pow_right (by omega) (by omega)

theorem rootFrom_le (n : Nat) : ∀ (t r : Nat), r * r ≤ n → Datum.rootFrom n t r * Datum.rootFrom n t r ≤ n
  | 0, r, h => h
  | t + 1, r, h => by
    unfold Datum.rootFrom
    simp only
    split
    · rename_i h2; exact rootFrom_le n t _ h2
    · exact rootFrom_le n t r h

/-- No sign. -/
def NonNeg (x : Nat) : Prop := (x / 9223372036854775808 % 2 == 1) = false

theorem nearest_nonneg (m : Nat) (e : Int) : NonNeg (double.nearest false m e) := by
  unfold NonNeg
  have := nearest_div double false m e
  rw [double_sw] at this
  rw [this]; rfl

/-- The square root of a number without a sign. -/
theorem Mag.sqrt {a c x : Nat} (hx : Mag a x) (hs : NonNeg x) (ha : a ≤ 2097) (hc : a + 1074 ≤ 2 * c) (hc1 : 52 ≤ c) (hc2 : c ≤ 2097) :
    ∃ r, double.sqrt x = some r ∧ Mag c r ∧ NonNeg r := by
  obtain ⟨s, m, i, hr1, h1, h2⟩ := hx.read ha
  have hsf : s = false := by
    have := (mag_read hr1).2.2
    rw [← this]; exact hs
  subst hsf
  by_cases hm : m = 0
  · subst hm
    refine ⟨double.write (.number false 0 i), ?_, ?_, nearest_nonneg 0 i⟩
    · show ((double.read x).root 54).map double.write = _
      rw [hr1]; rfl
    · exact Mag.write false 0 i (-1074) c hc1 hc2 (by omega) (by omega) (by rw [Nat.zero_mul]; exact Nat.zero_le _)
  · generalize hw0 : 2 * 54 - m.log2 = w0
    generalize hw : w0 + ((i - (w0 : Int)) % 2).toNat = w
    generalize hn : m <<< w = n
    generalize hR : Datum.rootFrom n (n.log2 / 2 + 1) 0 = R
    have hroot : (Datum.number false m i).root 54 = some (.number false (2 * R + (R * R != n).toNat) ((i - (w : Int)) / 2 - 1)) := by
      simp only [Datum.root, hm, if_false, Bool.false_eq_true]
      rw [hw0, hw, hn, hR]
    refine ⟨_, show ((double.read x).root 54).map double.write = some _ by rw [hr1, hroot]; rfl, ?_, nearest_nonneg _ _⟩
    have hRn : R * R ≤ n := by
      have := rootFrom_le n (n.log2 / 2 + 1) 0 (by omega)
      rwa [hR] at this
    have heven : (i - (w : Int)) % 2 = 0 := by omega
    obtain ⟨q, hq⟩ : ∃ q : Int, i - (w : Int) = 2 * q := ⟨(i - (w : Int)) / 2, by omega⟩
    rw [show (i - (w : Int)) / 2 = q by omega]
    -- twice the root and one more, where it is not the whole root: no more than twice a number whose square is no less
    have sticky : ∀ Z : Nat, n ≤ Z * Z → 2 * R + (R * R != n).toNat ≤ 2 * Z := by
      intro Z hZ
      have hRZ : R ≤ Z := by
        rcases Nat.lt_or_ge Z R with h | h
        · exfalso
          have h3 : (Z + 1) * (Z + 1) ≤ R * R := Nat.mul_le_mul h h
          have h4 : (Z + 1) * (Z + 1) = Z * Z + Z + Z + 1 := by rw [Nat.add_mul, Nat.mul_add]; omega
          omega
        · exact h
      by_cases he : R * R = n
      · rw [he]; simp; omega
      · have hlt : R < Z := by
          rcases Nat.lt_or_ge R Z with h | h
          · exact h
          · exfalso
            have : R = Z := by omega
            subst this
            exact he (by omega)
        have hb : (R * R != n).toNat ≤ 1 := by cases (R * R != n) <;> simp
        omega
    -- n 2^(i') = m 2^w 2^(i')
    generalize hi' : (i + 1074).toNat = i' at *
    have hn2 : n * 2 ^ i' ≤ 2 ^ (a + w) := by
      rw [← hn, Nat.shiftLeft_eq, Nat.mul_comm m, Nat.mul_assoc, Nat.pow_add, Nat.mul_comm (2 ^ a)]
      exact Nat.mul_le_mul_left _ h1
    have hbig : 2 ^ 108 ≤ n := by
      rw [← hn, Nat.shiftLeft_eq]
      refine Nat.le_trans ?_ (Nat.mul_le_mul_right _ (Nat.log2_self_le hm))
      rw [← Nat.pow_add]
      exact Nat.pow_le_pow_right (by omega) (by omega)
    have hexp : 108 + i' ≤ a + w := by
      have g : 2 ^ (108 + i') ≤ 2 ^ (a + w) := by
        rw [Nat.pow_add]; exact Nat.le_trans (Nat.mul_le_mul_right _ hbig) hn2
      exact (Nat.pow_le_pow_iff_right (by omega)).1 g
    obtain ⟨z, hz⟩ : ∃ z : Nat, a + w ≤ 2 * z + i' ∧ 2 * z + i' ≤ a + w + 1 := ⟨(a + w - i' + 1) / 2, by omega, by omega⟩
    have hnz : n ≤ 2 ^ z * 2 ^ z := by
      have g : n * 2 ^ i' ≤ 2 ^ z * 2 ^ z * 2 ^ i' := by
        refine Nat.le_trans hn2 ?_
        rw [← Nat.pow_add, ← Nat.pow_add]
        exact Nat.pow_le_pow_right (by omega) (by omega)
      exact Nat.le_of_mul_le_mul_right g (Nat.two_pow_pos _)
    have h5 := sticky _ hnz
    obtain ⟨p, hp⟩ : ∃ p : Int, p = min (q - 1) (-1074) := ⟨_, rfl⟩
    refine Mag.write false _ _ p c hc1 hc2 (by omega) (by omega) ?_
    refine Nat.le_trans (Nat.mul_le_mul_right _ h5) ?_
    rw [← Nat.pow_succ', ← Nat.pow_add]
    exact Nat.pow_le_pow_right (by omega) (by omega)

/-- A float32, as a float64, has a magnitude of no more than 2 to the power of 128. -/
theorem Mag.widen {b K : Nat} (h : finite single b = true) (hK : 1202 ≤ K) (hK2 : K ≤ 2097) : Mag K (widen b) := by
  obtain ⟨s, m, e, hr⟩ := (finite_iff single_hb b).1 h
  obtain ⟨h1, h2, h3⟩ := read_single_bounds hr
  unfold FloatKit.widen
  rw [hr]
  refine Mag.write s m e (-1074) K (by omega) (by omega) (by omega) (by omega) ?_
  rw [show (-1074 - -1074 : Int).toNat = 0 by decide, Nat.add_zero]
  have g : m * 2 ^ (e - -1074).toNat ≤ 2 ^ 24 * 2 ^ (e - -1074).toNat := Nat.mul_le_mul_right _ (by omega)
  refine Nat.le_trans g ?_
  rw [← Nat.pow_add]
  exact Nat.pow_le_pow_right (by omega) (by omega)

theorem rung_pow32 (k : Nat) (hk : 23 ≤ k) : rungVal single ((k - 22) * 8388608) = 2 ^ k := by
  unfold rungVal
  rw [single_bin, if_neg (by omega), Nat.mul_mod_left, Nat.mul_div_cancel _ (by omega), Nat.add_zero, Nat.shiftLeft_eq, show (8388608 : Nat) = 2 ^ 23 by decide, ← Nat.pow_add]
  congr 1; omega

/-- Narrowing does not overflow there. -/
theorem Nar.small {k x r : Nat} (hx : Mag k x) (hk : k ≤ 1201) (h : Nar x r) : r = single.write (double.read x) := by
  obtain ⟨s, m, e, hr, h1, h2⟩ := hx.read (by omega)
  obtain ⟨_, h⟩ := h
  rw [hr] at h ⊢
  refine h ?_
  show (single.read (single.nearest s m e)).isInfinity = false
  obtain ⟨K, hK⟩ : ∃ K, K = 276 := ⟨_, rfl⟩
  have hv : rungVal single 2130706432 = 2 ^ K := by rw [← rung_pow32 K (by omega), hK]
  obtain ⟨T, hT⟩ : ∃ T : Nat, T = 925 := ⟨_, rfl⟩
  have key := nearest_le single s m e 2130706432 (by decide) (-1074) h2 (by decide) (by
    rw [hv, single_lp, show (-149 - -1074 : Int).toNat = T by rw [hT]; decide, ← Nat.pow_add, show e - -1074 = e + 1074 by omega]
    refine Nat.le_trans h1 (Nat.pow_le_pow_right (by omega) (by omega)))
  rw [single_sw] at key
  have hf : finite single (single.nearest s m e) = true := by
    unfold finite; rw [single_sw, single_inf]; exact decide_eq_true (by omega)
  obtain ⟨s', m', e', hr'⟩ := (finite_iff single_hb _).1 hf
  rw [hr']; rfl

/-- Two numbers that are the same, narrowed where nothing overflows, are the same. -/
theorem Nar.eqv {x x' r r' : Nat} (h : Nar x r) (h' : Nar x' r') (he : Eqv double x x') (hm : isNaN double x' = true ∨ ∃ k, k ≤ 1201 ∧ Mag k x') : Eqv single r r' := by
  cases hn : isNaN double x'
  · obtain rfl := he.eq hn
    rcases hm with hm | ⟨k, hk, hm⟩
    · rw [hn] at hm; cases hm
    · rw [Nar.small hm hk h, Nar.small hm hk h']; exact Eqv.refl _ _
  · obtain ⟨s, t, h1⟩ := read_nan hn
    obtain ⟨s', t', h2⟩ := read_nan (he.nan.trans hn)
    obtain ⟨_, h⟩ := h
    obtain ⟨_, h'⟩ := h'
    rw [h1] at h'
    rw [h2] at h
    exact .inr ⟨h, h'⟩

/-- Narrowing is told there: a not-a-number, an infinity, or a number that does not overflow. -/
def Calm (x : Nat) : Prop := isNaN double x = true ∨ (∃ s, double.read x = .infinity s) ∨ ∃ k, k ≤ 1201 ∧ Mag k x

theorem Nar.calm {x x' r r' : Nat} (h : Nar x r) (h' : Nar x' r') (he : Eqv double x x') (hm : Calm x') : Eqv single r r' := by
  rcases hm with hm | ⟨s, hs⟩ | hm
  · exact Nar.eqv h h' he (.inl hm)
  · have hn : isNaN double x' = false := by unfold isNaN; rw [hs]; rfl
    obtain rfl := he.eq hn
    obtain ⟨_, h⟩ := h
    obtain ⟨_, h'⟩ := h'
    rw [hs] at h h'
    exact .inl (h.trans h'.symm)
  · exact Nar.eqv h h' he (.inr hm)

/-- The square root; where it is a NaN, one chosen NaN. -/
def sqrtC (x : Nat) : Nat := (double.sqrt x).getD (qnan .f64)
theorem sqrtC_eqv {x y : Nat} (h : Eqv double x y) : sqrtC x = sqrtC y := by
  rcases h with rfl | ⟨a, b⟩
  · rfl
  · obtain ⟨s, t, ha⟩ := read_nan a
    obtain ⟨s', t', hb⟩ := read_nan b
    unfold sqrtC
    rw [show double.sqrt x = ((double.read x).root 54).map double.write from rfl, show double.sqrt y = ((double.read y).root 54).map double.write from rfl, ha, hb]
    rfl

/-- The root of a float32 is narrowed without overflow. -/
theorem root_calm {b x : Nat} (hb : b < 4294967296) (hx : Wid b x) : Calm (sqrtC x) := by
  cases hn : isNaN single b
  · have hxe := hx.eq hn
    subst hxe
    have hsg := widen_sign hb hn
    unfold isNaN at hn
    cases hr : single.read b with
    | nan s t => rw [hr] at hn; cases hn
    | infinity s =>
      have hw := read_widen_inf hr
      have hq : double.sqrt (widen b) = ((Datum.infinity s).root 54).map double.write := by show ((double.read (widen b)).root 54).map double.write = _; rw [hw]
      unfold sqrtC
      rw [hq]
      cases s
      · exact .inr (.inl ⟨false, by decide⟩)
      · exact .inl (by decide)
    | number s m e =>
      have hf : finite single b = true := (finite_iff single_hb b).2 ⟨_, _, _, hr⟩
      have hM := Mag.widen (K := 1202) hf (by omega) (by omega)
      cases s
      · have hnn : NonNeg (widen b) := by
          unfold NonNeg
          rw [hsg]
          have := read_sign hr
          rw [single_sw] at this
          rw [← this]; rfl
        obtain ⟨r, hr2, hm, _⟩ := hM.sqrt (c := 1138) hnn (by omega) (by omega) (by omega) (by omega)
        unfold sqrtC
        rw [hr2]
        exact .inr (.inr ⟨1138, by omega, hm⟩)
      · obtain ⟨m', e', hw, he', _⟩ := widen_value hr
        have hq : double.sqrt (widen b) = ((Datum.number true m' e').root 54).map double.write := by show ((double.read (widen b)).root 54).map double.write = _; rw [hw]
        by_cases h0 : m' = 0
        · subst h0
          have : (Datum.number true 0 e').root 54 = some (.number true 0 e') := by simp [Datum.root]
          unfold sqrtC
          rw [hq, this]
          exact .inr (.inr ⟨1138, by omega, Mag.write true 0 e' (-1074) 1138 (by omega) (by omega) (by omega) (by omega) (by rw [Nat.zero_mul]; exact Nat.zero_le _)⟩)
        · have : (Datum.number true m' e').root 54 = none := by simp [Datum.root, h0]
          unfold sqrtC
          rw [hq, this]
          exact .inl (by decide)
  · obtain ⟨s, t, h⟩ := read_nan (hx.nan.trans hn)
    unfold sqrtC
    rw [show double.sqrt x = ((double.read x).root 54).map double.write from rfl, h]
    exact .inl (qnan_nan .f64)
end FloatKit
