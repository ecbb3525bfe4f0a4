/- Bounds of operations on float32 numbers that are not less than 0: a result is no more, and no less, than a number of the format that the exact one is no more, and no less, than. -/
import Derived.Test.YtncbohecppdfnaaFloatMag
import Derived.Test.YtncbohecppdfnaaFloatSub
namespace FloatKit
open Ieee Go

theorem nn_read {x : Nat} (h : x < 2139095040) : ∃ m i, single.read x = .number false m i ∧ -149 ≤ i ∧ rungVal single x = m * 2 ^ (i + 149).toNat ∧ m < 16777216 := by
  have hf : finite single x = true := by
    unfold finite
    rw [single_sw, single_inf, decide_eq_true_eq, Nat.mod_eq_of_lt (by omega)]; exact h
  obtain ⟨s, m, e, hr⟩ := (finite_iff single_hb x).1 hf
  obtain ⟨h1, h2, _, h4⟩ := read_sval single_hb hr
  have hs : s = false := by
    rw [← h4, single_sw, Nat.div_eq_of_lt (by omega)]; rfl
  subst hs
  have h5 := (read_single_bounds hr).1
  rw [single_lp] at h1 h2
  refine ⟨m, e, hr, h2, ?_, h5⟩
  unfold sval at h1
  rw [h4, if_neg (by simp), single_sw, Nat.mod_eq_of_lt (show x < 2147483648 by omega)] at h1
  unfold signed at h1
  rw [if_neg (by simp), Nat.shiftLeft_eq, show e - -149 = e + 149 by omega] at h1
  exact (Int.ofNat.inj h1).symm
theorem nearest_small (m : Nat) (e : Int) {R : Nat} (hR : R < 2139095040) (h : single.nearest false m e % single.signWeight ≤ R) : single.nearest false m e ≤ R := by
  have h1 := nearest_div single false m e
  rw [single_sw] at h h1
  have := Nat.div_add_mod (single.nearest false m e) 2147483648
  rw [h1] at this
  have h2 : (false.toNat : Nat) = 0 := rfl
  omega
theorem nearest_great (m : Nat) (e : Int) {R : Nat} (h : R ≤ single.nearest false m e % single.signWeight) : R ≤ single.nearest false m e := Nat.le_trans h (Nat.mod_le _ _)
theorem rung_le {a b : Nat} (h : a ≤ b) : rungVal single a ≤ rungVal single b := by
  rcases Nat.lt_or_ge a b with h1 | h1
  · exact Nat.le_of_lt (rungVal_lt h1)
  · rw [show a = b by omega]; exact Nat.le_refl _

theorem mul_at {x y : Nat} (hx : x < 2139095040) (hy : y < 2139095040) : ∃ M e, fop .mul .f32 x y = single.nearest false M e ∧ -298 ≤ e ∧ M * 2 ^ (e + 298).toNat = rungVal single x * rungVal single y := by
  obtain ⟨m, i, hr, hi, hv, _⟩ := nn_read hx
  obtain ⟨n, j, hr2, hj, hv2, _⟩ := nn_read hy
  refine ⟨m * n, i + j, ?_, by omega, ?_⟩
  · show (((single.read x).product (single.read y)).map single.write).getD (qnan .f32) = _
    rw [hr, hr2]; rfl
  · rw [hv, hv2, show (i + j + 298).toNat = (i + 149).toNat + (j + 149).toNat by omega, Nat.pow_add]
    ac_rfl
theorem mul_le {x y R : Nat} (hx : x < 2139095040) (hy : y < 2139095040) (hR : R < 2139095040) (h : rungVal single x * rungVal single y ≤ rungVal single R * 2 ^ 149) : fop .mul .f32 x y ≤ R := by
  obtain ⟨M, e, he, h1, h2⟩ := mul_at hx hy
  rw [he]
  refine nearest_small _ _ hR (nearest_le single false M e R (by rw [single_inf]; omega) (-298) h1 (by rw [single_lp]; omega) ?_)
  rw [show e - -298 = e + 298 by omega, h2, single_lp]
  exact h
theorem add_at {x y : Nat} (hx : x < 2139095040) (hy : y < 2139095040) : ∃ M e, fop .add .f32 x y = single.nearest false M e ∧ -149 ≤ e ∧ M * 2 ^ (e + 149).toNat = rungVal single x + rungVal single y := by
  obtain ⟨m, i, hr, hi, hv, _⟩ := nn_read hx
  obtain ⟨n, j, hr2, hj, hv2, _⟩ := nn_read hy
  have ht : signed false m (i - min i j).toNat + signed false n (j - min i j).toNat = ((m * 2 ^ (i - min i j).toNat + n * 2 ^ (j - min i j).toNat : Nat) : Int) := by
    unfold signed; simp [Nat.shiftLeft_eq]
  refine ⟨m * 2 ^ (i - min i j).toNat + n * 2 ^ (j - min i j).toNat, min i j, ?_, by omega, ?_⟩
  · show (((single.read x).sum (single.read y)).map single.write).getD (qnan .f32) = _
    rw [hr, hr2]
    simp only [Datum.sum]
    rw [ht]
    simp only [Int.natAbs_natCast]
    have hneg : (if ((m * 2 ^ (i - min i j).toNat + n * 2 ^ (j - min i j).toNat : Nat) : Int) = 0 then (false && false) else decide (((m * 2 ^ (i - min i j).toNat + n * 2 ^ (j - min i j).toNat : Nat) : Int) < 0)) = false := by
      split
      · rfl
      · exact decide_eq_false (by omega)
    rw [hneg]; rfl
  · rw [Nat.add_mul, Nat.mul_assoc, Nat.mul_assoc, ← Nat.pow_add, ← Nat.pow_add, hv, hv2]
    congr 2 <;> congr 1 <;> omega
theorem add_le {x y R : Nat} (hx : x < 2139095040) (hy : y < 2139095040) (hR : R < 2139095040) (h : rungVal single x + rungVal single y ≤ rungVal single R) : fop .add .f32 x y ≤ R := by
  obtain ⟨M, e, he, h1, h2⟩ := add_at hx hy
  rw [he]
  refine nearest_small _ _ hR (nearest_le single false M e R (by rw [single_inf]; omega) (-149) h1 (by rw [single_lp]; omega) ?_)
  rw [show e - -149 = e + 149 by omega, h2, single_lp, show ((-149 : Int) - -149).toNat = 0 by rfl, Nat.pow_zero, Nat.mul_one]
  exact h
theorem add_ge {x y R : Nat} (hx : x < 2139095040) (hy : y < 2139095040) (hR : R < 2139095040) (h : rungVal single R ≤ rungVal single x + rungVal single y) : R ≤ fop .add .f32 x y := by
  obtain ⟨M, e, he, h1, h2⟩ := add_at hx hy
  rw [he]
  refine nearest_great _ _ (nearest_ge single false M e R (by rw [single_inf]; omega) (-149) h1 (by rw [single_lp]; omega) ?_)
  rw [show e - -149 = e + 149 by omega, h2, single_lp, show ((-149 : Int) - -149).toNat = 0 by rfl, Nat.pow_zero, Nat.mul_one]
  exact h
theorem sub_at {x y : Nat} (hx : x < 2139095040) (hy : y < 2139095040) (hxy : rungVal single y ≤ rungVal single x) : ∃ M e, fop .sub .f32 x y = single.nearest false M e ∧ -149 ≤ e ∧ M * 2 ^ (e + 149).toNat + rungVal single y = rungVal single x := by
  obtain ⟨m, i, hr, hi, hv, _⟩ := nn_read hx
  obtain ⟨n, j, hr2, hj, hv2, _⟩ := nn_read hy
  have hle : n * 2 ^ (j - min i j).toNat ≤ m * 2 ^ (i - min i j).toNat := by
    rw [hv, hv2] at hxy
    rw [show (i + 149).toNat = (i - min i j).toNat + (min i j + 149).toNat by omega, show (j + 149).toNat = (j - min i j).toNat + (min i j + 149).toNat by omega, Nat.pow_add, Nat.pow_add, ← Nat.mul_assoc, ← Nat.mul_assoc] at hxy
    exact Nat.le_of_mul_le_mul_right hxy (Nat.two_pow_pos _)
  have ht : signed false m (i - min i j).toNat + signed (!false) n (j - min i j).toNat = ((m * 2 ^ (i - min i j).toNat - n * 2 ^ (j - min i j).toNat : Nat) : Int) := by
    rw [signed_not]
    unfold signed
    simp only [Nat.shiftLeft_eq, Bool.false_eq_true, if_false]
    omega
  refine ⟨m * 2 ^ (i - min i j).toNat - n * 2 ^ (j - min i j).toNat, min i j, ?_, by omega, ?_⟩
  · show (((single.read x).sum (single.read y).opposite).map single.write).getD (qnan .f32) = _
    rw [hr, hr2]
    simp only [Datum.opposite, Datum.sum]
    rw [ht]
    simp only [Int.natAbs_natCast]
    have hneg : (if ((m * 2 ^ (i - min i j).toNat - n * 2 ^ (j - min i j).toNat : Nat) : Int) = 0 then (false && !false) else decide (((m * 2 ^ (i - min i j).toNat - n * 2 ^ (j - min i j).toNat : Nat) : Int) < 0)) = false := by
      split
      · rfl
      · exact decide_eq_false (by omega)
    rw [hneg]; rfl
  · have e1 : (m * 2 ^ (i - min i j).toNat - n * 2 ^ (j - min i j).toNat) * 2 ^ (min i j + 149).toNat + n * 2 ^ (j - min i j).toNat * 2 ^ (min i j + 149).toNat = m * 2 ^ (i - min i j).toNat * 2 ^ (min i j + 149).toNat := by
      rw [← Nat.add_mul, Nat.sub_add_cancel hle]
    rw [hv, hv2, show (i + 149).toNat = (i - min i j).toNat + (min i j + 149).toNat by omega, show (j + 149).toNat = (j - min i j).toNat + (min i j + 149).toNat by omega, Nat.pow_add, Nat.pow_add, ← Nat.mul_assoc, ← Nat.mul_assoc]
    exact e1
theorem sub_le {x y R : Nat} (hx : x < 2139095040) (hy : y < 2139095040) (hxy : rungVal single y ≤ rungVal single x) (hR : R < 2139095040) (h : rungVal single x ≤ rungVal single R + rungVal single y) : fop .sub .f32 x y ≤ R := by
  obtain ⟨M, e, he, h1, h2⟩ := sub_at hx hy hxy
  rw [he]
  refine nearest_small _ _ hR (nearest_le single false M e R (by rw [single_inf]; omega) (-149) h1 (by rw [single_lp]; omega) ?_)
  rw [show e - -149 = e + 149 by omega, single_lp, show ((-149 : Int) - -149).toNat = 0 by rfl, Nat.pow_zero, Nat.mul_one]
  omega
theorem sub_ge {x y R : Nat} (hx : x < 2139095040) (hy : y < 2139095040) (hxy : rungVal single y ≤ rungVal single x) (hR : R < 2139095040) (h : rungVal single R + rungVal single y ≤ rungVal single x) : R ≤ fop .sub .f32 x y := by
  obtain ⟨M, e, he, h1, h2⟩ := sub_at hx hy hxy
  rw [he]
  refine nearest_great _ _ (nearest_ge single false M e R (by rw [single_inf]; omega) (-149) h1 (by rw [single_lp]; omega) ?_)
  rw [show e - -149 = e + 149 by omega, single_lp, show ((-149 : Int) - -149).toNat = 0 by rfl, Nat.pow_zero, Nat.mul_one]
  omega
theorem quo_le {x y R V t c d : Nat} (hc : c = 149) (hd : d = 24) (hx : x < 2139095040) (hy : y < 2139095040) (hy0 : 0 < y) (hR : R < 2139095040) (hV : rungVal single R = V * 2 ^ t) (hV2 : V ≤ 16777216) (h : rungVal single x * 2 ^ c ≤ V * 2 ^ t * rungVal single y) : fop .quo .f32 x y ≤ R := by
  obtain ⟨m, i, hr, hi, hv, hm24⟩ := nn_read hx
  obtain ⟨n, j, hr2, hj, hv2, _⟩ := nn_read hy
  have hn : n ≠ 0 := by
    intro h0
    have := rungVal_lt (f := single) hy0
    rw [rungVal_zero, hv2, h0, Nat.zero_mul] at this
    omega
  have hfb : single.fractionBits + 2 = 25 := by decide +kernel
  have hq : (Datum.number false m i).quotient 25 (.number false n j) = some (.number false (2 * ((m <<< (25 + n.log2 - m.log2)) / n) + ((m <<< (25 + n.log2 - m.log2)) % n != 0).toNat) (i - j - ((25 + n.log2 - m.log2 : Nat) : Int) - 1)) := by
    simp only [Datum.quotient, hn, if_false]; rfl
  have he : fop .quo .f32 x y = single.nearest false (2 * ((m <<< (25 + n.log2 - m.log2)) / n) + ((m <<< (25 + n.log2 - m.log2)) % n != 0).toNat) (i - j - ((25 + n.log2 - m.log2 : Nat) : Int) - 1) := by
    show (((single.read x).quotient (single.fractionBits + 2) (single.read y)).map single.write).getD (qnan .f32) = _
    rw [hr, hr2, hfb, hq]; rfl
  rw [he]
  generalize hw : 25 + n.log2 - m.log2 = w at *
  rw [Nat.shiftLeft_eq]
  generalize hD : m * 2 ^ w = D at *
  have hdm := Nat.div_add_mod D n
  have hml : D % n < n := Nat.mod_lt _ (by omega)
  generalize hQ : D / n = Q at *
  generalize hRm : D % n = Rm at *
  have sticky : ∀ Z : Nat, D ≤ Z * n → 2 * Q + (Rm != 0).toNat ≤ 2 * Z := by
    intro Z hZ
    by_cases hR0 : Rm = 0
    · subst hR0
      have : n * Q ≤ Z * n := by omega
      rw [Nat.mul_comm] at this
      have := Nat.le_of_mul_le_mul_right this (by omega)
      simp; omega
    · have : n * Q < Z * n := by omega
      rw [Nat.mul_comm] at this
      have := Nat.lt_of_mul_lt_mul_right this
      have hb : (Rm != 0).toNat ≤ 1 := by cases (Rm != 0) <;> simp
      omega
  refine nearest_small _ _ hR ?_
  by_cases hm0 : m = 0
  · subst hm0
    have hD0 : D = 0 := by rw [← hD, Nat.zero_mul]
    subst hD0
    have := sticky 0 (by omega)
    rw [show 2 * Q + (Rm != 0).toNat = 0 by omega]
    exact nearest_le single false 0 _ R (by rw [single_inf]; omega) (min (i - j - (w : Int) - 1) (-149)) (by omega) (by rw [single_lp]; omega) (by rw [Nat.zero_mul]; exact Nat.zero_le _)
  · have hbig : n * 2 ^ d ≤ D := by
      have g1 : n < 2 ^ (n.log2 + 1) := Nat.lt_log2_self
      have g2 : 2 ^ m.log2 ≤ m := Nat.log2_self_le hm0
      have g4 : m.log2 < 24 := (Nat.log2_lt hm0).2 (show m < 2 ^ 24 by omega)
      have g3 : 2 ^ (n.log2 + 1 + d) ≤ D := by
        rw [← hD]
        refine Nat.le_trans ?_ (Nat.mul_le_mul_right _ g2)
        rw [← Nat.pow_add]
        exact Nat.pow_le_pow_right (by omega) (by omega)
      refine Nat.le_trans ?_ g3
      rw [Nat.pow_add]
      exact Nat.mul_le_mul_right _ (Nat.le_of_lt g1)
    have hVd : V ≤ 2 ^ d := by rw [hd]; exact hV2
    rw [hv, hv2] at h
    obtain ⟨i', hi'⟩ : ∃ i' : Nat, i' = (i + 149).toNat := ⟨_, rfl⟩
    obtain ⟨j', hj'⟩ : ∃ j' : Nat, j' = (j + 149).toNat := ⟨_, rfl⟩
    rw [← hi', ← hj'] at h
    have cross : D * 2 ^ (i' + c) ≤ V * n * 2 ^ (t + j' + w) := by
      have := Nat.mul_le_mul_right (2 ^ w) h
      rw [← hD, Nat.pow_add, Nat.pow_add, Nat.pow_add]
      calc m * 2 ^ w * (2 ^ i' * 2 ^ c) = m * 2 ^ i' * 2 ^ c * 2 ^ w := by ac_rfl
        _ ≤ V * 2 ^ t * (n * 2 ^ j') * 2 ^ w := this
        _ = V * n * (2 ^ t * 2 ^ j' * 2 ^ w) := by ac_rfl
    have hz0 : i' + c ≤ t + j' + w := by
      have g1 : n * 2 ^ d * 2 ^ (i' + c) ≤ V * n * 2 ^ (t + j' + w) := Nat.le_trans (Nat.mul_le_mul_right _ hbig) cross
      have g2 : n * 2 ^ (d + (i' + c)) ≤ n * 2 ^ (d + (t + j' + w)) := by
        rw [Nat.pow_add 2 d, Nat.pow_add 2 d]
        calc n * (2 ^ d * 2 ^ (i' + c)) = n * 2 ^ d * 2 ^ (i' + c) := by ac_rfl
          _ ≤ V * n * 2 ^ (t + j' + w) := g1
          _ = n * (V * 2 ^ (t + j' + w)) := by ac_rfl
          _ ≤ n * (2 ^ d * 2 ^ (t + j' + w)) := Nat.mul_le_mul_left _ (Nat.mul_le_mul_right _ hVd)
      have g3 := Nat.le_of_mul_le_mul_left g2 (by omega)
      have := (Nat.pow_le_pow_iff_right (by omega : 1 < 2)).1 g3
      omega
    obtain ⟨z, hz⟩ : ∃ z, t + j' + w = z + (i' + c) := ⟨t + j' + w - (i' + c), by omega⟩
    have hDz : D ≤ V * 2 ^ z * n := by
      rw [hz, Nat.pow_add 2 z] at cross
      have g1 : D * 2 ^ (i' + c) ≤ V * 2 ^ z * n * 2 ^ (i' + c) := by
        calc D * 2 ^ (i' + c) ≤ V * n * (2 ^ z * 2 ^ (i' + c)) := cross
          _ = V * 2 ^ z * n * 2 ^ (i' + c) := by ac_rfl
      exact Nat.le_of_mul_le_mul_right g1 (Nat.two_pow_pos _)
    have h5 := sticky _ hDz
    obtain ⟨e, hee⟩ : ∃ e : Int, e = i - j - (w : Int) - 1 := ⟨_, rfl⟩
    rw [← hee]
    refine nearest_le single false _ e R (by rw [single_inf]; omega) (min e (-149)) (by omega) (by rw [single_lp]; omega) ?_
    rw [single_lp, hV]
    refine Nat.le_trans (Nat.mul_le_mul_right _ h5) ?_
    rw [show 2 * (V * 2 ^ z) * 2 ^ (e - min e (-149)).toNat = V * 2 ^ (z + 1 + (e - min e (-149)).toNat) by rw [Nat.pow_add, Nat.pow_succ]; ac_rfl, Nat.mul_assoc, ← Nat.pow_add]
    refine Nat.mul_le_mul_left _ (Nat.pow_le_pow_right (by omega) ?_)
    omega
end FloatKit
