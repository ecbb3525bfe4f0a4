/- Pure: the tables of a period, in the order of their numbers. No condition. -/
import Derived.Test.YtncbjdkidkklgaaKeeps
import Derived.Test.YtncbjdkidkklgaaPost
namespace Go.Proofs.Ytncbjdkidkklgaa
open Go.RowKit Go.Lst

theorem mod_both (a n : Nat) : ((a : Int) % (n : Int)) = ((a % n : Nat) : Int) ∧ ((a : Int).tmod (n : Int)) = ((a % n : Nat) : Int) := by
  refine ⟨rfl, ?_⟩
  rw [Int.tmod_eq_emod_of_nonneg (by omega)]
  rfl
/-- The number at a place of the table k of d + 1 events. -/
def tabAt (p d k i : Nat) : Nat := if i = 0 then 0 else k / p ^ (d - i) % p
def tabL (p d k : Nat) : List Int := (List.range (d + 1)).map fun i => ((tabAt p d k i : Nat) : Int)
/-- The last j places have been told. -/
def tellL (p d k j : Nat) : List Int := (List.range (d + 1)).map fun i => (((if i + j ≤ d then 0 else tabAt p d k i) : Nat) : Int)
/-- The last j places have been set to 0. -/
def zeroL (p d k j : Nat) : List Int := (List.range (d + 1)).map fun i => (((if i + j ≤ d then tabAt p d k i else 0) : Nat) : Int)
theorem tabL_length (p d k : Nat) : (tabL p d k).length = d + 1 := by simp [tabL]
theorem tellL_length (p d k j : Nat) : (tellL p d k j).length = d + 1 := by simp [tellL]
theorem zeroL_length (p d k j : Nat) : (zeroL p d k j).length = d + 1 := by simp [zeroL]
theorem tabAt_lt {p d k i : Nat} (hp : 1 ≤ p) : tabAt p d k i < p := by
  unfold tabAt; split
  · omega
  · exact Nat.mod_lt _ (by omega)
theorem tabL_in {p d k : Nat} (hp : 1 ≤ p) : allIn (tabL p d k) 0 ((p : Int) - 1) = true := by
  unfold allIn tabL
  rw [List.all_eq_true]
  intro x hx
  obtain ⟨i, _, rfl⟩ := List.mem_map.1 hx
  have := tabAt_lt (d := d) (k := k) (i := i) hp
  simp [inB]; omega
theorem tell_zero (p d k : Nat) : tellL p d k 0 = List.replicate (d + 1) 0 := by
  unfold tellL
  rw [List.eq_replicate_iff]
  refine ⟨by simp, fun x hx => ?_⟩
  obtain ⟨i, hi, rfl⟩ := List.mem_map.1 hx
  rw [if_pos (by have := List.mem_range.1 hi; omega)]; rfl
theorem tell_all (p d k : Nat) : tellL p d k d = tabL p d k := by
  unfold tellL tabL
  refine List.map_congr_left fun i _ => ?_
  by_cases h : i + d ≤ d
  · rw [if_pos h, show tabAt p d k i = 0 by unfold tabAt; rw [if_pos (by omega)]]
  · rw [if_neg h]
theorem map_range_set {n i : Nat} (f : Nat → Int) (v : Int) (hi : i < n) : ((List.range n).map f).set i v = (List.range n).map fun q => if q = i then v else f q := by
  refine List.ext_getElem? fun q => ?_
  rw [List.getElem?_set]
  by_cases hq : q < n
  · by_cases e : i = q
    · subst e; simp [hi]
    · simp [e, hq, show ¬ q = i by omega]
  · simp [hq]; omega
theorem tell_next {p d k j : Nat} (hj : j < d) : (tellL p d k j).set (d - j) ((k / p ^ j % p : Nat) : Int) = tellL p d k (j + 1) := by
  unfold tellL
  rw [map_range_set _ _ (by omega)]
  refine List.map_congr_left fun i hi => ?_
  have := List.mem_range.1 hi
  by_cases e : i = d - j
  · subst e
    rw [if_pos rfl, if_neg (by omega)]
    unfold tabAt
    rw [if_neg (by omega), show d - (d - j) = j by omega]
  · rw [if_neg e]
    by_cases h : i + j ≤ d
    · rw [if_pos h, if_pos (by omega)]
    · rw [if_neg h, if_neg (by omega)]
theorem zero_none (p d k : Nat) : zeroL p d k 0 = tabL p d k := by
  unfold zeroL tabL
  refine List.map_congr_left fun i hi => ?_
  rw [if_pos (by have := List.mem_range.1 hi; omega)]
theorem zero_next {p d k j : Nat} (hj : j < d) : (zeroL p d k j).set (d - j) 0 = zeroL p d k (j + 1) := by
  unfold zeroL
  rw [map_range_set _ _ (by omega)]
  refine List.map_congr_left fun i hi => ?_
  have := List.mem_range.1 hi
  by_cases e : i = d - j
  · subst e
    rw [if_pos rfl, if_neg (by omega)]; rfl
  · rw [if_neg e]
    by_cases h : i + j ≤ d
    · rw [if_pos h, if_pos (by omega)]
    · rw [if_neg h, if_neg (by omega)]
theorem zero_get {p d k j : Nat} (hj : j < d) : (zeroL p d k j)[d - j]? = some ((k / p ^ j % p : Nat) : Int) := by
  unfold zeroL
  rw [List.getElem?_map, List.getElem?_range (by omega)]
  simp only [Option.map_some]
  rw [if_pos (by omega)]
  unfold tabAt
  rw [if_neg (by omega), show d - (d - j) = j by omega]
/-- All lower places are at their greatest. -/
def Full (p j k : Nat) : Prop := (k + 1) % p ^ j = 0
theorem full_zero (p k : Nat) : Full p 0 k := by simp [Full, Nat.mod_one]
theorem full_parts {p j k : Nat} (hp : 1 ≤ p) (h : Full p j k) : k + 1 = p ^ j * (k / p ^ j + 1) := by
  have hP : 0 < p ^ j := Nat.pow_pos (by omega)
  obtain ⟨q, hq⟩ := Nat.dvd_of_mod_eq_zero h
  have hq0 : 1 ≤ q := by
    rcases Nat.eq_zero_or_pos q with h0 | h0
    · rw [h0] at hq; omega
    · exact h0
  have e : k = p ^ j * (q - 1) + (p ^ j - 1) := by
    have : p ^ j * q = p ^ j * (q - 1) + p ^ j := by rw [← Nat.mul_succ]; congr 1; omega
    omega
  have : k / p ^ j = q - 1 := by
    rw [e, Nat.mul_add_div hP, Nat.div_eq_of_lt (by omega)]; omega
  rw [this, hq]; congr 1; omega
theorem full_next {p j k : Nat} (hp : 1 ≤ p) (h : Full p j k) (hd : ¬ k / p ^ j % p < p - 1) : Full p (j + 1) k := by
  have e := full_parts hp h
  have hm : k / p ^ j % p < p := Nat.mod_lt _ (by omega)
  unfold Full
  rw [e, Nat.pow_succ, Nat.mul_mod_mul_left]
  have : (k / p ^ j + 1) % p = 0 := by
    rw [Nat.add_mod]
    have h1 : k / p ^ j % p = p - 1 := by omega
    rw [h1]
    by_cases h2 : p = 1
    · subst h2; simp
    · rw [Nat.mod_eq_of_lt (show 1 < p by omega), show p - 1 + 1 = p by omega, Nat.mod_self]
  rw [this, Nat.mul_zero]
theorem full_last {p d k : Nat} (h : Full p d k) (hk : k < p ^ d) : k + 1 = p ^ d := by
  have h2 := Nat.dvd_of_mod_eq_zero h
  have := Nat.le_of_dvd (by omega) h2
  omega
theorem full_less {p j k : Nat} {d : Nat} (hp : 1 ≤ p) (h : Full p j k) (hj : j < d) (hk : k < p ^ d) (hd : k / p ^ j % p < p - 1) : k + 1 < p ^ d := by
  have e := full_parts hp h
  by_cases hlt : k + 1 < p ^ d
  · exact hlt
  · exfalso
    have e2 : k + 1 = p ^ d := by omega
    obtain ⟨c, rfl⟩ : ∃ c, d = j + 1 + c := ⟨d - (j + 1), by omega⟩
    rw [Nat.pow_add, Nat.pow_succ, Nat.mul_assoc] at e2
    rw [e2] at e
    have hP : 0 < p ^ j := Nat.pow_pos (by omega)
    have e3 := Nat.eq_of_mul_eq_mul_left hP e
    have : (k / p ^ j + 1) % p = 0 := by rw [← e3]; exact Nat.mul_mod_right _ _
    rw [Nat.add_mod] at this
    by_cases h2 : p = 1
    · omega
    · rw [Nat.mod_eq_of_lt (show 1 < p by omega), Nat.mod_eq_of_lt (by omega)] at this
      omega
theorem zero_more {p d k j : Nat} (hp : 1 ≤ p) (hj : j < d) (h : Full p j k) (hd : k / p ^ j % p < p - 1) : (zeroL p d k j).set (d - j) ((k / p ^ j % p : Nat) + 1 : Int) = tabL p d (k + 1) := by
  have e := full_parts hp h
  have hP : 0 < p ^ j := Nat.pow_pos (by omega)
  generalize hq : k / p ^ j = q at *
  unfold zeroL tabL
  rw [map_range_set _ _ (by omega)]
  refine List.map_congr_left fun i hi => ?_
  have hi2 := List.mem_range.1 hi
  have hs : (q + 1) % p = q % p + 1 := by
    rw [Nat.add_mod]
    by_cases h2 : p = 1
    · omega
    · rw [Nat.mod_eq_of_lt (show 1 < p by omega)]
      exact Nat.mod_eq_of_lt (by omega)
  by_cases ei : i = d - j
  · subst ei
    rw [if_pos rfl]
    unfold tabAt
    rw [if_neg (by omega), show d - (d - j) = j by omega, e, Nat.mul_div_cancel_left _ hP, hs]; rfl
  · rw [if_neg ei]
    by_cases h1 : i + j ≤ d
    · rw [if_pos h1]
      unfold tabAt
      by_cases h0 : i = 0
      · rw [if_pos h0, if_pos h0]
      · rw [if_neg h0, if_neg h0]
        obtain ⟨c, hc⟩ : ∃ c, d - i = j + 1 + c := ⟨d - i - (j + 1), by omega⟩
        have x1 : k / (p ^ j * (p * p ^ c)) = q / p / p ^ c := by rw [← Nat.div_div_eq_div_mul, hq, ← Nat.div_div_eq_div_mul]
        have x2 : p ^ j * (q + 1) / (p ^ j * (p * p ^ c)) = (q + 1) / p / p ^ c := by rw [Nat.mul_div_mul_left _ _ hP, ← Nat.div_div_eq_div_mul]
        rw [hc, Nat.pow_add, Nat.pow_succ, Nat.mul_assoc, e, x1, x2]
        have : (q + 1) / p = q / p := by
          have e1 := Nat.div_add_mod (q + 1) p
          have e2 := Nat.div_add_mod q p
          rw [hs] at e1
          have : p * ((q + 1) / p) = p * (q / p) := by omega
          exact Nat.eq_of_mul_eq_mul_left (by omega) this
        rw [this]
    · rw [if_neg h1]
      unfold tabAt
      rw [if_neg (by omega)]
      obtain ⟨c, hc⟩ : ∃ c, j = (d - i) + 1 + c := ⟨j - (d - i + 1), by omega⟩
      have : (k + 1) / p ^ (d - i) % p = 0 := by
        rw [e]
        have ej : p ^ j = p ^ (d - i) * (p * p ^ c) := by rw [hc, Nat.pow_add, Nat.pow_succ, Nat.mul_assoc]
        rw [ej, Nat.mul_assoc, Nat.mul_div_cancel_left _ (Nat.pow_pos (by omega)), Nat.mul_assoc]
        exact Nat.mul_mod_right _ _
      rw [this]
theorem tab_zero (p d : Nat) : tabL p d 0 = List.replicate (d + 1) 0 := by
  unfold tabL
  rw [List.eq_replicate_iff]
  refine ⟨by simp, fun x hx => ?_⟩
  obtain ⟨i, hi, rfl⟩ := List.mem_map.1 hx
  unfold tabAt
  simp

/-- The numbers of the tables, of the first k, that keep all rules. -/
def keptTo (p d : Nat) (xs : List RuleD) (k : Nat) : List Nat := (List.range k).filter fun k => keepsAll p (tabL p d k) xs
theorem keptTo_succ (p d : Nat) (xs : List RuleD) (k : Nat) : keptTo p d xs (k + 1) = if keepsAll p (tabL p d k) xs then keptTo p d xs k ++ [k] else keptTo p d xs k := by
  unfold keptTo
  rw [List.range_succ, List.filter_append]
  cases h : keepsAll p (tabL p d k) xs <;> simp [h]
theorem keptTo_prefix (p d : Nat) (xs : List RuleD) {k n : Nat} (h : k ≤ n) : keptTo p d xs k <+: keptTo p d xs n := by
  obtain ⟨c, rfl⟩ : ∃ c, n = k + c := ⟨n - k, by omega⟩
  unfold keptTo
  rw [List.range_add, List.filter_append]
  exact List.prefix_append _ _
theorem keptTo_length (p d : Nat) (xs : List RuleD) (k : Nat) : (keptTo p d xs k).length ≤ k := by
  unfold keptTo
  have := List.length_filter_le (fun k => keepsAll p (tabL p d k) xs) (List.range k)
  simpa using this
/-- The sum of the waits of the first rules, and of all. -/
def waitsTo (p : Int) (ts : List Int) : List RuleD → Nat → Int
  | _, 0 => 0
  | xs, k + 1 => waitsTo p ts xs k + (match xs[k]? with | some x => waitR p ts x | none => 0)
def waitSum (p d : Nat) (xs : List RuleD) (k : Nat) : Int := waitsTo p (tabL p d k) xs xs.length
/-- The first one of the numbers with the least sum. -/
def leastOf (f : Nat → Int) : List Nat → Option Nat
  | [] => none
  | k :: ks => some (ks.foldl (fun b k => if f k < f b then k else b) k)
theorem leastOf_snoc (f : Nat → Int) (ks : List Nat) (k : Nat) : leastOf f (ks ++ [k]) = match leastOf f ks with | none => some k | some b => some (if f k < f b then k else b) := by
  cases ks with
  | nil => rfl
  | cons x xs => simp [leastOf, List.foldl_append]
/-- Whether a search for tables is made, and how many tables there are. -/
def okTab (e : Int) (xs : List RuleD) (p : Int) : Bool := areRules e p xs && decide (p.toNat ^ (e.toNat - 1) ≤ 4096)
theorem okTab_of {e : Int} {xs : List RuleD} {p : Int} (h : okTab e xs p = true) : areRules e p xs = true ∧ p.toNat ^ (e.toNat - 1) ≤ 4096 := by
  simpa [okTab] using h
def keptAll (e : Int) (xs : List RuleD) (p : Int) : List Nat := keptTo p.toNat (e.toNat - 1) xs (p.toNat ^ (e.toNat - 1))
end Go.Proofs.Ytncbjdkidkklgaa
