/- Facts on differences and sums of float32: how they stand to 0. -/
import Derived.Test.YtncbohecppdfnaaFloatMag
import Derived.Test.YtncbohecppdfnaaSum
namespace FloatKit
open Ieee Go

theorem nearest_top (f : Format) (neg : Bool) (m : Nat) (e : Int) : f.nearest neg m e % f.signWeight ≤ f.infRung := by
  have hsw := f.infRung_lt
  unfold Format.nearest
  split
  · rw [(word_read_parts f neg 0 (by omega)).2]; exact Nat.zero_le _
  · simp only
    rw [(word_read_parts f neg _ (by omega)).2]
    exact Nat.min_le_right _ _
theorem single_zero : isNaN single 0 = false ∧ sval single 0 = 0 := by decide +kernel
theorem signed_not (t : Bool) (n u : Nat) : signed (!t) n u = -signed t n u := by
  unfold signed; cases t <;> simp
/-- A number that is made of an exact one stands to 0 as that one does. -/
theorem nearest_order (neg : Bool) (v : Int) (e : Int) (he : -149 ≤ e) (hn : v < 0 → neg = true) (hp : 0 < v → neg = false) :
    single.order (single.nearest neg v.natAbs e) 0 = some (compare v 0) := by
  have h1 : isNaN single (single.nearest neg v.natAbs e) = false := by
    rw [nan_above single_hb]
    exact decide_eq_false (by have := nearest_top single neg v.natAbs e; omega)
  rw [order_sval single_hb h1 single_zero.1, single_zero.2]
  congr 1
  have hd := nearest_div single neg v.natAbs e
  by_cases h0 : v = 0
  · subst h0
    have hm : single.nearest neg (0 : Int).natAbs e % single.signWeight = 0 := by
      rw [nearest_mod]; rfl
    unfold sval
    rw [hm, rungVal_zero]
    split <;> rfl
  · have hge := nearest_ge single neg v.natAbs e 1 (by decide +kernel) (-149) he (by rw [single_lp]; exact Int.le_refl _) (by
      rw [show rungVal single 1 = 1 by decide +kernel, single_lp]
      have : 1 ≤ v.natAbs := by omega
      have h2 := Nat.two_pow_pos (e - -149).toNat
      calc 1 * 2 ^ ((-149 : Int) - -149).toNat = 1 := rfl
        _ ≤ v.natAbs * 2 ^ (e - -149).toNat := Nat.mul_pos this h2)
    have hr := rungVal_lt (f := single) (show 0 < single.nearest neg v.natAbs e % single.signWeight by omega)
    rw [rungVal_zero] at hr
    unfold sval
    rw [hd]
    by_cases hv : v < 0
    · rw [hn hv] at hr ⊢
      rw [if_pos (show (true.toNat % 2 == 1) = true from rfl)]
      simp only [compare, compareOfLessAndEq]
      rw [if_pos hv, if_pos (by omega)]
    · rw [hp (by omega)] at hr ⊢
      rw [if_neg (show ¬ (false.toNat % 2 == 1) = true by decide)]
      simp only [compare, compareOfLessAndEq]
      rw [if_neg hv, if_neg h0, if_neg (by omega), if_neg (by omega)]
theorem compare_sub (a b : Int) : compare (a - b) 0 = compare a b := by
  simp only [compare, compareOfLessAndEq]
  by_cases h1 : a < b
  · rw [if_pos h1, if_pos (by omega)]
  · rw [if_neg h1, if_neg (show ¬ a - b < 0 by omega)]
    by_cases h2 : a = b
    · rw [if_pos h2, if_pos (by omega)]
    · rw [if_neg h2, if_neg (by omega)]
/-- A finite number less another one stands to 0 as the first one to the other. -/
theorem order_sub {x : Nat} (y : Nat) (hx : finite single x = true) : single.order (fop .sub .f32 x y) 0 = single.order x y := by
  obtain ⟨s, m, i, hrx⟩ := (finite_iff single_hb x).1 hx
  have bx := read_single_bounds hrx
  have hq : single.order (qnan .f32) 0 = none := by decide +kernel
  have hb : ∀ o, Go.floatBits .sub .f32 x y = o → fop .sub .f32 x y = o.getD (qnan .f32) := fun o h => by unfold fop; rw [h]
  have hd : Go.floatBits .sub .f32 x y = ((single.read x).sum (single.read y).opposite).map single.write := rfl
  have ho : single.order x y = (single.read x).order (single.read y) := rfl
  rw [ho]
  rw [hrx] at hd ⊢
  cases hry : single.read y with
  | number t n j =>
    have by_ := read_single_bounds hry
    rw [hry] at hd
    rw [hb _ hd]
    simp only [Datum.opposite, Datum.sum, Datum.order, Option.map_some, Option.getD_some, Format.write]
    rw [nearest_order _ _ _ (by omega) (fun h => by rw [if_neg (by omega)]; exact decide_eq_true h) (fun h => by rw [if_neg (by omega)]; exact decide_eq_false (by omega))]
    rw [signed_not, ← Int.sub_eq_add_neg, compare_sub]
  | infinity t =>
    rw [hry] at hd
    rw [hb _ hd]
    simp only [Datum.opposite, Datum.sum, Datum.order, Option.map_some, Option.getD_some, Format.write]
    cases t
    · decide +kernel
    · decide +kernel
  | nan t k =>
    rw [hry] at hd
    rw [hb _ hd]
    exact hq
def NotLess (x : Nat) : Prop := single.order x 0 ≠ some .lt
theorem notLess_num {x : Nat} {s : Bool} {m : Nat} {i : Int} (h : single.read x = .number s m i) (hn : NotLess x) (u : Nat) : 0 ≤ signed s m u := by
  cases s
  · unfold signed; simp only [Bool.false_eq_true, if_false]; exact Int.natCast_nonneg _
  · have hm : m = 0 := by
      rcases Nat.eq_zero_or_pos m with h0 | h0
      · exact h0
      · exfalso
        apply hn
        have b := read_single_bounds h
        show (single.read x).order (single.read 0) = _
        rw [h, show single.read 0 = .number false 0 (-149) by decide +kernel, order_num _ _ _ _ _ _ (-149) b.2.1 (Int.le_refl _), signed_zero]
        congr 1
        have : 0 < m <<< (i - -149).toNat := by rw [Nat.shiftLeft_eq]; exact Nat.mul_pos h0 (Nat.two_pow_pos _)
        unfold signed
        simp only [compare, compareOfLessAndEq, if_true]
        rw [if_pos (by omega)]
    subst hm
    rw [signed_zero]
    exact Int.le_refl _
theorem notLess_qnan : NotLess (qnan .f32) := by unfold NotLess; decide +kernel
theorem notLess_inf : NotLess (single.write (.infinity false)) := by unfold NotLess; decide +kernel
theorem inf_pos {z : Nat} {s : Bool} (h : single.read z = .infinity s) (hn : NotLess z) : s = false := by
  cases s
  · rfl
  · exfalso
    apply hn
    show (single.read z).order (single.read 0) = _
    rw [h, show single.read 0 = .number false 0 (-149) by decide +kernel]; rfl
/-- What is made of a sum. -/
def made (d : Option Datum) : Nat := match d with | some d => single.write d | none => qnan .f32
theorem fop_add (x y : Nat) : fop .add .f32 x y = made ((single.read x).sum (single.read y)) := by
  show (((single.read x).sum (single.read y)).map single.write).getD (qnan .f32) = _
  unfold made
  cases (single.read x).sum (single.read y) <;> rfl
theorem notLess_nums {x y : Nat} {s t : Bool} {m n : Nat} {i j : Int} (hrx : single.read x = .number s m i) (hry : single.read y = .number t n j) (hx : NotLess x) (hy : NotLess y) : NotLess (made (Datum.sum (.number s m i) (.number t n j))) := by
  have bx := read_single_bounds hrx
  have by_ := read_single_bounds hry
  have h1 := notLess_num hrx hx (i - min i j).toNat
  have h2 := notLess_num hry hy (j - min i j).toNat
  unfold NotLess made
  simp only [Datum.sum, Format.write]
  generalize signed s m (i - min i j).toNat = a at *
  generalize signed t n (j - min i j).toNat = b at *
  rw [nearest_order _ _ _ (by omega) (fun h => by omega) (fun h => by rw [if_neg (by omega)]; exact decide_eq_false (by omega))]
  simp only [compare, compareOfLessAndEq]
  rw [if_neg (by omega)]
  split <;> simp
/-- The sum of numbers of at least 0 is no less than 0. -/
theorem notLess_add {x y : Nat} (hx : NotLess x) (hy : NotLess y) : NotLess (fop .add .f32 x y) := by
  rw [fop_add]
  cases hrx : single.read x with
  | nan s t => exact notLess_qnan
  | infinity s =>
    obtain rfl := inf_pos hrx hx
    cases hry : single.read y with
    | nan s t => exact notLess_qnan
    | infinity t =>
      obtain rfl := inf_pos hry hy
      exact notLess_inf
    | number t n j => exact notLess_inf
  | number s m i =>
    cases hry : single.read y with
    | nan s t => exact notLess_qnan
    | infinity t =>
      obtain rfl := inf_pos hry hy
      exact notLess_inf
    | number t n j => exact notLess_nums hrx hry hx hy
theorem notLess_eqv {x y : Nat} (h : Eqv single x y) (hy : NotLess y) : NotLess x := by
  rcases h with h | ⟨h1, h2⟩
  · rw [h]; exact hy
  · unfold NotLess
    rw [order_nan_left _ _ _ h1]; simp
theorem nearest_real (neg : Bool) (m : Nat) (e : Int) : isNaN single (single.nearest neg m e) = false := by
  rw [nan_above single_hb]
  exact decide_eq_false (by have := nearest_top single neg m e; omega)
theorem real_inf (s : Bool) : isNaN single (single.write (.infinity s)) = false := by cases s <;> decide +kernel
theorem real_add {x y : Nat} (hx : isNaN single x = false) (hy : finite single y = true) : isNaN single (fop .add .f32 x y) = false := by
  obtain ⟨t, n, j, hry⟩ := (finite_iff single_hb y).1 hy
  rw [fop_add, hry]
  cases hrx : single.read x with
  | nan s t => unfold isNaN at hx; rw [hrx] at hx; cases hx
  | infinity s => exact real_inf s
  | number s m i =>
    unfold made
    simp only [Datum.sum, Format.write]
    exact nearest_real _ _ _
theorem sums_from : ∀ (xs : List Nat) (s : Nat), isNaN single s = false → NotLess s → (∀ x ∈ xs, finite single x = true ∧ NotLess x) → isNaN single (xs.foldl (fun s x => fop .add .f32 s x) s) = false ∧ NotLess (xs.foldl (fun s x => fop .add .f32 s x) s)
  | [], s, h1, h2, _ => ⟨h1, h2⟩
  | x :: xs, s, h1, h2, h => by
    rw [List.foldl_cons]
    have hx := h x (List.mem_cons_self ..)
    exact sums_from xs _ (real_add h1 hx.1) (notLess_add h2 hx.2) fun y hy => h y (List.mem_cons_of_mem _ hy)
theorem order_total {x y : Nat} (hx : isNaN single x = false) (hy : isNaN single y = false) :
    (single.order x y == some .gt || single.order x y == some .eq) = !(single.order x y == some .lt) ∧ (single.order x y == some .gt) = (single.order y x == some .lt) ∧ ((single.order x y == some .lt) = decide (sval single x < sval single y)) := by
  rw [order_sval single_hb hx hy, order_sval single_hb hy hx]
  simp only [compare, compareOfLessAndEq]
  by_cases h1 : sval single x < sval single y
  · rw [if_pos h1, if_neg (show ¬ sval single y < sval single x by omega), if_neg (show ¬ sval single y = sval single x by omega), decide_eq_true h1]
    exact ⟨rfl, rfl, rfl⟩
  · rw [if_neg h1, decide_eq_false h1]
    by_cases h2 : sval single x = sval single y
    · rw [if_pos h2, if_neg (show ¬ sval single y < sval single x by omega), if_pos h2.symm]
      exact ⟨rfl, rfl, rfl⟩
    · rw [if_neg h2, if_pos (show sval single y < sval single x by omega)]
      exact ⟨rfl, rfl, rfl⟩
end FloatKit
