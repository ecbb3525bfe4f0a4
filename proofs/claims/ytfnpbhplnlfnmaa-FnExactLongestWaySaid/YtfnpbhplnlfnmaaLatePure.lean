/- The greatest starts of tasks, as functions on lists. -/
import Derived.Test.YtfnpbhplnlfnmaaEarlyPure
namespace Go.Proofs.Ytfnpbhplnlfnmaa

/-- The first place, of the first j ones, at which a task's Before is i. -/
def linkTo (x : TaskD) (i : Int) : Nat → Option Nat
  | 0 => none
  | j + 1 => match linkTo x i j with
    | some a => some a
    | none => if bAt x j = i then some j else none
def link (x : TaskD) (i : Int) : Option Nat := linkTo x i x.Before.length
theorem linkTo_some {x : TaskD} {i : Int} {a : Nat} : ∀ {j : Nat}, linkTo x i j = some a → a < j ∧ bAt x a = i
  | 0, h => by simp [linkTo] at h
  | j + 1, h => by
    simp only [linkTo] at h
    split at h
    · rename_i b hb
      obtain rfl : b = a := by simpa using h
      have := linkTo_some hb
      exact ⟨by omega, this.2⟩
    · split at h
      · rename_i hb
        obtain rfl : j = a := by simpa using h
        exact ⟨by omega, hb⟩
      · cases h
theorem linkTo_none {x : TaskD} {i : Int} : ∀ {j : Nat}, linkTo x i j = none → ∀ a, a < j → bAt x a ≠ i
  | 0, _, a, ha => by omega
  | j + 1, h, a, ha => by
    simp only [linkTo] at h
    split at h
    · cases h
    · rename_i hn
      split at h
      · cases h
      · rename_i hb
        by_cases h1 : a = j
        · subst h1; exact hb
        · exact linkTo_none hn a (by omega)
theorem linkTo_first {x : TaskD} {i : Int} {a : Nat} (hb : bAt x a = i) (hlt : ∀ c, c < a → bAt x c ≠ i) : ∀ {j : Nat}, a < j → linkTo x i j = some a := by
  intro j
  induction j with
  | zero => omega
  | succ j ih =>
    intro hj
    simp only [linkTo]
    by_cases h1 : a = j
    · subst h1
      cases h : linkTo x i a with
      | none => simp [hb]
      | some b => have := linkTo_some h; exact absurd this.2 (hlt b this.1)
    · rw [ih (by omega)]
/-- What is left of an end, by the starts of the first k tasks. -/
def backTo (xs : List TaskD) (st : List Int) (i : Int) (e : Int) : Nat → Int
  | 0 => e
  | k + 1 => match link (xs.getD k default) i with
    | some a => min (backTo xs st i e k) (st.getD k 0 - lAt (xs.getD k default) a)
    | none => backTo xs st i e k
/-- The greatest start of the task i. -/
def lateAt (xs : List TaskD) (st : List Int) (i : Nat) (e : Int) : Int := backTo xs st i e xs.length - (xs.getD i default).Time
theorem link_late {xs : List TaskD} (h : Fit xs) {k i : Nat} (hki : k ≤ i) : link (xs.getD k default) i = none := by
  by_cases hk : k < xs.length
  · have e : xs[k]? = some xs[k] := List.getElem?_eq_getElem hk
    rw [getD_some e]
    cases hq : link xs[k] i with
    | none => rfl
    | some a =>
      have h1 := linkTo_some hq
      have h2 := h.before k _ e a h1.1
      omega
  · rw [List.getD_eq_getElem?_getD, List.getElem?_eq_none (by omega)]
    rfl
theorem backTo_first {xs : List TaskD} (h : Fit xs) (st : List Int) (i : Nat) (e : Int) : ∀ k, k ≤ i + 1 → backTo xs st i e k = e
  | 0, _ => rfl
  | k + 1, hk => by
    simp only [backTo]
    rw [link_late h (show k ≤ i by omega)]
    exact backTo_first h st i e k (by omega)
theorem lAt_bound {xs : List TaskD} (h : Fit xs) {k a : Nat} {i : Int} (hq : link (xs.getD k default) i = some a) : -100 ≤ lAt (xs.getD k default) a ∧ lAt (xs.getD k default) a ≤ 100 := by
  by_cases hk : k < xs.length
  · have e : xs[k]? = some xs[k] := List.getElem?_eq_getElem hk
    rw [getD_some e] at hq ⊢
    exact h.lags k _ e a (linkTo_some hq).1
  · rw [List.getD_eq_getElem?_getD, List.getElem?_eq_none (by omega)] at hq
    cases hq
theorem backTo_bound {xs : List TaskD} (h : Fit xs) {st : List Int} {lo hi : Int} (hs : Bnd lo hi st) (i : Int) (e : Int) : ∀ k, (backTo xs st i e k ≤ e) ∧ (lo - 100 ≤ e → lo - 100 ≤ backTo xs st i e k)
  | 0 => by simp only [backTo]; exact ⟨Int.le_refl _, fun h => h⟩
  | k + 1 => by
    have h1 := backTo_bound h hs i e k
    have h2 := hs k
    simp only [backTo]
    split
    · rename_i a ha
      have h3 := lAt_bound h ha
      omega
    · exact h1
theorem lateAt_bound {xs : List TaskD} (h : Fit xs) {st : List Int} {lo hi : Int} (hs : Bnd lo hi st) (i : Nat) {e : Int} (he : lo - 100 ≤ e) : lateAt xs st i e ≤ e ∧ lo - 1100 ≤ lateAt xs st i e := by
  have h1 := backTo_bound h hs i e xs.length
  have h2 := tmAt_bound h i
  unfold tmAt at h2
  rw [Int.toNat_natCast] at h2
  unfold lateAt
  have := h1.2 he
  omega
theorem backTo_same {xs : List TaskD} (h : Fit xs) {st st' : List Int} (i : Nat) (e : Int) (hs : ∀ j, i < j → st.getD j 0 = st'.getD j 0) : ∀ k, backTo xs st i e k = backTo xs st' i e k
  | 0 => rfl
  | k + 1 => by
    simp only [backTo]
    rw [backTo_same h i e hs k]
    by_cases hk : k ≤ i
    · rw [link_late h hk]
    · rw [hs k (by omega)]

/-- The greatest starts, the last d tasks being told. -/
def lateTo (xs : List TaskD) (e : Int) : Nat → List Int
  | 0 => List.replicate xs.length 0
  | d + 1 => (lateTo xs e d).set (xs.length - 1 - d) (lateAt xs (lateTo xs e d) (xs.length - 1 - d) e)
def late (xs : List TaskD) (e : Int) : List Int := lateTo xs e xs.length
theorem lateTo_length (xs : List TaskD) (e : Int) : ∀ d, (lateTo xs e d).length = xs.length
  | 0 => by simp [lateTo]
  | d + 1 => by simp [lateTo, lateTo_length xs e d]
theorem late_length (xs : List TaskD) (e : Int) : (late xs e).length = xs.length := lateTo_length xs e _
theorem lateTo_bound {xs : List TaskD} (h : Fit xs) {e : Int} (he : 0 ≤ e) : ∀ d : Nat, Bnd (-1100 * (d : Int)) e (lateTo xs e d)
  | 0 => by
    have := (bnd_zeros xs.length).mono (lo' := -1100 * ((0 : Nat) : Int)) (hi' := e) (by omega) he
    simpa [lateTo] using this
  | d + 1 => by
    have h1 := lateTo_bound h he d
    have h2 := lateAt_bound h h1 (xs.length - 1 - d) (e := e) (by omega)
    simp only [lateTo]
    exact h1.set_ (by omega) (by omega) (Int.le_refl _) _
theorem late_bound {xs : List TaskD} (h : Fit xs) {e : Int} (he : 0 ≤ e) : Bnd (-17600) e (late xs e) := (lateTo_bound h he xs.length).mono (by have := h.most; omega) (Int.le_refl _)
theorem lateTo_keep (xs : List TaskD) (e : Int) {i : Nat} : ∀ {d m : Nat}, d ≤ m → m ≤ xs.length → xs.length - d ≤ i → (lateTo xs e m).getD i 0 = (lateTo xs e d).getD i 0 := by
  intro d m hdm
  induction hdm with
  | refl => intro _ _; rfl
  | @step m hm ih =>
    intro h1 h2
    have : d ≤ m := hm
    simp only [lateTo]
    rw [getD_set, if_neg (by omega)]
    exact ih (by omega) h2
/-- Each greatest start is told by the others. -/
theorem late_at {xs : List TaskD} (h : Fit xs) (e : Int) {i : Nat} (hi : i < xs.length) : (late xs e).getD i 0 = lateAt xs (late xs e) i e := by
  have h1 : (late xs e).getD i 0 = (lateTo xs e (xs.length - 1 - i + 1)).getD i 0 := lateTo_keep xs e (by omega) (Nat.le_refl _) (by omega)
  rw [h1]
  simp only [lateTo]
  rw [show xs.length - 1 - (xs.length - 1 - i) = i by omega, getD_set, if_pos ⟨rfl, by rw [lateTo_length]; exact hi⟩]
  unfold lateAt
  rw [backTo_same h i e (st := lateTo xs e (xs.length - 1 - i)) (st' := late xs e) (fun j hj => ?_)]
  by_cases hjl : j < xs.length
  · exact (lateTo_keep xs e (by omega) (Nat.le_refl _) (by omega)).symm
  · rw [List.getD_eq_getElem?_getD, List.getD_eq_getElem?_getD, List.getElem?_eq_none (by rw [lateTo_length]; omega), List.getElem?_eq_none (by rw [late_length]; omega)]
theorem backTo_ge {xs : List TaskD} {st : List Int} {i e m : Int} (he : m ≤ e) : ∀ {n : Nat}, (∀ k a, k < n → link (xs.getD k default) i = some a → m ≤ st.getD k 0 - lAt (xs.getD k default) a) → m ≤ backTo xs st i e n := by
  intro n
  induction n with
  | zero => intro _; exact he
  | succ n ih =>
    intro h
    have h1 := ih fun k a hk => h k a (by omega)
    simp only [backTo]
    split
    · rename_i a ha
      have := h n a (by omega) ha
      omega
    · exact h1
/-- The greatest starts are no less than the least ones just if these end by the end. -/
theorem late_ge_iff {xs : List TaskD} (h : Fit xs) {e : Int} (he : 0 ≤ e) : (∀ i, i < xs.length → (early xs).getD i 0 ≤ (late xs e).getD i 0) ↔ endOf xs (early xs) ≤ e := by
  constructor
  · intro hall
    refine endTo_le he fun j hj => ?_
    have h1 := hall j hj
    rw [late_at h e hj] at h1
    have h2 := (backTo_bound h (late_bound h he) j e xs.length).1
    unfold lateAt at h1
    omega
  · intro hend
    have hd : ∀ d i, i < xs.length → xs.length - d ≤ i → (early xs).getD i 0 ≤ (late xs e).getD i 0 := by
      intro d
      induction d with
      | zero => intro i hi h1; omega
      | succ d ih =>
        intro i hi h1
        rw [late_at h e hi]
        have hle : (early xs).getD i 0 + (xs.getD i default).Time ≤ backTo xs (late xs e) i e xs.length := by
          refine backTo_ge (Int.le_trans (endTo_ge xs (early xs) hi) hend) fun k a hk ha => ?_
          have ek : xs[k]? = some xs[k] := List.getElem?_eq_getElem hk
          have hik : i < k := by
            rcases Nat.lt_or_ge i k with hlt | hge
            · exact hlt
            · rw [link_late h hge] at ha; cases ha
          have h2 := ih k hk (by omega)
          rw [early_at h ek] at h2
          rw [getD_some ek] at ha ⊢
          have h3 := linkTo_some ha
          have h4 := readyTo_ge xs (early xs) xs[k] h3.1
          unfold ready at h2
          unfold termAt stAt tmAt at h4
          rw [h3.2, Int.toNat_natCast] at h4
          omega
        unfold lateAt
        omega
    exact fun i hi => hd xs.length i hi (by omega)
/-- As backTo's step, by the first j places of a task. -/
def inTo (x : TaskD) (i y s : Int) (j : Nat) : Int := match linkTo x i j with | some a => min y (s - lAt x a) | none => y
theorem inTo_hit {xs : List TaskD} (h : Fit xs) {k : Nat} {x : TaskD} (hx : xs[k]? = some x) {i y s : Int} {j : Nat} (hj : j < x.Before.length) (hb : bAt x j = i) : inTo x i y s j = y ∧ inTo x i y s (j + 1) = min y (s - lAt x j) := by
  have hn : ∀ c, c < j → bAt x c ≠ i := fun c hc he => by have := bAt_rise h hx hc hj; omega
  have h1 : linkTo x i j = none := by
    cases hq : linkTo x i j with
    | none => rfl
    | some a => have := linkTo_some hq; exact absurd this.2 (hn a this.1)
  unfold inTo
  rw [h1, linkTo_first hb hn (Nat.lt_succ_self j)]
  exact ⟨rfl, rfl⟩
theorem inTo_miss {x : TaskD} {i y s : Int} {j : Nat} (hb : bAt x j ≠ i) : inTo x i y s (j + 1) = inTo x i y s j := by
  unfold inTo
  simp only [linkTo]
  cases linkTo x i j with
  | some a => rfl
  | none => simp [hb]
theorem inTo_end {xs : List TaskD} {st : List Int} {i : Nat} {e : Int} {k : Nat} {x : TaskD} (hx : xs[k]? = some x) : inTo x i (backTo xs st i e k) (st.getD k 0) x.Before.length = backTo xs st i e (k + 1) := by
  unfold inTo
  simp only [backTo]
  rw [getD_some hx]
  rfl
end Go.Proofs.Ytfnpbhplnlfnmaa
