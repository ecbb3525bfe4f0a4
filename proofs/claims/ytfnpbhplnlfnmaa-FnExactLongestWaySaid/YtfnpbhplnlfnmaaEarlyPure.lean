/- The least starts of tasks, the end, the greatest starts: as functions on lists. -/
import Derived.Test.YtfnpbhplnlfnmaaTasks
namespace Go.Proofs.Ytfnpbhplnlfnmaa

/-- Tasks whose Befores lead back, with times and lags of some size. -/
structure Fit (xs : List TaskD) : Prop where
  most : xs.length ≤ 16
  time : ∀ (k : Nat) (x : TaskD), xs[k]? = some x → 0 ≤ x.Time ∧ x.Time ≤ 1000
  len : ∀ (k : Nat) (x : TaskD), xs[k]? = some x → x.Before.length = x.Lags.length
  before : ∀ (k : Nat) (x : TaskD), xs[k]? = some x → ∀ j, j < x.Before.length → 0 ≤ bAt x j ∧ bAt x j ≤ k - 1 ∧ (0 < j → bAt x (j - 1) < bAt x j)
  lags : ∀ (k : Nat) (x : TaskD), xs[k]? = some x → ∀ j, j < x.Before.length → -100 ≤ lAt x j ∧ lAt x j ≤ 100
theorem AreT.fit {xs : List TaskD} (h : AreT xs) : Fit xs :=
  ⟨h.most, fun k x hx => by have := (h.each k x hx).time; omega, fun k x hx => (h.each k x hx).len, fun k x hx => (h.each k x hx).before, fun k x hx => (h.each k x hx).lags⟩
theorem bAt_rise {xs : List TaskD} (h : Fit xs) {k : Nat} {x : TaskD} (hx : xs[k]? = some x) : ∀ {i j : Nat}, i < j → j < x.Before.length → bAt x i < bAt x j := by
  intro i j hij
  induction j with
  | zero => omega
  | succ j ih =>
    intro hj
    have h1 := ((h.before k x hx (j + 1) hj).2.2 (by omega))
    rw [Nat.add_sub_cancel] at h1
    by_cases h2 : i = j
    · subst h2; exact h1
    · have := ih (by omega) (by omega); omega
/-- There are at most as many Befores as tasks ahead. -/
theorem before_few {xs : List TaskD} (h : Fit xs) {k : Nat} {x : TaskD} (hx : xs[k]? = some x) : x.Before.length ≤ 16 := by
  have hk := (List.getElem?_eq_some_iff.1 hx).1
  have hm := h.most
  have : ∀ j, j < x.Before.length → (j : Int) ≤ bAt x j := by
    intro j
    induction j with
    | zero => intro hj; exact (h.before k x hx 0 hj).1
    | succ j ih =>
      intro hj
      have := ih (by omega)
      have := bAt_rise h hx (show j < j + 1 by omega) hj
      omega
  by_cases h0 : x.Before.length = 0
  · omega
  · have h1 := this (x.Before.length - 1) (by omega)
    have h2 := (h.before k x hx (x.Before.length - 1) (by omega)).2.1
    omega

/-- What lies in a list of numbers at a place. -/
def stAt (st : List Int) (b : Int) : Int := st.getD b.toNat 0
def tmAt (xs : List TaskD) (b : Int) : Int := (xs.getD b.toNat default).Time
def termAt (xs : List TaskD) (st : List Int) (x : TaskD) (j : Nat) : Int := stAt st (bAt x j) + tmAt xs (bAt x j) + lAt x j
def readyTo (xs : List TaskD) (st : List Int) (x : TaskD) : Nat → Int
  | 0 => 0
  | j + 1 => max (readyTo xs st x j) (termAt xs st x j)
/-- The least start of a task by the starts of those before it. -/
def ready (xs : List TaskD) (st : List Int) (x : TaskD) : Int := readyTo xs st x x.Before.length
def endTo (xs : List TaskD) (st : List Int) : Nat → Int
  | 0 => 0
  | k + 1 => max (endTo xs st k) (st.getD k 0 + (xs.getD k default).Time)
/-- The greatest end. -/
def endOf (xs : List TaskD) (st : List Int) : Int := endTo xs st xs.length
/-- All numbers of a list lie from lo to hi, and so does 0. -/
def Bnd (lo hi : Int) (st : List Int) : Prop := ∀ k : Nat, lo ≤ st.getD k 0 ∧ st.getD k 0 ≤ hi
theorem tmAt_bound {xs : List TaskD} (h : Fit xs) (b : Int) : 0 ≤ tmAt xs b ∧ tmAt xs b ≤ 1000 := by
  unfold tmAt
  by_cases hb : b.toNat < xs.length
  · have e : xs[b.toNat]? = some xs[b.toNat] := List.getElem?_eq_getElem hb
    rw [getD_some e]
    exact h.time _ _ e
  · rw [List.getD_eq_getElem?_getD, List.getElem?_eq_none (by omega)]
    exact ⟨Int.le_refl _, by decide⟩
theorem termAt_bound {xs : List TaskD} {st : List Int} {lo hi : Int} (h : Fit xs) (hs : Bnd lo hi st) {k : Nat} {x : TaskD} (hx : xs[k]? = some x) {j : Nat} (hj : j < x.Before.length) : lo - 100 ≤ termAt xs st x j ∧ termAt xs st x j ≤ hi + 1100 := by
  have h1 := hs (bAt x j).toNat
  have h2 := tmAt_bound h (bAt x j)
  have h3 := h.lags k x hx j hj
  unfold termAt stAt
  omega
theorem readyTo_bound {xs : List TaskD} {st : List Int} {lo hi : Int} (h : Fit xs) (hs : Bnd lo hi st) (h0 : 0 ≤ hi) {k : Nat} {x : TaskD} (hx : xs[k]? = some x) : ∀ j, j ≤ x.Before.length → 0 ≤ readyTo xs st x j ∧ readyTo xs st x j ≤ hi + 1100
  | 0, _ => by simp only [readyTo]; omega
  | j + 1, hj => by
    have h1 := readyTo_bound h hs h0 hx j (by omega)
    have h2 := termAt_bound h hs hx (show j < x.Before.length by omega)
    simp only [readyTo]
    omega
theorem endTo_bound {xs : List TaskD} {st : List Int} {lo hi : Int} (h : Fit xs) (hs : Bnd lo hi st) (h0 : 0 ≤ hi) : ∀ k, 0 ≤ endTo xs st k ∧ endTo xs st k ≤ hi + 1000
  | 0 => by simp only [endTo]; omega
  | k + 1 => by
    have h1 := endTo_bound h hs h0 k
    have h2 := hs k
    have h3 := tmAt_bound h k
    unfold tmAt at h3
    rw [Int.toNat_natCast] at h3
    simp only [endTo]
    omega
theorem endTo_ge (xs : List TaskD) (st : List Int) : ∀ {k j : Nat}, j < k → st.getD j 0 + (xs.getD j default).Time ≤ endTo xs st k := by
  intro k
  induction k with
  | zero => intro j hj; omega
  | succ k ih =>
    intro j hj
    simp only [endTo]
    by_cases h1 : j = k
    · subst h1; omega
    · have := ih (show j < k by omega); omega
theorem endTo_le {xs : List TaskD} {st : List Int} {e : Int} (h0 : 0 ≤ e) : ∀ {k : Nat}, (∀ j, j < k → st.getD j 0 + (xs.getD j default).Time ≤ e) → endTo xs st k ≤ e := by
  intro k
  induction k with
  | zero => intro _; exact h0
  | succ k ih =>
    intro h
    have h1 := ih fun j hj => h j (by omega)
    have h2 := h k (by omega)
    simp only [endTo]; omega
theorem readyTo_ge (xs : List TaskD) (st : List Int) (x : TaskD) : ∀ {n j : Nat}, j < n → termAt xs st x j ≤ readyTo xs st x n := by
  intro n
  induction n with
  | zero => intro j hj; omega
  | succ n ih =>
    intro j hj
    simp only [readyTo]
    by_cases h1 : j = n
    · subst h1; omega
    · have := ih (show j < n by omega); omega

/-- The least starts of the first k tasks. -/
def earlyTo (xs : List TaskD) : Nat → List Int
  | 0 => List.replicate xs.length 0
  | k + 1 => (earlyTo xs k).set k (ready xs (earlyTo xs k) (xs.getD k default))
def early (xs : List TaskD) : List Int := earlyTo xs xs.length
theorem earlyTo_length (xs : List TaskD) : ∀ k, (earlyTo xs k).length = xs.length
  | 0 => by simp [earlyTo]
  | k + 1 => by simp [earlyTo, earlyTo_length xs k]
theorem early_length (xs : List TaskD) : (early xs).length = xs.length := earlyTo_length xs _
theorem getD_set (st : List Int) (i k : Nat) (v : Int) : (st.set i v).getD k 0 = if i = k ∧ k < st.length then v else st.getD k 0 := by
  rw [List.getD_eq_getElem?_getD, List.getD_eq_getElem?_getD, List.getElem?_set]
  by_cases h1 : i = k
  · subst h1
    by_cases h2 : i < st.length
    · simp [h2]
    · simp [h2]
  · simp [h1]
theorem Bnd.set_ {lo hi lo' hi' v : Int} {st : List Int} (h : Bnd lo hi st) (hv : lo' ≤ v ∧ v ≤ hi') (h1 : lo' ≤ lo) (h2 : hi ≤ hi') (i : Nat) : Bnd lo' hi' (st.set i v) := fun k => by
  have := h k
  rw [getD_set]
  split <;> omega
theorem Bnd.mono {lo hi lo' hi' : Int} {st : List Int} (h : Bnd lo hi st) (h1 : lo' ≤ lo) (h2 : hi ≤ hi') : Bnd lo' hi' st := fun k => by have := h k; omega
theorem bnd_zeros (n : Nat) : Bnd 0 0 (List.replicate n 0) := fun k => by
  rw [List.getD_eq_getElem?_getD, List.getElem?_replicate]
  split <;> simp
theorem earlyTo_bound {xs : List TaskD} (h : Fit xs) : ∀ k, k ≤ xs.length → Bnd 0 (1100 * k) (earlyTo xs k)
  | 0, _ => by simpa [earlyTo] using bnd_zeros xs.length
  | k + 1, hk => by
    have h1 := earlyTo_bound h k (by omega)
    have e : xs[k]? = some (xs[k]'(by omega)) := List.getElem?_eq_getElem _
    have h2 := readyTo_bound h h1 (by omega) e _ (Nat.le_refl _)
    simp only [earlyTo]
    refine h1.set_ ?_ (Int.le_refl _) (by omega) k
    rw [getD_some e]
    unfold ready
    omega
theorem early_bound {xs : List TaskD} (h : Fit xs) : Bnd 0 17600 (early xs) := (earlyTo_bound h _ (Nat.le_refl _)).mono (Int.le_refl _) (by have := h.most; omega)
/-- What has been told stays. -/
theorem earlyTo_keep (xs : List TaskD) {i : Nat} : ∀ {k m : Nat}, k ≤ m → i < k → (earlyTo xs m).getD i 0 = (earlyTo xs k).getD i 0 := by
  intro k m hkm hi
  induction hkm with
  | refl => rfl
  | @step m hm ih =>
    have : k ≤ m := hm
    simp only [earlyTo]
    rw [getD_set, if_neg (by omega)]
    exact ih
theorem readyTo_same {xs : List TaskD} {st st' : List Int} {k : Nat} {x : TaskD} (h : Fit xs) (hx : xs[k]? = some x) (hs : ∀ i, i < k → st.getD i 0 = st'.getD i 0) : ∀ j, j ≤ x.Before.length → readyTo xs st x j = readyTo xs st' x j
  | 0, _ => rfl
  | j + 1, hj => by
    simp only [readyTo]
    rw [readyTo_same h hx hs j (by omega)]
    have hb := h.before k x hx j (by omega)
    unfold termAt stAt
    rw [hs _ (by omega)]
/-- Each least start is told by the others. -/
theorem early_at {xs : List TaskD} (h : Fit xs) {k : Nat} {x : TaskD} (hx : xs[k]? = some x) : (early xs).getD k 0 = ready xs (early xs) x := by
  have hk := (List.getElem?_eq_some_iff.1 hx).1
  have h1 : (early xs).getD k 0 = (earlyTo xs (k + 1)).getD k 0 := earlyTo_keep xs (by omega) (by omega)
  rw [h1]
  simp only [earlyTo]
  rw [getD_set, if_pos ⟨rfl, by rw [earlyTo_length]; exact hk⟩, getD_some hx]
  unfold ready
  exact readyTo_same h hx (fun i hi => (earlyTo_keep xs (by omega) hi).symm) _ (Nat.le_refl _)
end Go.Proofs.Ytfnpbhplnlfnmaa
