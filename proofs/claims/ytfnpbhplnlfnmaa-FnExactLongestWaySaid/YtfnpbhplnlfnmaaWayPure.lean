/- A longest way through tasks, as functions on lists. -/
import Derived.Test.YtfnpbhplnlfnmaaFree
namespace Go.Proofs.Ytfnpbhplnlfnmaa
open Go.RowKit Go.Lst

/-- The first place below n that fits, n for none. -/
def fstP (p : Nat → Bool) : Nat → Nat
  | 0 => 0
  | n + 1 => if fstP p n < n then fstP p n else if p n then n else n + 1
theorem fstP_is (p : Nat → Bool) : ∀ n, fstP p n ≤ n ∧ (∀ j, j < fstP p n → p j = false) ∧ (fstP p n < n → p (fstP p n) = true)
  | 0 => ⟨Nat.le_refl _, fun j h => by simp [fstP] at h, fun h => by simp [fstP] at h⟩
  | n + 1 => by
    obtain ⟨h1, h2, h3⟩ := fstP_is p n
    unfold fstP
    by_cases hl : fstP p n < n
    · rw [if_pos hl]
      exact ⟨by omega, h2, fun _ => h3 hl⟩
    · rw [if_neg hl]
      have he : fstP p n = n := by omega
      rw [he] at h2
      cases hp : p n
      · rw [if_neg (by simp)]
        refine ⟨Nat.le_refl _, fun j hj => ?_, fun h => by omega⟩
        by_cases h4 : j < n
        · exact h2 j h4
        · rw [show j = n by omega]; exact hp
      · rw [if_pos rfl]
        exact ⟨by omega, h2, fun _ => hp⟩
theorem fstP_lt {p : Nat → Bool} {n k : Nat} (hk : k < n) (hp : p k = true) : fstP p n ≤ k := by
  obtain ⟨h1, h2, _⟩ := fstP_is p n
  by_cases h : k < fstP p n
  · rw [h2 k h] at hp; cases hp
  · omega
theorem fstP_one {p : Nat → Bool} {n r : Nat} (hr : r ≤ n) (h1 : ∀ j, j < r → p j = false) (h2 : r < n → p r = true) : fstP p n = r := by
  obtain ⟨g1, g2, g3⟩ := fstP_is p n
  by_cases ha : fstP p n < r
  · rw [h1 _ ha] at g3
    exact absurd (g3 (by omega)) (by simp)
  · by_cases hb : r < fstP p n
    · rw [g2 r hb] at h2
      exact absurd (h2 (by omega)) (by simp)
    · omega
def endsP (xs : List TaskD) (k : Nat) : Bool := decide ((early xs).getD k 0 + (xs.getD k default).Time = endOf xs (early xs))
def wayAt (xs : List TaskD) : Nat := fstP (endsP xs) xs.length
def tellP (xs : List TaskD) (i j : Nat) : Bool := decide (termAt xs (early xs) (xs.getD i default) j = (early xs).getD i 0)
def tellN (xs : List TaskD) (i : Nat) : Nat := fstP (tellP xs i) (xs.getD i default).Before.length
def nextW (xs : List TaskD) (i : Nat) : Nat := (bAt (xs.getD i default) (tellN xs i)).toNat
/-- The way behind, told from its end. -/
def wayR (xs : List TaskD) : Nat → Nat → List Int → List Int
  | 0, _, acc => acc
  | f + 1, i, acc => if 0 < (early xs).getD i 0 then wayR xs f (nextW xs i) ((nextW xs i : Int) :: acc) else acc
def wayL (xs : List TaskD) : List Int := wayR xs xs.length (wayAt xs) [(wayAt xs : Int)]
theorem endTo_some (xs : List TaskD) (st : List Int) : ∀ k, endTo xs st k = 0 ∨ ∃ j, j < k ∧ st.getD j 0 + (xs.getD j default).Time = endTo xs st k
  | 0 => .inl rfl
  | k + 1 => by
    unfold endTo
    by_cases h : endTo xs st k ≤ st.getD k 0 + (xs.getD k default).Time
    · exact .inr ⟨k, by omega, by omega⟩
    · rw [show max (endTo xs st k) (st.getD k 0 + (xs.getD k default).Time) = endTo xs st k by omega]
      rcases endTo_some xs st k with h1 | ⟨j, h1, h2⟩
      · exact .inl h1
      · exact .inr ⟨j, by omega, h2⟩
theorem readyTo_some (xs : List TaskD) (st : List Int) (x : TaskD) : ∀ k, readyTo xs st x k = 0 ∨ ∃ j, j < k ∧ termAt xs st x j = readyTo xs st x k
  | 0 => .inl rfl
  | k + 1 => by
    unfold readyTo
    by_cases h : readyTo xs st x k ≤ termAt xs st x k
    · exact .inr ⟨k, by omega, by omega⟩
    · rw [show max (readyTo xs st x k) (termAt xs st x k) = readyTo xs st x k by omega]
      rcases readyTo_some xs st x k with h1 | ⟨j, h1, h2⟩
      · exact .inl h1
      · exact .inr ⟨j, by omega, h2⟩
theorem wayAt_lt {xs : List TaskD} (h : Fit xs) (h1 : 1 ≤ xs.length) : wayAt xs < xs.length := by
  have key : ∃ k, k < xs.length ∧ endsP xs k = true := by
    rcases endTo_some xs (early xs) xs.length with he | ⟨j, hj, he⟩
    · refine ⟨0, by omega, ?_⟩
      have g1 := endTo_ge xs (early xs) (k := xs.length) (j := 0) (by omega)
      have g2 := (early_bound h 0).1
      have g3 : xs[0]? = some (xs[0]'(by omega)) := List.getElem?_eq_getElem _
      have g4 := (h.time 0 _ g3).1
      rw [getD_some g3] at g1
      unfold endsP endOf
      rw [getD_some g3]
      exact decide_eq_true (by omega)
    · exact ⟨j, hj, decide_eq_true he⟩
  obtain ⟨k, hk, hp⟩ := key
  exact Nat.lt_of_le_of_lt (fstP_lt hk hp) hk
theorem tell_lt {xs : List TaskD} (h : Fit xs) {i : Nat} {x : TaskD} (hx : xs[i]? = some x) (h0 : 0 < (early xs).getD i 0) : tellN xs i < x.Before.length := by
  have h1 := early_at h hx
  unfold tellN
  rw [getD_some hx]
  rcases readyTo_some xs (early xs) x x.Before.length with he | ⟨j, hj, he⟩
  · unfold ready at h1; omega
  · refine Nat.lt_of_le_of_lt (fstP_lt hj ?_) hj
    unfold tellP
    rw [getD_some hx]
    exact decide_eq_true (by rw [he, h1]; rfl)
theorem next_is {xs : List TaskD} (h : Fit xs) {i : Nat} {x : TaskD} (hx : xs[i]? = some x) (h0 : 0 < (early xs).getD i 0) : (nextW xs i : Int) = bAt x (tellN xs i) ∧ nextW xs i < i := by
  have hb := h.before i x hx _ (tell_lt h hx h0)
  have hi := (List.getElem?_eq_some_iff.1 hx).1
  unfold nextW
  rw [getD_some hx]
  omega
theorem wayR_stop {xs : List TaskD} {f i : Nat} {acc : List Int} (h : ¬ 0 < (early xs).getD i 0) : wayR xs f i acc = acc := by
  cases f
  · rfl
  · unfold wayR; rw [if_neg h]
theorem wayR_step {xs : List TaskD} {f i : Nat} {acc : List Int} (h : 0 < (early xs).getD i 0) : wayR xs (f + 1) i acc = wayR xs f (nextW xs i) ((nextW xs i : Int) :: acc) := by
  show (if _ then _ else _) = _
  rw [if_pos h]
theorem wayR_len (xs : List TaskD) : ∀ f i acc, (wayR xs f i acc).length ≤ acc.length + f
  | 0, _, _ => Nat.le_refl _
  | f + 1, i, acc => by
    unfold wayR
    split
    · have := wayR_len xs f (nextW xs i) ((nextW xs i : Int) :: acc)
      rw [List.length_cons] at this; omega
    · omega
def wayRes (xs : List TaskD) : List Int := if areTasks xs then wayL xs else []
theorem wayRes_no {xs : List TaskD} (h : areTasks xs = false) : wayRes xs = [] := by unfold wayRes; rw [if_neg (by rw [h]; simp)]
theorem wayRes_yes {xs : List TaskD} (h : areTasks xs = true) : wayRes xs = wayL xs := by unfold wayRes; rw [if_pos h]
theorem wayRes_length (xs : List TaskD) : (wayRes xs).length ≤ 1048576 := by
  unfold wayRes
  split
  · rename_i h
    have h1 := wayR_len xs xs.length (wayAt xs) [(wayAt xs : Int)]
    have h2 := (areTasks_fit h).most
    unfold wayL
    simp only [List.length_cons, List.length_nil] at h1
    omega
  · simp
end Go.Proofs.Ytfnpbhplnlfnmaa
