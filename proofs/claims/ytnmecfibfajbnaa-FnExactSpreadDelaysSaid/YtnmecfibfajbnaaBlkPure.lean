/- Pure facts: the times at which trains come to the ends of blocks. -/
import Derived.Test.YtnmecfibfajbnaaConcat
import Derived.Test.YtnmecfibfajbnaaRuns
import Derived.Test.YtnmecfibfajbnaaFillI
namespace Go.Proofs.Ytnmecfibfajbnaa
open Go.RowKit Go.Lst

def blkGo (h : Int) (pr rn : Nat → Int) : Nat → Int
  | 0 => h
  | k + 1 => max (blkGo h pr rn k) (pr k) + rn k
def blk (rn hs : Nat → Int) : Nat → Nat → Int
  | 0 => fun _ => 0
  | i + 1 => fun k => blkGo (hs i) (blk rn hs i) rn (k + 1)
theorem blkGo_in {rn pr : Nat → Int} {n i : Nat} {h : Int} (hr : ∀ k, k < n → 0 ≤ rn k ∧ rn k ≤ 1000) (hp : ∀ k, k < n → 0 ≤ pr k ∧ pr k ≤ 100000 + 1000 * ((i : Int) + k)) (h1 : 0 ≤ h) (h2 : h ≤ 100000) : ∀ k, k ≤ n → 0 ≤ blkGo h pr rn k ∧ blkGo h pr rn k ≤ 100000 + 1000 * ((i : Int) + k) := by
  intro k
  induction k with
  | zero => intro _; show 0 ≤ h ∧ h ≤ _; omega
  | succ k ih =>
    intro hk
    have a := ih (by omega)
    have b := hp k (by omega)
    have c := hr k (by omega)
    show 0 ≤ max (blkGo h pr rn k) (pr k) + rn k ∧ max (blkGo h pr rn k) (pr k) + rn k ≤ _
    omega
theorem blk_in {rn hs : Nat → Int} {n m : Nat} (hr : ∀ k, k < n → 0 ≤ rn k ∧ rn k ≤ 1000) (hh : ∀ i, i < m → 0 ≤ hs i ∧ hs i ≤ 100000) : ∀ i, i ≤ m → ∀ k, k < n → 0 ≤ blk rn hs i k ∧ blk rn hs i k ≤ 100000 + 1000 * ((i : Int) + k) := by
  intro i
  induction i with
  | zero => intro _ k _; show (0 : Int) ≤ 0 ∧ (0 : Int) ≤ _; omega
  | succ i ih =>
    intro hi k hk
    have a := blkGo_in (i := i) hr (ih (by omega)) (hh i (by omega)).1 (hh i (by omega)).2 (k + 1) (by omega)
    show 0 ≤ blkGo (hs i) (blk rn hs i) rn (k + 1) ∧ blkGo (hs i) (blk rn hs i) rn (k + 1) ≤ _
    omega
/-- What a round adds. -/
theorem blk_step (rn hs : Nat → Int) (i k : Nat) : blk rn hs (i + 1) k = max (blkGo (hs i) (blk rn hs i) rn k) (blk rn hs i k) + rn k := rfl
theorem blkGo_step (rn hs : Nat → Int) (i k : Nat) : blkGo (hs i) (blk rn hs i) rn (k + 1) = blk rn hs (i + 1) k := rfl
theorem blkGo_zero (h : Int) (pr rn : Nat → Int) : blkGo h pr rn 0 = h := rfl
theorem blk_in2 {rn hs : Nat → Int} {n m : Nat} (hr : ∀ k, k < n → 0 ≤ rn k ∧ rn k ≤ 1000) (hh : ∀ i, i < m → 0 ≤ hs i ∧ hs i ≤ 100000) (hn : n ≤ 12) (hm : m ≤ 12) {i k : Nat} (hi : i < m) (hk : k < n) :
    (0 ≤ blkGo (hs i) (blk rn hs i) rn k ∧ blkGo (hs i) (blk rn hs i) rn k ≤ 200000) ∧ (0 ≤ blk rn hs i k ∧ blk rn hs i k ≤ 200000) ∧ 0 ≤ rn k ∧ rn k ≤ 1000 := by
  have a := blkGo_in (i := i) hr (fun k hk => blk_in hr hh i (by omega) k hk) (hh i hi).1 (hh i hi).2 k (by omega)
  have b := blk_in hr hh i (by omega) k hk
  have c := hr k hk
  omega

def row2 (f g : Nat → Int) (k n : Nat) : List Int := fillI (fun z => if z < k then f z else g z) n
theorem row2_length (f g : Nat → Int) (k n : Nat) : (row2 f g k n).length = n := fillI_length _ _
theorem fillI_eq {f g : Nat → Int} {n : Nat} (h : ∀ z, z < n → f z = g z) : fillI f n = fillI g n := List.map_congr_left fun z hz => h z (List.mem_range.1 hz)
theorem row2_zero (f g : Nat → Int) (n : Nat) : row2 f g 0 n = fillI g n := fillI_eq fun z _ => by simp
theorem row2_all (f g : Nat → Int) (n : Nat) : row2 f g n n = fillI f n := fillI_eq fun z hz => by rw [if_pos hz]
theorem fillI_get {f : Nat → Int} {n k : Nat} (h : k < n) : (fillI f n)[k]? = some (f k) := by unfold fillI; rw [List.getElem?_map, List.getElem?_range h]; rfl
theorem row2_get (f g : Nat → Int) {k n : Nat} (h : k < n) : (row2 f g k n)[k]? = some (g k) := by unfold row2; rw [fillI_get h, if_neg (Nat.lt_irrefl k)]
theorem row2_set (f g : Nat → Int) {k n : Nat} (h : k < n) : (row2 f g k n).set k (f k) = row2 f g (k + 1) n := by
  apply List.ext_getElem?
  intro z
  rw [List.getElem?_set, row2_length]
  by_cases hz : z < n
  · have e1 : (row2 f g k n)[z]? = some (if z < k then f z else g z) := fillI_get hz
    have e2 : (row2 f g (k + 1) n)[z]? = some (if z < k + 1 then f z else g z) := fillI_get hz
    rw [e1, e2]
    by_cases hk : k = z
    · subst hk; rw [if_pos rfl, if_pos h, if_pos (by omega)]
    · rw [if_neg hk]
      by_cases h1 : z < k
      · rw [if_pos h1, if_pos (by omega)]
      · rw [if_neg h1, if_neg (by omega)]
  · rw [if_neg (by omega), List.getElem?_eq_none (by rw [row2_length]; omega), List.getElem?_eq_none (by rw [row2_length]; omega)]
theorem zeros_fill (n : Nat) : List.replicate n (0 : Int) = fillI (fun _ => 0) n := by
  apply List.ext_getElem?
  intro z
  by_cases hz : z < n
  · rw [fillI_get hz, List.getElem?_replicate, if_pos hz]
  · rw [List.getElem?_eq_none (by rw [List.length_replicate]; omega), List.getElem?_eq_none (by rw [fillI_length]; omega)]

theorem cat_length {xs : Nat → List Int} {n : Nat} (h : ∀ j, (xs j).length = n) : ∀ i, (cat xs i).length = i * n
  | 0 => by rw [Nat.zero_mul]; rfl
  | i + 1 => by show (cat xs i ++ xs i).length = _; rw [List.length_append, cat_length h i, h, Nat.succ_mul]
theorem cat_get {xs : Nat → List Int} {n : Nat} (h : ∀ j, (xs j).length = n) {j k : Nat} (hk : k < n) : ∀ i, j < i → (cat xs i)[j * n + k]? = (xs j)[k]? := by
  intro i
  induction i with
  | zero => intro h0; omega
  | succ i ih =>
    intro hi
    show (cat xs i ++ xs i)[j * n + k]? = _
    have hl := cat_length h i
    by_cases hj : j < i
    · have := Nat.mul_le_mul_right n (show j + 1 ≤ i by omega)
      rw [Nat.succ_mul] at this
      rw [List.getElem?_append_left (by omega)]
      exact ih hj
    · obtain rfl : j = i := by omega
      rw [List.getElem?_append_right (by omega), hl, Nat.add_sub_cancel_left]

def canBlk (rs hs : List Int) : Bool := okRuns rs && inB hs.length 1 12 && allIn hs 0 100000
def blkRow (rs hs : List Int) (i : Nat) : List Int := fillI (blk (fun k => rs.getD k 0) (fun k => hs.getD k 0) (i + 1)) rs.length
def blkRes (rs hs : List Int) : List Int := if canBlk rs hs then cat (blkRow rs hs) hs.length else []
theorem canBlk_of {rs hs : List Int} (h : canBlk rs hs = true) : okRuns rs = true ∧ 1 ≤ hs.length ∧ hs.length ≤ 12 ∧ allIn hs 0 100000 = true := by
  simp only [canBlk, Bool.and_eq_true] at h
  have := inB_true h.1.2
  exact ⟨h.1.1, by omega, by omega, h.2⟩
theorem blkRes_length (rs hs : List Int) : (blkRes rs hs).length ≤ 1048576 := by
  unfold blkRes
  split
  · rename_i h
    obtain ⟨h1, h2, h3, _⟩ := canBlk_of h
    obtain ⟨g1, g2, _⟩ := okRuns_of h1
    rw [cat_length (xs := blkRow rs hs) (n := rs.length) (fun j => fillI_length _ _)]
    have := Nat.mul_le_mul h3 g2
    omega
  · exact Nat.zero_le _
end Go.Proofs.Ytnmecfibfajbnaa
