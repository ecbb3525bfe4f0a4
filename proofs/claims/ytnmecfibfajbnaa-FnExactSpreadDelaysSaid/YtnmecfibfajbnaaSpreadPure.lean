/- Pure facts: the least numbers over arcs that go forward. -/
import Derived.Test.YtnmecfibfajbnaaLst
namespace Go.Proofs.Ytnmecfibfajbnaa

/-- An arc's number of its end is brought up. -/
def relax (F T : Nat → Nat) (D : Nat → Int) (i : Nat) (st : Nat → Int) : Nat → Int := fun v => if v = T i then max (st (T i)) (st (F i) + D i) else st v
def relaxTo (F T : Nat → Nat) (D : Nat → Int) (to i : Nat) (st : Nat → Int) : Nat → Int := if T i = to then relax F T D i st else st
/-- The model's inner loop, and its outer one. -/
def sprIn (F T : Nat → Nat) (D : Nat → Int) (to : Nat) (st : Nat → Int) : Nat → Nat → Int
  | 0 => st
  | i + 1 => relaxTo F T D to i (sprIn F T D to st i)
def spr (F T : Nat → Nat) (D : Nat → Int) (q : Nat) (L : Nat → Int) : Nat → Nat → Int
  | 0 => L
  | to + 1 => sprIn F T D to (spr F T D q L to) q
/-- The program's pass. -/
def pass (F T : Nat → Nat) (D : Nat → Int) (st : Nat → Int) : Nat → Nat → Int
  | 0 => st
  | i + 1 => relax F T D i (pass F T D st i)

theorem relax_ge (F T : Nat → Nat) (D : Nat → Int) (i : Nat) (st : Nat → Int) (v : Nat) : st v ≤ relax F T D i st v := by
  unfold relax
  split
  · rename_i h; subst h; omega
  · exact Int.le_refl _
theorem relax_le {F T : Nat → Nat} {D : Nat → Int} {i : Nat} {st X : Nat → Int} (h : ∀ v, st v ≤ X v) (hX : X (F i) + D i ≤ X (T i)) : ∀ v, relax F T D i st v ≤ X v := fun v => by
  unfold relax
  split
  · rename_i e
    subst e
    have h1 := h (T i)
    have h2 := h (F i)
    omega
  · exact h v
theorem relaxTo_other {F T : Nat → Nat} {D : Nat → Int} {to i v : Nat} {st : Nat → Int} (h : v ≠ to) : relaxTo F T D to i st v = st v := by
  unfold relaxTo
  split
  · rename_i e; unfold relax; rw [if_neg (by omega)]
  · rfl
theorem relaxTo_ge (F T : Nat → Nat) (D : Nat → Int) (to i : Nat) (st : Nat → Int) (v : Nat) : st v ≤ relaxTo F T D to i st v := by
  unfold relaxTo
  split
  · exact relax_ge F T D i st v
  · exact Int.le_refl _
theorem sprIn_other {F T : Nat → Nat} {D : Nat → Int} {to v : Nat} {st : Nat → Int} (h : v ≠ to) : ∀ i, sprIn F T D to st i v = st v
  | 0 => rfl
  | i + 1 => (relaxTo_other h).trans (sprIn_other h i)
theorem sprIn_ge (F T : Nat → Nat) (D : Nat → Int) (to : Nat) (st : Nat → Int) (v : Nat) : ∀ i j, i ≤ j → sprIn F T D to st i v ≤ sprIn F T D to st j v := by
  intro i j
  induction j with
  | zero => intro h; obtain rfl : i = 0 := by omega
            exact Int.le_refl _
  | succ j ih =>
    intro h
    by_cases hj : i ≤ j
    · exact Int.le_trans (ih hj) (relaxTo_ge F T D to j _ v)
    · obtain rfl : i = j + 1 := by omega
      exact Int.le_refl _
theorem spr_other {F T : Nat → Nat} {D : Nat → Int} {q v : Nat} {L : Nat → Int} : ∀ to n, v < to → to ≤ n → spr F T D q L n v = spr F T D q L to v := by
  intro to n
  induction n with
  | zero => intro h1 h2; omega
  | succ n ih =>
    intro h1 h2
    by_cases hn : to ≤ n
    · exact (sprIn_other (show v ≠ n by omega) q).trans (ih h1 hn)
    · rw [show to = n + 1 by omega]
theorem spr_ge (F T : Nat → Nat) (D : Nat → Int) (q : Nat) (L : Nat → Int) (v : Nat) : ∀ n, L v ≤ spr F T D q L n v
  | 0 => Int.le_refl _
  | n + 1 => Int.le_trans (spr_ge F T D q L v n) (sprIn_ge F T D n (spr F T D q L n) v 0 q (Nat.zero_le _))
/-- The model's numbers keep all arcs that go forward. -/
theorem spr_closed {F T : Nat → Nat} {D : Nat → Int} {q n : Nat} {L : Nat → Int} {i : Nat} (hi : i < q) (hf : F i < T i) (ht : T i < n) : spr F T D q L n (F i) + D i ≤ spr F T D q L n (T i) := by
  have e1 : spr F T D q L n (F i) = spr F T D q L (T i) (F i) := spr_other (T i) n hf (by omega)
  have e2 : spr F T D q L n (T i) = spr F T D q L (T i + 1) (T i) := spr_other (T i + 1) n (Nat.lt_succ_self _) (by omega)
  rw [e1, e2]
  have h1 := sprIn_ge F T D (T i) (spr F T D q L (T i)) (T i) (i + 1) q hi
  have h2 : sprIn F T D (T i) (spr F T D q L (T i)) i (F i) = spr F T D q L (T i) (F i) := sprIn_other (show F i ≠ T i by omega) i
  refine Int.le_trans ?_ h1
  show _ ≤ relaxTo F T D (T i) i (sprIn F T D (T i) (spr F T D q L (T i)) i) (T i)
  unfold relaxTo
  rw [if_pos rfl]
  unfold relax
  rw [if_pos rfl, h2]
  omega
/-- They are the least that do. -/
theorem sprIn_le {F T : Nat → Nat} {D : Nat → Int} {to q : Nat} {st X : Nat → Int} (h : ∀ v, st v ≤ X v) (hX : ∀ i, i < q → X (F i) + D i ≤ X (T i)) : ∀ i, i ≤ q → ∀ v, sprIn F T D to st i v ≤ X v := by
  intro i
  induction i with
  | zero => intro _; exact h
  | succ i ih =>
    intro hi v
    show relaxTo F T D to i _ v ≤ _
    unfold relaxTo
    split
    · exact relax_le (ih (by omega)) (hX i (by omega)) v
    · exact ih (by omega) v
theorem spr_le {F T : Nat → Nat} {D : Nat → Int} {q : Nat} {L X : Nat → Int} (h : ∀ v, L v ≤ X v) (hX : ∀ i, i < q → X (F i) + D i ≤ X (T i)) : ∀ n v, spr F T D q L n v ≤ X v
  | 0 => h
  | n + 1 => sprIn_le (spr_le h hX n) hX q (Nat.le_refl _)

theorem pass_le {F T : Nat → Nat} {D : Nat → Int} {q : Nat} {st X : Nat → Int} (h : ∀ v, st v ≤ X v) (hX : ∀ i, i < q → X (F i) + D i ≤ X (T i)) : ∀ i, i ≤ q → ∀ v, pass F T D st i v ≤ X v := by
  intro i
  induction i with
  | zero => intro _; exact h
  | succ i ih => intro hi v; exact relax_le (ih (by omega)) (hX i (by omega)) v
theorem pass_ge (F T : Nat → Nat) (D : Nat → Int) (st : Nat → Int) (v : Nat) : ∀ i j, i ≤ j → pass F T D st i v ≤ pass F T D st j v := by
  intro i j
  induction j with
  | zero => intro h; obtain rfl : i = 0 := by omega
            exact Int.le_refl _
  | succ j ih =>
    intro h
    by_cases hj : i ≤ j
    · exact Int.le_trans (ih hj) (relax_ge F T D j _ v)
    · obtain rfl : i = j + 1 := by omega
      exact Int.le_refl _
/-- A pass that changes nothing leaves all arcs kept. -/
theorem pass_closed {F T : Nat → Nat} {D : Nat → Int} {q : Nat} {st : Nat → Int} (h : ∀ i, i < q → pass F T D st q (T i) = st (T i)) {i : Nat} (hi : i < q) : st (F i) + D i ≤ st (T i) := by
  have h1 := pass_ge F T D st (T i) (i + 1) q hi
  have h2 := pass_ge F T D st (F i) 0 i (Nat.zero_le _)
  have h3 : pass F T D st (i + 1) (T i) = max (pass F T D st i (T i)) (pass F T D st i (F i) + D i) := by
    show relax F T D i (pass F T D st i) (T i) = _
    unfold relax; rw [if_pos rfl]
  rw [h i hi] at h1
  have h4 : st (F i) ≤ pass F T D st i (F i) := h2
  omega
/-- Where the program ends, it has the model's numbers. -/
theorem settled_is {F T : Nat → Nat} {D : Nat → Int} {q n : Nat} {L st : Nat → Int} (h0 : ∀ v, L v ≤ st v) (h1 : ∀ v, st v ≤ spr F T D q L n v) (h2 : ∀ i, i < q → pass F T D st q (T i) = st (T i)) (v : Nat) : st v = spr F T D q L n v :=
  Int.le_antisymm (h1 v) (spr_le h0 (fun _ hi => pass_closed h2 hi) n v)
/-- How much is missing yet. -/
def lack (R st : Nat → Int) : Nat → Nat
  | 0 => 0
  | n + 1 => lack R st n + (R n - st n).toNat
theorem lack_le {R a b : Nat → Int} (h : ∀ v, a v ≤ b v) : ∀ n, lack R b n ≤ lack R a n
  | 0 => Nat.le_refl _
  | n + 1 => by
    have := lack_le (R := R) h n
    have := h n
    show lack R b n + _ ≤ lack R a n + _
    omega
theorem lack_lt {R a b : Nat → Int} (h : ∀ v, a v ≤ b v) (hR : ∀ v, b v ≤ R v) {v : Nat} (hv : a v ≠ b v) : ∀ n, v < n → lack R b n < lack R a n := by
  intro n
  induction n with
  | zero => intro h0; omega
  | succ n ih =>
    intro hn
    have h1 := h n
    have h2 := hR n
    have h3 := lack_le (R := R) h n
    show lack R b n + _ < lack R a n + _
    by_cases hvn : v < n
    · have := ih hvn; omega
    · obtain rfl : v = n := by omega
      omega
end Go.Proofs.Ytnmecfibfajbnaa
