/- Talks given to rooms, one after another: pure facts. -/
import Derived.Test.YtehobcmjjcmfnaaMeets
namespace Go.Proofs.Ytehobcmjjcmfnaa.Room
open Srt

/-- Whether a room holds a talk that meets the talk i. -/
def bad (P : Nat → Int × Int) (F : Nat → Nat) (L : List Nat) (i r : Nat) : Bool := (List.range L.length).any fun j => decide (L.getD j 0 = r) && meetT (P i) (P (F j))
def leastR (b : Nat → Bool) : Nat → Nat → Nat
  | r, 0 => r
  | r, f + 1 => if b r then leastR b (r + 1) f else r
theorem leastR_is (b : Nat → Bool) : ∀ f r, b (r + f) = false → r ≤ leastR b r f ∧ leastR b r f ≤ r + f ∧ b (leastR b r f) = false ∧ ∀ s, r ≤ s → s < leastR b r f → b s = true
  | 0, r, h => ⟨Nat.le_refl _, Nat.le_refl _, h, fun s h1 h2 => by unfold leastR at h2; omega⟩
  | f + 1, r, h => by
    unfold leastR
    cases hb : b r
    · rw [if_neg (by simp)]
      exact ⟨Nat.le_refl _, by omega, hb, fun s h1 h2 => by omega⟩
    · rw [if_pos rfl]
      obtain ⟨a1, a2, a3, a4⟩ := leastR_is b f (r + 1) (by rw [show r + 1 + f = r + (f + 1) by omega]; exact h)
      refine ⟨by omega, by omega, a3, fun s h1 h2 => ?_⟩
      by_cases e : s = r
      · rw [e]; exact hb
      · exact a4 s (by omega) h2
/-- How many rooms there are. -/
def cntR : List Nat → Nat
  | [] => 0
  | r :: L => max (r + 1) (cntR L)
theorem cntR_snoc (r : Nat) : ∀ L : List Nat, cntR (L ++ [r]) = max (cntR L) (r + 1)
  | [] => by simp [cntR]
  | x :: L => by
    show max (x + 1) (cntR (L ++ [r])) = max (max (x + 1) (cntR L)) (r + 1)
    rw [cntR_snoc r L]; omega
theorem cntR_lt : ∀ (L : List Nat) (j x : Nat), L[j]? = some x → x < cntR L
  | [], j, x, h => by simp at h
  | y :: L, 0, x, h => by
    obtain rfl : y = x := by simpa using h
    show y < max (y + 1) (cntR L); omega
  | y :: L, j + 1, x, h => by
    have := cntR_lt L j x (by simpa using h)
    show x < max (y + 1) (cntR L); omega
theorem bad_beyond (P : Nat → Int × Int) (F : Nat → Nat) (L : List Nat) (i r : Nat) (h : cntR L ≤ r) : bad P F L i r = false := by
  unfold bad
  rw [List.any_eq_false]
  intro j hj
  have hj' := List.mem_range.1 hj
  have := cntR_lt L j L[j] (List.getElem?_eq_getElem _)
  rw [List.getD_eq_getElem?_getD, List.getElem?_eq_getElem hj']
  simp only [Option.getD_some, Bool.and_eq_true, decide_eq_true_eq, not_and]
  intro e; omega
/-- The room of the talk i. -/
def roomN (P : Nat → Int × Int) (F : Nat → Nat) (L : List Nat) (i : Nat) : Nat := leastR (bad P F L i) 0 (cntR L)
theorem roomN_is (P : Nat → Int × Int) (F : Nat → Nat) (L : List Nat) (i : Nat) : roomN P F L i ≤ cntR L ∧ bad P F L i (roomN P F L i) = false ∧ ∀ s, s < roomN P F L i → bad P F L i s = true := by
  obtain ⟨a1, a2, a3, a4⟩ := leastR_is (bad P F L i) (cntR L) 0 (by rw [Nat.zero_add]; exact bad_beyond P F L i _ (Nat.le_refl _))
  exact ⟨by unfold roomN; omega, a3, fun s hs => a4 s (Nat.zero_le _) hs⟩
theorem roomN_one {P : Nat → Int × Int} {F : Nat → Nat} {L : List Nat} {i r : Nat} (h1 : ∀ s, s < r → bad P F L i s = true) (h2 : bad P F L i r = false) : r = roomN P F L i := by
  obtain ⟨a1, a2, a3⟩ := roomN_is P F L i
  rcases Nat.lt_trichotomy r (roomN P F L i) with c | c | c
  · have := a3 r c
    rw [h2] at this; cases this
  · exact c
  · have := h1 _ c
    rw [a2] at this; cases this
/-- The rooms of the first k talks of an order. -/
def roomsT (P : Nat → Int × Int) (F : Nat → Nat) : Nat → List Nat
  | 0 => []
  | k + 1 => roomsT P F k ++ [roomN P F (roomsT P F k) (F k)]
theorem roomsT_len (P : Nat → Int × Int) (F : Nat → Nat) : ∀ k, (roomsT P F k).length = k
  | 0 => rfl
  | k + 1 => by unfold roomsT; rw [List.length_append, roomsT_len P F k]; rfl
theorem cntR_le (P : Nat → Int × Int) (F : Nat → Nat) : ∀ k, cntR (roomsT P F k) ≤ k
  | 0 => Nat.le_refl _
  | k + 1 => by
    have ih := cntR_le P F k
    have := (roomN_is P F (roomsT P F k) (F k)).1
    unfold roomsT
    rw [cntR_snoc]; omega
/-- The talks of a room, in the order in which they came. -/
def inRoom (F : Nat → Nat) (L : List Nat) (r : Nat) : List Nat := ((List.range L.length).filter fun j => decide (L.getD j 0 = r)).map F
theorem inRoom_bad (P : Nat → Int × Int) (F : Nat → Nat) (L : List Nat) (i r : Nat) : ((inRoom F L r).map P).any (meetT (P i)) = bad P F L i r := by
  unfold inRoom bad
  rw [List.map_map, List.any_map]
  generalize List.range L.length = js
  induction js with
  | nil => rfl
  | cons j js ih =>
    rw [List.filter_cons]
    by_cases e : L.getD j 0 = r
    · rw [if_pos (by simpa using e), List.any_cons, List.any_cons, ih, decide_eq_true e, Bool.true_and]; rfl
    · rw [if_neg (by simpa using e), List.any_cons, ih, decide_eq_false e, Bool.false_and, Bool.false_or]
theorem inRoom_snoc (F : Nat → Nat) (L : List Nat) (r s : Nat) : inRoom F (L ++ [r]) s = inRoom F L s ++ (if r = s then [F L.length] else []) := by
  unfold inRoom
  rw [List.length_append, List.length_singleton, List.range_succ, List.filter_append, List.map_append]
  congr 1
  · congr 1
    apply List.filter_congr
    intro j hj
    have := List.mem_range.1 hj
    rw [List.getD_eq_getElem?_getD, List.getElem?_append_left this, ← List.getD_eq_getElem?_getD]
  · rw [List.filter_cons, List.filter_nil, List.getD_eq_getElem?_getD, List.getElem?_append_right (Nat.le_refl _), Nat.sub_self]
    show (if decide (r = s) = true then [L.length] else []).map F = _
    by_cases e : r = s
    · simp [e]
    · simp [e]
theorem inRoom_none (F : Nat → Nat) (L : List Nat) (r : Nat) (h : cntR L ≤ r) : inRoom F L r = [] := by
  unfold inRoom
  rw [List.map_eq_nil_iff, List.filter_eq_nil_iff]
  intro j hj
  have hj' := List.mem_range.1 hj
  have := cntR_lt L j L[j] (List.getElem?_eq_getElem _)
  rw [List.getD_eq_getElem?_getD, List.getElem?_eq_getElem hj']
  simp only [Option.getD_some, decide_eq_true_eq]
  omega
/-- What the answer holds when the rooms of the first k talks are told, and d elsewhere. -/
def outTo (d : Int) (F L : Nat → Nat) : Nat → Nat → Int
  | 0 => fun _ => d
  | k + 1 => fun i => if i = F k then (L k : Int) else outTo d F L k i
theorem outTo_at (d : Int) {F L : Nat → Nat} {n : Nat} (inj : ∀ i j, i < n → j < n → F i = F j → i = j) : ∀ k, k ≤ n → ∀ j, j < k → outTo d F L k (F j) = (L j : Int)
  | 0, _, j, h => by omega
  | k + 1, hk, j, h => by
    unfold outTo
    by_cases e : F j = F k
    · have := inj j k (by omega) (by omega) e
      rw [if_pos e, this]
    · rw [if_neg e]
      by_cases c : j = k
      · rw [c] at e; exact absurd rfl e
      · exact outTo_at d inj k (by omega) j (by omega)
theorem outTo_no (d : Int) {F L : Nat → Nat} : ∀ k i, (∀ j, j < k → F j ≠ i) → outTo d F L k i = d
  | 0, i, _ => rfl
  | k + 1, i, h => by
    unfold outTo
    rw [if_neg (fun e => h k (by omega) e.symm)]
    exact outTo_no d k i fun j hj => h j (by omega)
/-- The first of the talks that have no room yet, by their beginnings. -/
def atTo (b : Nat → Int) (o : Nat → Int) : Nat → Int
  | 0 => -1
  | i + 1 => if decide (o i < 0) && (decide (atTo b o i < 0) || decide (b i < b (atTo b o i).toNat)) then (i : Int) else atTo b o i
theorem atTo_is (b : Nat → Int) (o : Nat → Int) : ∀ n, (atTo b o n = -1 ∧ ∀ i, i < n → ¬ o i < 0) ∨
    ∃ z : Nat, z < n ∧ atTo b o n = (z : Int) ∧ o z < 0 ∧ ∀ i, i < n → o i < 0 → i ≠ z → b z < b i ∨ (b z = b i ∧ z < i)
  | 0 => .inl ⟨rfl, fun i hi => by omega⟩
  | n + 1 => by
    have ih := atTo_is b o n
    unfold atTo
    by_cases hf : o n < 0
    · rw [decide_eq_true hf, Bool.true_and]
      rcases ih with ⟨e, h⟩ | ⟨z, hz, e, fz, h⟩
      · rw [e, if_pos (by simp)]
        refine .inr ⟨n, by omega, rfl, hf, fun i hi fi ne => ?_⟩
        exact absurd fi (h i (by omega))
      · rw [e, decide_eq_false (show ¬ (z : Int) < 0 by omega), Bool.false_or, Int.toNat_natCast]
        by_cases c : b n < b z
        · rw [decide_eq_true c, if_pos rfl]
          refine .inr ⟨n, by omega, rfl, hf, fun i hi fi ne => ?_⟩
          by_cases q : i = z
          · subst q; exact .inl c
          · have := h i (by omega) fi q
            exact .inl (by omega)
        · rw [decide_eq_false c, if_neg (by simp)]
          refine .inr ⟨z, by omega, rfl, fz, fun i hi fi ne => ?_⟩
          by_cases q : i = n
          · subst q
            by_cases c2 : b z = b i
            · exact .inr ⟨c2, hz⟩
            · exact .inl (by omega)
          · exact h i (by omega) fi ne
    · rw [decide_eq_false hf, Bool.false_and, if_neg (by simp)]
      rcases ih with ⟨e, h⟩ | ⟨z, hz, e, fz, h⟩
      · refine .inl ⟨e, fun i hi => ?_⟩
        by_cases c : i = n
        · rw [c]; exact hf
        · exact h i (by omega)
      · refine .inr ⟨z, by omega, e, fz, fun i hi fi ne => ?_⟩
        by_cases c : i = n
        · rw [c] at fi; exact absurd fi hf
        · exact h i (by omega) fi ne
/-- It is the next one of the order. -/
theorem atTo_next {b : Nat → Int} {F L : Nat → Nat} {n t : Nat} (low : ∀ l, l < n → F l < n) (all : ∀ x, x < n → ∃ l, l < n ∧ F l = x) (ord : ∀ i j, i < j → j < n → b (F i) < b (F j) ∨ (b (F i) = b (F j) ∧ F i < F j)) (ht : t < n) : atTo b (outTo (-1) F L t) n = (F t : Int) := by
  have inj : ∀ i j, i < n → j < n → F i = F j → i = j := fun i j hi hj e => by
    rcases Nat.lt_trichotomy i j with c | c | c
    · have := ord i j c hj
      rw [e] at this; omega
    · exact c
    · have := ord j i c hi
      rw [e] at this; omega
  have neg : ∀ l, l < n → (outTo (-1) F L t (F l) < 0 ↔ t ≤ l) := fun l hl => by
    by_cases c : l < t
    · rw [outTo_at (-1) inj t (by omega) l c]; omega
    · rw [outTo_no (-1) t (F l) fun j hj e => by have := inj j l (by omega) hl e; omega]
      omega
  rcases atTo_is b (outTo (-1) F L t) n with ⟨e, h⟩ | ⟨z, hz, e, fz, h⟩
  · exact absurd ((neg t ht).2 (Nat.le_refl _)) (h (F t) (low t ht))
  · obtain ⟨l, hl, rfl⟩ := all z hz
    have h1 := (neg l hl).1 fz
    by_cases c : l = t
    · rw [e, c]
    · have h2 := h (F t) (low t ht) ((neg t ht).2 (Nat.le_refl _)) (fun q => c (inj t l ht hl q).symm)
      have h3 := ord t l (by omega) hl
      omega
/-- Which rooms are bad, by the answer so far. -/
theorem bad_out {P : Nat → Int × Int} {F : Nat → Nat} {L : List Nat} {n i r : Nat} (hL : L.length ≤ n) (low : ∀ l, l < n → F l < n) (inj : ∀ i j, i < n → j < n → F i = F j → i = j) (all : ∀ x, x < n → ∃ l, l < n ∧ F l = x) :
    ((List.range n).any fun k => decide (outTo (-1) F (fun j => L.getD j 0) L.length k = (r : Int)) && meetT (P i) (P k)) = bad P F L i r := by
  unfold bad
  apply Bool.eq_iff_iff.2
  simp only [List.any_eq_true, List.mem_range, Bool.and_eq_true, decide_eq_true_eq]
  constructor
  · rintro ⟨k, hk, e, m⟩
    obtain ⟨l, hl, rfl⟩ := all k hk
    by_cases c : l < L.length
    · rw [outTo_at (-1) inj L.length hL l c] at e
      exact ⟨l, c, by omega, m⟩
    · rw [outTo_no (-1) L.length (F l) fun j hj q => by have := inj j l (by omega) hl q; omega] at e
      omega
  · rintro ⟨j, hj, e, m⟩
    refine ⟨F j, low j (by omega), ?_, m⟩
    rw [outTo_at (-1) inj L.length hL j hj, e]
end Go.Proofs.Ytehobcmjjcmfnaa.Room
