/- Pure facts on orders: a list of n numbers has each of 0 .. n-1 once if and only if it misses none of them. -/
namespace Go.Plan

/-- Every number of the list is from 0 to n - 1, and none comes twice; the list has n of them. -/
def seenIn (o : List Int) (k : Nat) (x : Int) : Bool := (o.take k).contains x
def ordUpTo (o : List Int) (n : Int) : Nat → Bool
  | 0 => true
  | k + 1 => ordUpTo o n k && (match o[k]? with | some x => decide (0 ≤ x ∧ x ≤ n - 1) && !(o.take k).contains x | none => true)
def isOrd (o : List Int) (n : Int) : Bool := decide ((o.length : Int) = n) && ordUpTo o n o.length
/-- Whether the list misses none of 0 .. n - 1. -/
def missesNone (o : List Int) (n : Nat) : Bool := (List.range n).all fun (j : Nat) => o.contains (j : Int)

theorem ordUpTo_iff (o : List Int) (n : Int) : ∀ k, k ≤ o.length → (ordUpTo o n k = true ↔ (∀ x ∈ o.take k, 0 ≤ x ∧ x ≤ n - 1) ∧ (o.take k).Nodup)
  | 0, _ => by simp [ordUpTo]
  | k + 1, h => by
    have ih := ordUpTo_iff o n k (by omega)
    have e : o[k]? = some o[k] := List.getElem?_eq_getElem _
    have ht : o.take (k + 1) = o.take k ++ [o[k]] := by rw [List.take_add_one, e]; rfl
    unfold ordUpTo
    rw [e, ht]
    simp only [Bool.and_eq_true, ih, decide_eq_true_eq, Bool.not_eq_true', List.mem_append, List.mem_singleton, List.nodup_append, List.contains_eq_mem, decide_eq_false_iff_not]
    constructor
    · rintro ⟨⟨h1, h2⟩, h3, h4⟩
      refine ⟨?_, h2, by simp, ?_⟩
      · rintro x (hx | rfl)
        · exact h1 x hx
        · exact h3
      · rintro a ha b rfl rfl
        exact h4 ha
    · rintro ⟨h1, h2, _, h4⟩
      exact ⟨⟨fun x hx => h1 x (.inl hx), h2⟩, h1 _ (.inr rfl), fun ha => h4 _ ha _ rfl rfl⟩

theorem len_le_of_nodup_subset {α : Type} [DecidableEq α] : ∀ (l m : List α), l.Nodup → (∀ x ∈ l, x ∈ m) → l.length ≤ m.length
  | [], _, _, _ => Nat.zero_le _
  | a :: l, m, hn, hs => by
    have ha : a ∈ m := hs a (by simp)
    rw [List.nodup_cons] at hn
    have := len_le_of_nodup_subset l (m.erase a) hn.2 fun x hx => by
      have hne : x ≠ a := fun e => hn.1 (e ▸ hx)
      exact (List.mem_erase_of_ne hne).2 (hs x (List.mem_cons_of_mem _ hx))
    have hp : 0 < m.length := List.length_pos_iff.2 (fun h0 => by rw [h0] at ha; cases ha)
    rw [List.length_erase_of_mem ha] at this
    simp
    omega

def upTo (n : Nat) : List Int := (List.range n).map (fun (j : Nat) => (j : Int))
theorem upTo_nodup (n : Nat) : (upTo n).Nodup := by
  unfold upTo
  rw [List.nodup_iff_pairwise_ne, List.pairwise_map]
  exact (List.nodup_iff_pairwise_ne.1 List.nodup_range).imp fun h e => h (by omega)
theorem mem_upTo (n : Nat) (x : Int) : x ∈ upTo n ↔ 0 ≤ x ∧ x < n := by
  unfold upTo
  rw [List.mem_map]
  constructor
  · rintro ⟨j, hj, rfl⟩
    have := List.mem_range.1 hj
    omega
  · rintro ⟨h1, h2⟩
    exact ⟨x.toNat, List.mem_range.2 (by omega), by omega⟩
theorem upTo_length (n : Nat) : (upTo n).length = n := by simp [upTo]

theorem missesNone_iff (o : List Int) (n : Nat) : missesNone o n = true ↔ ∀ x ∈ upTo n, x ∈ o := by
  unfold missesNone
  rw [List.all_eq_true]
  constructor
  · intro h x hx
    obtain ⟨j, hj, rfl⟩ := List.mem_map.1 hx
    simpa using h j hj
  · intro h j hj
    simpa using h j (List.mem_map.2 ⟨j, hj, rfl⟩)

/-- A list of n numbers misses none of 0 .. n - 1 if and only if it is an order. -/
theorem missesNone_ord (o : List Int) (n : Nat) (hl : o.length = n) : missesNone o n = ordUpTo o n o.length := by
  rw [Bool.eq_iff_iff, missesNone_iff, ordUpTo_iff o n o.length (Nat.le_refl _), List.take_length]
  constructor
  · intro h
    have key : ∀ a ∈ o, ¬ (∀ x ∈ upTo n, x ∈ o.erase a) := fun a ha hc => by
      have := len_le_of_nodup_subset _ _ (upTo_nodup n) hc
      have hp : 0 < o.length := List.length_pos_iff.2 (fun h0 => by rw [h0] at ha; cases ha)
      rw [upTo_length, List.length_erase_of_mem ha] at this
      omega
    refine ⟨fun x hx => ?_, ?_⟩
    · rcases Decidable.em (0 ≤ x ∧ x ≤ (n : Int) - 1) with h1 | h1
      · exact h1
      · refine absurd (fun y hy => ?_) (key x hx)
        have hne : y ≠ x := fun e => h1 (by have := (mem_upTo n y).1 hy; omega)
        exact (List.mem_erase_of_ne hne).2 (h y hy)
    · rw [List.nodup_iff_pairwise_ne]
      rcases Classical.em (o.Pairwise (· ≠ ·)) with h1 | h1
      · exact h1
      · exfalso
        have : ∃ a ∈ o, a ∈ o.erase a := by
          clear key h hl
          induction o with
          | nil => exact absurd List.Pairwise.nil h1
          | cons b l ih =>
            rcases Classical.em (b ∈ l) with hb | hb
            · exact ⟨b, by simp, by simpa using hb⟩
            · have hl2 : ¬ l.Pairwise (· ≠ ·) := fun hp => h1 (List.pairwise_cons.2 ⟨fun c hc e => hb (e ▸ hc), hp⟩)
              obtain ⟨a, ha, hm⟩ := ih hl2
              have hne : b ≠ a := fun e => hb (e ▸ ha)
              refine ⟨a, List.mem_cons_of_mem _ ha, ?_⟩
              rw [List.erase_cons_tail (by simpa using hne)]
              exact List.mem_cons_of_mem _ hm
        obtain ⟨a, ha, hm⟩ := this
        refine key a ha fun x hx => ?_
        rcases Decidable.em (x = a) with rfl | hne
        · exact hm
        · exact (List.mem_erase_of_ne hne).2 (h x hx)
  · rintro ⟨h1, h2⟩ x hx
    rcases Classical.em (x ∈ o) with h3 | h3
    · exact h3
    · exfalso
      have hs : ∀ y ∈ o, y ∈ (upTo n).erase x := fun y hy => by
        have hne : y ≠ x := fun e => h3 (e ▸ hy)
        exact (List.mem_erase_of_ne hne).2 ((mem_upTo n y).2 (by have := h1 y hy; omega))
      have hlen := len_le_of_nodup_subset _ _ h2 hs
      rw [List.length_erase_of_mem hx, upTo_length, hl] at hlen
      have := (mem_upTo n x).1 hx
      omega

theorem isOrd_len {o : List Int} {n : Int} (h : isOrd o n = true) : (o.length : Int) = n := by
  unfold isOrd at h
  simp at h
  exact h.1
theorem isOrd_get {o : List Int} {n : Int} (h : isOrd o n = true) {i : Nat} {x : Int} (hx : o[i]? = some x) : 0 ≤ x ∧ x < n := by
  have hl := isOrd_len h
  unfold isOrd at h
  simp only [Bool.and_eq_true, decide_eq_true_eq] at h
  have := ((ordUpTo_iff o n o.length (Nat.le_refl _)).1 h.2).1 x (by rw [List.take_length]; exact List.mem_of_getElem? hx)
  omega
/-- An index is among the numbers of an order. -/
theorem isOrd_mem {o : List Int} {n : Nat} (h : isOrd o n = true) {i : Nat} (hi : i < n) : (i : Int) ∈ o := by
  have hl := isOrd_len h
  unfold isOrd at h
  simp only [Bool.and_eq_true, decide_eq_true_eq] at h
  have := missesNone_ord o n (by omega)
  rw [h.2, missesNone_iff] at this
  exact this _ ((mem_upTo n _).2 (by omega))
theorem ordUpTo_false {o : List Int} {n : Int} {k m : Nat} (h : ordUpTo o n k = false) (hm : k ≤ m) : ordUpTo o n m = false := by
  induction m with
  | zero => have : k = 0 := by omega
            subst this; exact h
  | succ m ih =>
    by_cases e : k = m + 1
    · subst e; exact h
    · unfold ordUpTo
      rw [ih (by omega), Bool.false_and]
theorem ordUpTo_step {o : List Int} {n x : Int} {k : Nat} (hx : o[k]? = some x) : ordUpTo o n (k + 1) = (ordUpTo o n k && (decide (0 ≤ x ∧ x ≤ n - 1) && !(o.take k).contains x)) := by
  show (ordUpTo o n k && match o[k]? with | some x => decide (0 ≤ x ∧ x ≤ n - 1) && !(o.take k).contains x | none => true) = _
  rw [hx]

/-- How many of 0 .. n - 1 the first k numbers miss. -/
def cntMiss (o : List Int) (n k : Nat) : Nat := ((List.range n).filter fun (j : Nat) => !(o.take k).contains (j : Int)).length
theorem cntMiss_zero (o : List Int) (n : Nat) : cntMiss o n 0 = n := by
  unfold cntMiss
  rw [List.filter_eq_self.2 (fun j _ => by simp), List.length_range]
theorem if_iff {p q : Prop} [Decidable p] [Decidable q] (h : p ↔ q) (a b : Nat) : (if p then a else b) = if q then a else b := by
  by_cases hp : p
  · rw [if_pos hp, if_pos (h.1 hp)]
  · rw [if_neg hp, if_neg (fun hq => hp (h.2 hq))]
theorem filter_drop_one {p : Nat → Bool} {x : Nat} : ∀ (l : List Nat), l.Nodup → (l.filter fun j => p j && decide (j ≠ x)).length + (if x ∈ l ∧ p x = true then 1 else 0) = (l.filter p).length
  | [], _ => by simp
  | a :: l, h => by
    rw [List.nodup_cons] at h
    have ih := filter_drop_one (p := p) (x := x) l h.2
    by_cases ha : a = x
    · subst ha
      rw [if_neg (fun hc => h.1 hc.1)] at ih
      cases hp : p a <;> simp_all [List.filter_cons]
    · have e : (x ∈ a :: l ∧ p x = true) ↔ (x ∈ l ∧ p x = true) := by simp [List.mem_cons, Ne.symm ha]
      rw [if_iff e, List.filter_cons, List.filter_cons]
      cases hp : p a <;> simp [ha] <;> simp_all <;> omega
theorem cntMiss_step {o : List Int} {n k : Nat} {x : Int} (hx : o[k]? = some x) : cntMiss o n (k + 1) + (if 0 ≤ x ∧ x < n ∧ (o.take k).contains x = false then 1 else 0) = cntMiss o n k := by
  have ht : o.take (k + 1) = o.take k ++ [x] := by rw [List.take_add_one, hx]; rfl
  unfold cntMiss
  rw [ht]
  by_cases h0 : 0 ≤ x
  · obtain ⟨y, rfl⟩ := Int.eq_ofNat_of_zero_le h0
    have := filter_drop_one (p := fun (j : Nat) => !(o.take k).contains (j : Int)) (x := y) (List.range n) List.nodup_range
    rw [← this]
    congr 1
    · congr 1
      refine List.filter_congr fun j _ => ?_
      rw [Bool.eq_iff_iff]
      simp only [List.contains_eq_mem, List.mem_append, List.mem_singleton, Bool.not_eq_true', decide_eq_false_iff_not, Bool.and_eq_true, decide_eq_true_eq, not_or]
      constructor
      · rintro ⟨h1, h2⟩; exact ⟨h1, fun e => h2 (by rw [e])⟩
      · rintro ⟨h1, h2⟩; exact ⟨h1, fun e => h2 (by omega)⟩
    · refine if_iff ?_ _ _
      simp only [List.mem_range, Bool.not_eq_true']
      constructor
      · rintro ⟨_, h1, h2⟩; exact ⟨by omega, h2⟩
      · rintro ⟨h1, h2⟩; exact ⟨by omega, by omega, h2⟩
  · rw [if_neg (fun hc => h0 hc.1), Nat.add_zero]
    congr 1
    refine List.filter_congr fun j _ => ?_
    rw [Bool.eq_iff_iff]
    simp only [List.contains_eq_mem, List.mem_append, List.mem_singleton, Bool.not_eq_true', decide_eq_false_iff_not, not_or]
    constructor
    · rintro ⟨h1, _⟩; exact h1
    · intro h1; exact ⟨h1, by omega⟩
theorem cntMiss_all (o : List Int) (n : Nat) (hl : o.length = n) : decide (cntMiss o n n = 0) = isOrd o n := by
  unfold isOrd
  rw [decide_eq_true (show (o.length : Int) = n by omega), Bool.true_and, ← missesNone_ord o n hl, Bool.eq_iff_iff, decide_eq_true_eq]
  unfold cntMiss missesNone
  rw [← hl, List.take_length, List.length_eq_zero_iff, List.filter_eq_nil_iff, List.all_eq_true]
  constructor
  · intro h j hj; simpa using h j hj
  · intro h j hj; simpa using h j hj
end Go.Plan
