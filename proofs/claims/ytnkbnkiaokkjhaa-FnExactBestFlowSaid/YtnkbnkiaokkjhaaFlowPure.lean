/- Pure facts on flows: when jobs end on machines. -/
import Derived.Test.YtnkbnkiaokkjhaaShopRows
import Derived.Test.YtnkbnkiaokkjhaaOrder
import Derived.Laws.CopyOwn
namespace Go.Proofs.Ytnkbnkiaokkjhaa
open Go.Lst Go.Plan

theorem splice_nil {α : Type} (L : List α) (p : Nat) : splice L p [] = L := by simp [splice]
theorem splice_step {α : Type} {L xs : List α} {p k : Nat} {y : α} (hx : xs.length = k) (hp : p + k < L.length) : (splice L p xs).set (p + k) y = splice L p (xs ++ [y]) := by
  unfold splice
  have h1 : (L.take p).length = p := by rw [List.length_take]; omega
  rw [List.set_append_right _ _ (by omega), h1, show p + k - p = k by omega, List.set_append_right _ _ (by omega), hx, Nat.sub_self, List.drop_eq_getElem_cons hp, List.set_cons_zero, List.append_assoc, List.singleton_append, List.length_append, hx, List.length_singleton, Nat.add_assoc]
theorem map_splice {α β : Type} (f : α → β) (L xs : List α) (p : Nat) : (splice L p xs).map f = splice (L.map f) p (xs.map f) := by
  unfold splice
  simp [List.map_append, List.map_take, List.map_drop]
theorem splice_getD {L xs : List Int} {p : Nat} (h : p + xs.length ≤ L.length) (i : Nat) : (splice L p xs).getD i 0 = if p ≤ i ∧ i < p + xs.length then xs.getD (i - p) 0 else L.getD i 0 := by
  unfold splice
  have h1 : (L.take p).length = p := by rw [List.length_take]; omega
  simp only [List.getD_eq_getElem?_getD]
  by_cases h2 : i < p
  · rw [List.getElem?_append_left (by omega), if_neg (by omega), List.getElem?_take, if_pos h2]
  · rw [List.getElem?_append_right (by omega), h1]
    by_cases h3 : i < p + xs.length
    · rw [List.getElem?_append_left (by omega), if_pos ⟨by omega, h3⟩]
    · rw [List.getElem?_append_right (by omega), if_neg (by omega), List.getElem?_drop, show p + xs.length + (i - p - xs.length) = i by omega]

/-- When a job, whose times begin at the place p, is ready behind the first k machines, which were free at fr. -/
def rdy (ts fr : List Int) (p : Nat) : Nat → Int
  | 0 => 0
  | k + 1 => max (rdy ts fr p k) (fr.getD k 0) + ts.getD (p + k) 0
def rdyL (ts fr : List Int) (p k : Nat) : List Int := (List.range k).map fun i => rdy ts fr p (i + 1)
theorem rdyL_length (ts fr : List Int) (p k : Nat) : (rdyL ts fr p k).length = k := by simp [rdyL]
theorem rdyL_succ (ts fr : List Int) (p k : Nat) : rdyL ts fr p (k + 1) = rdyL ts fr p k ++ [rdy ts fr p (k + 1)] := by unfold rdyL; rw [List.range_succ, List.map_append]; rfl
theorem rdyL_getD (ts fr : List Int) (p k i : Nat) (h : i < k) : (rdyL ts fr p k).getD i 0 = rdy ts fr p (i + 1) := by
  unfold rdyL
  rw [List.getD_eq_getElem?_getD, List.getElem?_map, List.getElem?_range h]; rfl
/-- When machines are free while the job goes over the first k ones. -/
def freeIn (ts fr : List Int) (p k : Nat) : List Int := splice fr 0 (rdyL ts fr p k)
theorem freeIn_length (ts fr : List Int) (p k : Nat) (h : k ≤ fr.length) : (freeIn ts fr p k).length = fr.length := length_splice _ _ _ (by rw [rdyL_length]; omega)
theorem freeIn_zero (ts fr : List Int) (p : Nat) : freeIn ts fr p 0 = fr := by simp [freeIn, rdyL, splice]
theorem freeIn_step (ts fr : List Int) (p k : Nat) (h : k < fr.length) : (freeIn ts fr p k).set k (rdy ts fr p (k + 1)) = freeIn ts fr p (k + 1) := by
  have := splice_step (L := fr) (p := 0) (y := rdy ts fr p (k + 1)) (rdyL_length ts fr p k) (by omega)
  rw [Nat.zero_add] at this
  unfold freeIn
  rw [this, rdyL_succ]
theorem freeIn_at (ts fr : List Int) (p k : Nat) (h : k < fr.length) : (freeIn ts fr p k).getD k 0 = fr.getD k 0 := by
  unfold freeIn
  rw [splice_getD (by rw [rdyL_length]; omega), if_neg (by rw [rdyL_length]; omega)]
theorem freeIn_full (ts fr : List Int) (p m : Nat) (h : fr.length = m) : freeIn ts fr p m = rdyL ts fr p m := by
  unfold freeIn splice
  rw [rdyL_length, Nat.zero_add, List.drop_of_length_le (by omega)]
  simp
/-- The ends on machines, and when these are free, behind the first k jobs of an order. -/
def flowTo (ts o : List Int) (m : Nat) : Nat → List Int × List Int
  | 0 => (List.replicate ts.length 0, List.replicate m 0)
  | k + 1 => (splice (flowTo ts o m k).1 ((o.getD k 0).toNat * m) (rdyL ts (flowTo ts o m k).2 ((o.getD k 0).toNat * m) m), rdyL ts (flowTo ts o m k).2 ((o.getD k 0).toNat * m) m)
theorem flowTo_free (ts o : List Int) (m : Nat) : ∀ k, (flowTo ts o m k).2.length = m
  | 0 => by simp [flowTo]
  | k + 1 => by unfold flowTo; exact rdyL_length _ _ _ _
theorem rdy_bound {ts fr : List Int} {p m : Nat} {X : Int} (ht : ∀ (i : Nat) (x : Int), ts[i]? = some x → 1 ≤ x ∧ x ≤ 10000) (hp : p + m ≤ ts.length) (hf : Small fr X) : ∀ k, k ≤ m → 0 ≤ rdy ts fr p k ∧ rdy ts fr p k ≤ X + 10000 * k
  | 0, _ => by
    have := hf 0
    unfold rdy; omega
  | k + 1, hk => by
    have ih := rdy_bound ht hp hf k (by omega)
    have h1 := hf k
    have h2 := all_at ht (k := p + k) (by omega)
    unfold rdy
    omega
/-- What is known of the round k. -/
theorem flow_round {ts o : List Int} {m n : Nat} (ht : ∀ (i : Nat) (x : Int), ts[i]? = some x → 1 ≤ x ∧ x ≤ 10000) (hl : ts.length = n * m) (ho : isOrd o n = true) {k : Nat} (hk : k < n) :
    ∃ j p : Nat, o[k]? = some (j : Int) ∧ j < n ∧ p = j * m ∧ p + m ≤ ts.length ∧
      flowTo ts o m (k + 1) = (splice (flowTo ts o m k).1 p (rdyL ts (flowTo ts o m k).2 p m), rdyL ts (flowTo ts o m k).2 p m) := by
  have hol := isOrd_len ho
  have e1 : o[k]? = some (o[k]'(by omega)) := List.getElem?_eq_getElem _
  obtain ⟨h2, h3⟩ := isOrd_get ho e1
  obtain ⟨j, hj⟩ := Int.eq_ofNat_of_zero_le h2
  rw [hj] at e1 h3
  have := row_fit (m := m) (show j < n by omega)
  refine ⟨j, j * m, e1, by omega, rfl, by omega, ?_⟩
  show (splice (flowTo ts o m k).1 ((o.getD k 0).toNat * m) (rdyL ts (flowTo ts o m k).2 ((o.getD k 0).toNat * m) m), rdyL ts (flowTo ts o m k).2 ((o.getD k 0).toNat * m) m) = _
  rw [getD_of e1, Int.toNat_natCast]
theorem flow_small {ts o : List Int} {m n : Nat} (ht : ∀ (i : Nat) (x : Int), ts[i]? = some x → 1 ≤ x ∧ x ≤ 10000) (hl : ts.length = n * m) (hm : m ≤ 8) (ho : isOrd o n = true) : ∀ k, k ≤ n → Small (flowTo ts o m k).2 (80000 * k) ∧ (flowTo ts o m k).1.length = ts.length
  | 0, _ => ⟨zeros_small m, by simp [flowTo]⟩
  | k + 1, hk => by
    obtain ⟨h1, h2⟩ := flow_small ht hl hm ho k (by omega)
    obtain ⟨j, p, hj, hjn, hp, hpl, hs⟩ := flow_round ht hl ho (k := k) (by omega)
    rw [hs]
    refine ⟨fun i => ?_, ?_⟩
    · by_cases hi : i < m
      · have := rdy_bound ht hpl h1 (i + 1) (by omega)
        show 0 ≤ (rdyL ts (flowTo ts o m k).2 p m).getD i 0 ∧ (rdyL ts (flowTo ts o m k).2 p m).getD i 0 ≤ _
        rw [rdyL_getD _ _ _ _ _ hi]
        omega
      · show 0 ≤ (rdyL ts (flowTo ts o m k).2 p m).getD i 0 ∧ (rdyL ts (flowTo ts o m k).2 p m).getD i 0 ≤ _
        rw [List.getD_eq_getElem?_getD, List.getElem?_eq_none (by rw [rdyL_length]; omega)]
        show (0 : Int) ≤ 0 ∧ (0 : Int) ≤ _
        omega
    · show (splice _ _ _).length = _
      rw [length_splice _ _ _ (by rw [rdyL_length]; omega)]
      exact h2
theorem rdy_mono {ts fr : List Int} {p m : Nat} (ht : ∀ (i : Nat) (x : Int), ts[i]? = some x → 1 ≤ x ∧ x ≤ 10000) (hp : p + m ≤ ts.length) : ∀ {i k : Nat}, i ≤ k → k ≤ m → rdy ts fr p i ≤ rdy ts fr p k
  | i, 0, h, _ => by have : i = 0 := by omega
                     subst this; exact Int.le_refl _
  | i, k + 1, h, hk => by
    by_cases e : i = k + 1
    · subst e; exact Int.le_refl _
    · have ih := rdy_mono (fr := fr) ht hp (i := i) (k := k) (by omega) (by omega)
      have h2 := all_at ht (k := p + k) (by omega)
      show _ ≤ max (rdy ts fr p k) (fr.getD k 0) + ts.getD (p + k) 0
      omega
theorem rdy_ge {ts fr : List Int} {p m k : Nat} (ht : ∀ (i : Nat) (x : Int), ts[i]? = some x → 1 ≤ x ∧ x ≤ 10000) (hp : p + m ≤ ts.length) (hk : k < m) : fr.getD k 0 ≤ rdy ts fr p (k + 1) := by
  have h2 := all_at ht (k := p + k) (by omega)
  show _ ≤ max (rdy ts fr p k) (fr.getD k 0) + ts.getD (p + k) 0
  omega
/-- No end is greater than when the last machine is free, which is one of them. -/
theorem flow_most {ts o : List Int} {m n : Nat} (ht : ∀ (i : Nat) (x : Int), ts[i]? = some x → 1 ≤ x ∧ x ≤ 10000) (hl : ts.length = n * m) (hm1 : 1 ≤ m) (hm : m ≤ 8) (ho : isOrd o n = true) : ∀ k, k ≤ n →
    (∀ i, (flowTo ts o m k).1.getD i 0 ≤ (flowTo ts o m k).2.getD (m - 1) 0) ∧ (1 ≤ k → ∃ i, i < ts.length ∧ (flowTo ts o m k).1.getD i 0 = (flowTo ts o m k).2.getD (m - 1) 0)
  | 0, _ => ⟨fun i => by
      unfold flowTo
      simp only [List.getD_eq_getElem?_getD, List.getElem?_replicate]
      split <;> split <;> simp, fun h => by omega⟩
  | k + 1, hk => by
    obtain ⟨h1, _⟩ := flow_most ht hl hm1 hm ho k (by omega)
    obtain ⟨hsm, hlen⟩ := flow_small ht hl hm ho k (by omega)
    obtain ⟨j, p, hj, hjn, hp, hpl, hs⟩ := flow_round ht hl ho (k := k) (by omega)
    rw [hs]
    have hge := rdy_ge (fr := (flowTo ts o m k).2) ht hpl (k := m - 1) (by omega)
    rw [show m - 1 + 1 = m by omega] at hge
    have hfit : p + (rdyL ts (flowTo ts o m k).2 p m).length ≤ (flowTo ts o m k).1.length := by rw [rdyL_length]; omega
    refine ⟨fun i => ?_, fun _ => ⟨p + (m - 1), by omega, ?_⟩⟩
    · show (splice _ _ _).getD i 0 ≤ (rdyL ts (flowTo ts o m k).2 p m).getD (m - 1) 0
      rw [rdyL_getD _ _ _ _ _ (by omega), splice_getD hfit, show m - 1 + 1 = m by omega]
      split
      · rename_i hc
        rw [rdyL_length] at hc
        rw [rdyL_getD _ _ _ _ _ (by omega)]
        exact rdy_mono ht hpl (by omega) (Nat.le_refl _)
      · have := h1 i
        omega
    · show (splice _ _ _).getD _ 0 = (rdyL ts (flowTo ts o m k).2 p m).getD (m - 1) 0
      rw [splice_getD hfit, rdyL_length, if_pos (by omega), show p + (m - 1) - p = m - 1 by omega]
theorem flow_last {ts o : List Int} {m n : Nat} (ht : ∀ (i : Nat) (x : Int), ts[i]? = some x → 1 ≤ x ∧ x ≤ 10000) (hl : ts.length = n * m) (hm1 : 1 ≤ m) (hm : m ≤ 8) (hn : 1 ≤ n) (ho : isOrd o n = true) :
    maxTo (flowTo ts o m n).1 (ts.length - 1) = (flowTo ts o m n).2.getD (m - 1) 0 := by
  obtain ⟨h1, h2⟩ := flow_most ht hl hm1 hm ho n (Nat.le_refl _)
  obtain ⟨i, hi, he⟩ := h2 hn
  have h3 := maxTo_ge (xs := (flowTo ts o m n).1) (k := ts.length - 1) (i := i) (by omega)
  have h4 := maxTo_le (xs := (flowTo ts o m n).1) (k := ts.length - 1) fun i _ => h1 i
  omega
def canFlow (ts o : List Int) (M : Int) : Bool := canShop ts M && isOrd o ((ts.length / M.toNat : Nat) : Int)
def flowRes (ts o : List Int) (M : Int) : List Int := if canFlow ts o M then (flowTo ts o M.toNat (ts.length / M.toNat)).1 else []
def flowEnd (ts o : List Int) (M : Int) : Int := if canFlow ts o M then (flowTo ts o M.toNat (ts.length / M.toNat)).2.getD (M.toNat - 1) 0 else 0
theorem canFlow_of {ts o : List Int} {M : Int} (h : canFlow ts o M = true) : ∃ m n : Nat, M = (m : Int) ∧ 1 ≤ m ∧ m ≤ 8 ∧ 1 ≤ n ∧ n ≤ 24 ∧ ts.length = n * m ∧ ts.length / m = n ∧ (∀ (i : Nat) (x : Int), ts[i]? = some x → 1 ≤ x ∧ x ≤ 10000) ∧ isOrd o n = true := by
  simp only [canFlow, Bool.and_eq_true] at h
  obtain ⟨m, n, rfl, h2, h3, h4, h5, h6, h7⟩ := canShop_of h.1
  have hd : ts.length / m = n := by rw [h6]; exact Nat.mul_div_cancel n (by omega)
  have h8 := h.2
  rw [Int.toNat_natCast, hd] at h8
  exact ⟨m, n, rfl, h2, h3, h4, h5, h6, hd, h7, h8⟩
theorem flowRes_length (ts o : List Int) (M : Int) : (flowRes ts o M).length ≤ 1048576 := by
  unfold flowRes
  split
  · rename_i h
    obtain ⟨m, n, rfl, h2, h3, h4, h5, h6, h7, h8, h9⟩ := canFlow_of h
    rw [Int.toNat_natCast, h7, (flow_small h8 h6 h3 h9 n (Nat.le_refl _)).2, h6]
    have := mul_le24 h5 h3
    omega
  · simp
end Go.Proofs.Ytnkbnkiaokkjhaa
