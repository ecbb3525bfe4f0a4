/- Contracts: jobs given to machines in an order, each to the machine that is free first. -/
import Derived.Test.YtmnogipmpojoaaaOrder
import Derived.Test.YtmnogipmpojoaaaTimes
import Derived.StillTailTactics
namespace Go.Proofs.Ytmnogipmpojoaaa
open Go.RowKit Go.Lst Go.Plan

/-- The first place of the least one of the first k + 1 numbers. -/
def leastAt (fs : List Int) : Nat → Nat
  | 0 => 0
  | k + 1 => if fs.getD (k + 1) 0 < fs.getD (leastAt fs k) 0 then k + 1 else leastAt fs k
def minTo (fs : List Int) : Nat → Int
  | 0 => fs.getD 0 0
  | k + 1 => min (minTo fs k) (fs.getD (k + 1) 0)
theorem leastAt_le (fs : List Int) : ∀ k, leastAt fs k ≤ k
  | 0 => Nat.le_refl _
  | k + 1 => by
    have := leastAt_le fs k
    unfold leastAt
    split <;> omega
theorem minTo_least (fs : List Int) : ∀ k, minTo fs k = fs.getD (leastAt fs k) 0
  | 0 => rfl
  | k + 1 => by
    have ih := minTo_least fs k
    unfold minTo leastAt
    rw [ih]
    split <;> omega
theorem least_lt (fs : List Int) : ∀ k i, i < leastAt fs k → fs.getD (leastAt fs k) 0 < fs.getD i 0
  | 0, i, h => by simp [leastAt] at h
  | k + 1, i, h => by
    have ih := least_lt fs k
    have hm : ∀ j, j ≤ k → fs.getD (leastAt fs k) 0 ≤ fs.getD j 0 := by
      intro j hj
      have hq : ∀ m j, j ≤ m → fs.getD (leastAt fs m) 0 ≤ fs.getD j 0 := by
        intro m
        induction m with
        | zero => intro j hj; have : j = 0 := by omega
                  subst this; exact Int.le_refl _
        | succ m ihm =>
          intro j hj
          unfold leastAt
          by_cases hjm : j = m + 1
          · subst hjm; split <;> omega
          · have := ihm j (by omega)
            split <;> omega
      exact hq k j hj
    unfold leastAt at h ⊢
    split at h
    · rename_i hc
      rw [if_pos hc]
      have := hm i (by omega)
      omega
    · rename_i hc
      rw [if_neg hc]
      exact ih i h

/-- One job more is given to the machine that is free first. -/
def planStep (ts : List Int) (m : Nat) (s : List Int × List Int) (j : Int) : List Int × List Int :=
  (s.1.set j.toNat ((leastAt s.2 (m - 1) : Nat) : Int), s.2.set (leastAt s.2 (m - 1)) (s.2.getD (leastAt s.2 (m - 1)) 0 + ts.getD j.toNat 0))
def planTo (ts o : List Int) (m : Nat) (k : Nat) : List Int × List Int := (o.take k).foldl (planStep ts m) (List.replicate ts.length 0, List.replicate m 0)
theorem planTo_step {ts o : List Int} {m k : Nat} {j : Int} (h : o[k]? = some j) : planTo ts o m (k + 1) = planStep ts m (planTo ts o m k) j := by
  unfold planTo
  rw [List.take_add_one, h]
  simp
theorem planTo_length (ts o : List Int) (m k : Nat) : (planTo ts o m k).1.length = ts.length ∧ (planTo ts o m k).2.length = m := by
  unfold planTo
  generalize o.take k = l
  have : ∀ (l : List Int) (s : List Int × List Int), s.1.length = ts.length ∧ s.2.length = m → (l.foldl (planStep ts m) s).1.length = ts.length ∧ (l.foldl (planStep ts m) s).2.length = m := by
    intro l
    induction l with
    | nil => intro s h; exact h
    | cons a l ih => intro s h; exact ih _ (by simp [planStep, h.1, h.2])
  exact this l _ (by simp)
/-- What is known of the round k. -/
theorem plan_round {ts o : List Int} {m : Nat} (ht : okTimes ts = true) (hm : 1 ≤ m) (ho : isOrd o ts.length = true) {k : Nat} {pl fs : List Int} (hk : k < ts.length) (hS : planTo ts o m k = (pl, fs)) (hf : Small fs (10000 * k)) :
    ∃ (j a : Nat) (x f : Int), o[k]? = some (j : Int) ∧ j < ts.length ∧ ts[j]? = some x ∧ a = leastAt fs (m - 1) ∧ a < m ∧ fs[a]? = some f ∧ 0 ≤ f ∧ f ≤ 10000 * k ∧ 1 ≤ x ∧ x ≤ 10000 ∧
      planTo ts o m (k + 1) = (pl.set j (a : Int), fs.set a (f + x)) ∧ Small (fs.set a (f + x)) (10000 * ((k + 1 : Nat) : Int)) := by
  have hl := isOrd_len ho
  have e1 : o[k]? = some (o[k]'(by omega)) := List.getElem?_eq_getElem _
  obtain ⟨h2, h3⟩ := isOrd_get ho e1
  obtain ⟨j, hj2⟩ := Int.eq_ofNat_of_zero_le h2
  rw [hj2] at e1 h3
  have e2 : ts[j]? = some (ts[j]'(by omega)) := List.getElem?_eq_getElem _
  have hx := (okTimes_of ht).2.2 j _ e2
  have hlen := (planTo_length ts o m k).2
  rw [hS] at hlen
  have ha := leastAt_le fs (m - 1)
  have e3 : fs[leastAt fs (m - 1)]? = some (fs[leastAt fs (m - 1)]'(by simp only at hlen; omega)) := List.getElem?_eq_getElem _
  have hfa := hf (leastAt fs (m - 1))
  rw [getD_of e3] at hfa
  refine ⟨j, _, _, _, e1, by omega, e2, rfl, by omega, e3, hfa.1, hfa.2, hx.1, hx.2, ?_, hf.set ⟨by omega, by omega⟩ (by omega)⟩
  rw [planTo_step e1, hS]
  unfold planStep
  rw [Int.toNat_natCast, getD_of e2, getD_of e3]

theorem mn_eq (a b : Int) : (if b < a then b else a) = min a b := by split <;> omega

def planOk (ts o : List Int) (m : Int) : Bool := areTimes ts m && isOrd o ts.length
def planRes (ts o : List Int) (m : Int) : List Int := if planOk ts o m then (planTo ts o m.toNat ts.length).1 else []
def planLast (ts o : List Int) (m : Int) : Int := if planOk ts o m then maxTo (planTo ts o m.toNat ts.length).2 (m.toNat - 1) else 0
theorem planRes_length (ts o : List Int) (m : Int) : (planRes ts o m).length ≤ 1048576 := by
  unfold planRes
  split
  · rename_i h
    rw [(planTo_length _ _ _ _).1]
    simp only [planOk, areTimes, Bool.and_eq_true] at h
    have := (okTimes_of h.1.1).2.1
    omega
  · simp
def PlanPost (ts o : List Int) (m : Int) (w : World) (e : Ending) (w' : World) : Prop :=
  ∃ v', e = .returned (.tuple #[v', .int .i64 (planLast ts o m), .bool (planOk ts o m)]) ∧ Own w.heap.size w'.heap.size w' v' 2 1 (planRes ts o m).length ((planRes ts o m).map (Value.int .i64)) ∧ Below w.heap.size w w'
theorem zeros_own {w0 : World} {B g n : Nat} (h : w0.ownsRow B 2 1 (.slice (some ⟨g, 0, none⟩) n n) n (madeCells #[Value.int .i64 0] n).toList) :
    w0.ownsRow B 2 1 (.slice (some ⟨g, 0, none⟩) n n) n ((List.replicate n (0 : Int)).map (Value.int .i64)) := by
  rw [toList_madeCells_one] at h
  rw [List.map_replicate]
  exact h
theorem small_zeros (n : Nat) : Small (List.replicate n 0) (10000 * ((0 : Nat) : Int)) := fun i => by
  rw [List.getD_eq_getElem?_getD, List.getElem?_replicate]
  split <;> simp


end Go.Proofs.Ytmnogipmpojoaaa
