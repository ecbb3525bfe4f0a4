/- Pure facts: an order in which two neighbours change places is an order. -/
import Derived.Test.YtnnmikfdaohkfaaOrdPure
namespace Go.Plan

/-- The numbers at the places a and a + 1 change places. -/
def swapL (o : List Int) (a : Nat) : List Int := (o.set a (o.getD (a + 1) 0)).set (a + 1) (o.getD a 0)
theorem swapL_length (o : List Int) (a : Nat) : (swapL o a).length = o.length := by simp [swapL]
theorem swapL_mem {o : List Int} {a : Nat} (ha : a + 1 < o.length) {x : Int} (hx : x ∈ o) : x ∈ swapL o a := by
  obtain ⟨i, hi, rfl⟩ := List.mem_iff_getElem.1 hx
  have e0 : o.getD a 0 = o[a] := by rw [List.getD_eq_getElem?_getD, List.getElem?_eq_getElem (by omega)]; rfl
  have e1 : o.getD (a + 1) 0 = o[a + 1] := by rw [List.getD_eq_getElem?_getD, List.getElem?_eq_getElem (by omega)]; rfl
  by_cases h1 : i = a
  · subst h1
    refine List.mem_of_getElem? (i := i + 1) ?_
    unfold swapL
    rw [List.getElem?_set_self (by rw [List.length_set]; omega), e0]
  · by_cases h2 : i = a + 1
    · subst h2
      refine List.mem_of_getElem? (i := a) ?_
      unfold swapL
      rw [List.getElem?_set_ne (by omega), List.getElem?_set_self (by omega), e1]
    · refine List.mem_of_getElem? (i := i) ?_
      unfold swapL
      rw [List.getElem?_set_ne (by omega), List.getElem?_set_ne (by omega)]
      exact List.getElem?_eq_getElem hi
theorem swapL_ord {o : List Int} {n a : Nat} (h : isOrd o n = true) (ha : a + 1 < o.length) : isOrd (swapL o a) n = true := by
  have hl := isOrd_len h
  have hl2 : (swapL o a).length = n := by rw [swapL_length]; omega
  unfold isOrd
  rw [decide_eq_true (show ((swapL o a).length : Int) = n by omega), Bool.true_and, ← missesNone_ord _ n hl2, missesNone_iff]
  intro x hx
  obtain ⟨h0, h1⟩ := (mem_upTo n x).1 hx
  obtain ⟨i, rfl⟩ := Int.eq_ofNat_of_zero_le h0
  exact swapL_mem ha (isOrd_mem h (by omega))
end Go.Plan
