/- Contracts: which lists are jobs. -/
import Derived.Test.YtjpmliigepegaaaDoorRowJob
namespace Go.Proofs.YtjpmliigepegaaaDoor
open Go.RowKit Go.Lst

/-- n is from lo to hi. -/
def inB (n lo hi : Int) : Bool := decide (lo ≤ n ∧ n ≤ hi)
theorem inB_true {n lo hi : Int} (h : inB n lo hi = true) : lo ≤ n ∧ n ≤ hi := by simpa [inB] using h
theorem inB_false {n lo hi : Int} (h : inB n lo hi = false) : n < lo ∨ hi < n := by
  have : ¬ (lo ≤ n ∧ n ≤ hi) := by simpa only [inB, decide_eq_false_iff_not] using h
  omega

theorem ret_bool {p q : Bool} (h : p = q) : Ending.returned (.bool p) = .returned (.bool q) := by rw [h]
theorem getD_of {ts : List Int} {k : Nat} {x : Int} (h : ts[k]? = some x) : ts.getD k 0 = x := by rw [List.getD_eq_getElem?_getD, h]; rfl
theorem ret_ib {p q : Int} {b : Bool} (h : p = q) : Ending.returned (.tuple #[.int .i64 p, .bool b]) = .returned (.tuple #[.int .i64 q, .bool b]) := by rw [h]
theorem ret_int {p q : Int} (h : p = q) : Ending.returned (.int .i64 p) = .returned (.int .i64 q) := by rw [h]

/-- All numbers are from lo to hi. -/
def allIn (xs : List Int) (lo hi : Int) : Bool := xs.all fun x => inB x lo hi
theorem allIn_of {xs : List Int} {lo hi : Int} (h : allIn xs lo hi = true) {i : Nat} {x : Int} (hx : xs[i]? = some x) : lo ≤ x ∧ x ≤ hi :=
  inB_true (List.all_eq_true.1 h x (List.mem_of_getElem? hx))
theorem all_upto {α : Type} {p : α → Bool} {xs : List α} (h : ∀ i x, i < xs.length → xs[i]? = some x → p x = true) : xs.all p = true :=
  List.all_eq_true.2 fun x hx => by
    obtain ⟨i, hi, rfl⟩ := List.mem_iff_getElem.1 hx
    exact h i _ hi (List.getElem?_eq_getElem hi)
theorem all_not {α : Type} {p : α → Bool} {xs : List α} {i : Nat} {x : α} (hx : xs[i]? = some x) (h : p x = false) : xs.all p = false := by
  cases ha : xs.all p
  · rfl
  · rw [List.all_eq_true.1 ha x (List.mem_of_getElem? hx)] at h; cases h





end Go.Proofs.YtjpmliigepegaaaDoor
