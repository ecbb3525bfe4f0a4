/- Contracts: times of events. -/
import Derived.Test.YtkjnkomljhlbpaaAreJobs
import Derived.Test.YtkjnkomljhlbpaaPost
import Derived.Test.YtkjnkomljhlbpaaFillI
namespace Go.Proofs.Ytkjnkomljhlbpaa
open Go.RowKit Go.Lst

theorem tmod_in {x p : Int} (h : 1 ≤ p) : -p < x.tmod p ∧ x.tmod p < p := by
  by_cases hx : 0 ≤ x
  · rw [Int.tmod_eq_emod_of_nonneg hx]
    have := Int.emod_nonneg x (show p ≠ 0 by omega)
    have := Int.emod_lt_of_pos x (show 0 < p by omega)
    omega
  · have e : x.tmod p = -((-x).tmod p) := by rw [Int.neg_tmod, Int.neg_neg]
    rw [e, Int.tmod_eq_emod_of_nonneg (by omega)]
    have := Int.emod_nonneg (-x) (show p ≠ 0 by omega)
    have := Int.emod_lt_of_pos (-x) (show 0 < p by omega)
    omega
/-- The remainder that is never less than 0. -/
def remG (x p : Int) : Int := x % p
theorem tm_eq {x p : Int} : (x.tmod p + p) % p = remG x p := by
  unfold remG
  have h := Int.mul_tdiv_add_tmod x p
  have e : x.tmod p + p = x + p * (1 - x.tdiv p) := by rw [Int.mul_sub, Int.mul_one]; omega
  rw [e, Int.add_mul_emod_self_left]
theorem tm_eq2 {x p : Int} (h : 1 ≤ p) : (x.tmod p + p).tmod p = remG x p := by
  have := tmod_in (x := x) h
  rw [Int.tmod_eq_emod_of_nonneg (by omega), tm_eq]
theorem remG_in {x p : Int} (h : 1 ≤ p) : 0 ≤ remG x p ∧ remG x p < p := ⟨Int.emod_nonneg _ (by omega), Int.emod_lt_of_pos _ (by omega)⟩
def okEvents (ts : List Int) (p : Int) : Bool := decide (1 ≤ ts.length) && decide (ts.length ≤ 12) && inB p 1 60 && allIn ts 0 (p - 1)
theorem okEvents_of {ts : List Int} {p : Int} (h : okEvents ts p = true) : 1 ≤ ts.length ∧ ts.length ≤ 12 ∧ 1 ≤ p ∧ p ≤ 60 ∧ ∀ (i : Nat) (x : Int), ts[i]? = some x → 0 ≤ x ∧ x ≤ p - 1 := by
  simp only [okEvents, Bool.and_eq_true, decide_eq_true_eq] at h
  exact ⟨h.1.1.1, h.1.1.2, (inB_true h.1.2).1, (inB_true h.1.2).2, fun i x hx => allIn_of h.2 hx⟩

set_option maxHeartbeats 1000000 in
theorem remainderOf_any (x p : Int) (w : World) (h1 : 1 ≤ p) (h2 : p ≤ 60) : Calls Try.prog 19 #[.int .i64 x, .int .i64 p] w fun e w' => e = .returned (.int .i64 (remG x p)) ∧ w = w' := by
  have a1 := tmod_in (x := x) h1
  have a2 := tmod_in (x := x.tmod p + p) h1
  have hp0 : ¬ p = 0 := by omega
  have hpb : (p == 0) = false := by simpa using hp0
  have hw1 : IntKind.i64.wrap (x.tmod p) = x.tmod p := IntWalk.i64_in _ (by omega)
  have hw2 : IntKind.i64.wrap (x.tmod p + p) = x.tmod p + p := IntWalk.i64_in _ (by omega)
  have hw3 : IntKind.i64.wrap ((x.tmod p + p).tmod p) = (x.tmod p + p).tmod p := IntWalk.i64_in _ (by omega)
  go_enter Try.func19, Try.ntmps19
  go_wp2_with fail
  go_ret
  exact ⟨ret_int (by first | exact tm_eq | exact tm_eq2 h1), rfl⟩
end Go.Proofs.Ytkjnkomljhlbpaa
