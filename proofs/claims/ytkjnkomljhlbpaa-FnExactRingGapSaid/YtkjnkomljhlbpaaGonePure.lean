/- Pure: the rules of a ring as they are gone. No condition. -/
import Derived.Test.YtkjnkomljhlbpaaRules
import Derived.Test.YtkjnkomljhlbpaaEvents
namespace Go.Proofs.Ytkjnkomljhlbpaa
open Go.RowKit Go.Lst

def goneD (x : RuleD) (b : Bool) : RuleD := if b then x else ⟨x.To, x.From, -x.Most, -x.Least⟩
abbrev ruleNo : RuleD := ⟨0, 0, 0, 0⟩
def ringAt (xs : List RuleD) (rs : List Int) (bs : List Bool) (i : Nat) : RuleD := goneD (xs.getD (rs.getD i 0).toNat ruleNo) (bs.getD i false)
def goneTo (xs : List RuleD) (rs : List Int) (bs : List Bool) (k : Nat) : List RuleD := (List.range k).map (ringAt xs rs bs)
theorem goneTo_length (xs : List RuleD) (rs : List Int) (bs : List Bool) (k : Nat) : (goneTo xs rs bs k).length = k := by simp [goneTo]
theorem goneTo_get {xs : List RuleD} {rs : List Int} {bs : List Bool} {k i : Nat} (h : i < k) : (goneTo xs rs bs k)[i]? = some (ringAt xs rs bs i) := by
  unfold goneTo; rw [List.getElem?_map, List.getElem?_range h]; rfl
/-- The place i of the ring names a rule, and one that was not named before. -/
def freshAt (m : Nat) (rs : List Int) (i : Nat) : Bool := inB (rs.getD i 0) 0 ((m : Int) - 1) && !((rs.take i).contains (rs.getD i 0))
def freshTo (m : Nat) (rs : List Int) (k : Nat) : Bool := (List.range k).all (freshAt m rs)
def joinAt (xs : List RuleD) (rs : List Int) (bs : List Bool) (i : Nat) : Bool := i == 0 || (ringAt xs rs bs i).From == (ringAt xs rs bs (i - 1)).To
def joinTo (xs : List RuleD) (rs : List Int) (bs : List Bool) (k : Nat) : Bool := (List.range k).all (joinAt xs rs bs)
theorem freshTo_succ (m : Nat) (rs : List Int) (k : Nat) : freshTo m rs (k + 1) = (freshTo m rs k && freshAt m rs k) := by
  unfold freshTo; rw [List.range_succ, List.all_append]; simp
theorem joinTo_succ (xs : List RuleD) (rs : List Int) (bs : List Bool) (k : Nat) : joinTo xs rs bs (k + 1) = (joinTo xs rs bs k && joinAt xs rs bs k) := by
  unfold joinTo; rw [List.range_succ, List.all_append]; simp
theorem freshTo_at {m : Nat} {rs : List Int} {k : Nat} (h : freshTo m rs k = true) {i : Nat} (hi : i < k) : freshAt m rs i = true := List.all_eq_true.1 h i (List.mem_range.2 hi)
theorem joinTo_at {xs : List RuleD} {rs : List Int} {bs : List Bool} {k : Nat} (h : joinTo xs rs bs k = true) {i : Nat} (hi : i < k) : joinAt xs rs bs i = true := List.all_eq_true.1 h i (List.mem_range.2 hi)
theorem freshTo_no {m : Nat} {rs : List Int} {i : Nat} (h : freshAt m rs i = false) {k : Nat} (hi : i < k) : freshTo m rs k = false := by
  cases hh : freshTo m rs k with
  | false => rfl
  | true => rw [freshTo_at hh hi] at h; cases h
theorem joinTo_no {xs : List RuleD} {rs : List Int} {bs : List Bool} {i : Nat} (h : joinAt xs rs bs i = false) {k : Nat} (hi : i < k) : joinTo xs rs bs k = false := by
  cases hh : joinTo xs rs bs k with
  | false => rfl
  | true => rw [joinTo_at hh hi] at h; cases h
/-- The ring ends where it begins. -/
def ringShut (xs : List RuleD) (rs : List Int) (bs : List Bool) : Bool := (ringAt xs rs bs 0).From == (ringAt xs rs bs (rs.length - 1)).To
def ringLen (rs : List Int) (bs : List Bool) : Bool := decide (1 ≤ rs.length) && decide (rs.length ≤ 32) && decide (bs.length = rs.length)
def ringOk (xs : List RuleD) (rs : List Int) (bs : List Bool) : Bool := ringLen rs bs && freshTo xs.length rs rs.length && joinTo xs rs bs rs.length && ringShut xs rs bs
def lowTo (xs : List RuleD) (rs : List Int) (bs : List Bool) : Nat → Int
  | 0 => 0
  | k + 1 => lowTo xs rs bs k + (ringAt xs rs bs k).Least
def highTo (xs : List RuleD) (rs : List Int) (bs : List Bool) : Nat → Int
  | 0 => 0
  | k + 1 => highTo xs rs bs k + (ringAt xs rs bs k).Most
theorem goneD_small {e p : Int} {x : RuleD} {b : Bool} (h : okRule e p x = true) (hp : 1 ≤ p ∧ p ≤ 60) : (-200 ≤ (goneD x b).Least ∧ (goneD x b).Least ≤ 200) ∧ (-200 ≤ (goneD x b).Most ∧ (goneD x b).Most ≤ 200) ∧ (0 ≤ (goneD x b).From ∧ (goneD x b).From ≤ e - 1) ∧ (0 ≤ (goneD x b).To ∧ (goneD x b).To ≤ e - 1) := by
  have hh := okRule_of h
  unfold goneD
  cases b <;> (refine ⟨?_, ?_, ?_, ?_⟩ <;> simp only [Bool.false_eq_true, if_false, if_true] <;> omega)
theorem ringAt_small {e p : Int} {xs : List RuleD} (rs : List Int) (bs : List Bool) (hok : ∀ (i : Nat) (x : RuleD), xs[i]? = some x → okRule e p x = true) (hp : 1 ≤ p ∧ p ≤ 60) {i : Nat} (hf : freshAt xs.length rs i = true) :
    ∃ (q : Nat) (x : RuleD), rs.getD i 0 = (q : Int) ∧ q < xs.length ∧ xs[q]? = some x ∧ okRule e p x = true ∧ ringAt xs rs bs i = goneD x (bs.getD i false) := by
  have h1 : inB (rs.getD i 0) 0 ((xs.length : Int) - 1) = true := by unfold freshAt at hf; rw [Bool.and_eq_true] at hf; exact hf.1
  simp only [inB, decide_eq_true_eq, Bool.and_eq_true] at h1
  have hq : (rs.getD i 0).toNat < xs.length := by omega
  refine ⟨(rs.getD i 0).toNat, xs[(rs.getD i 0).toNat], by omega, hq, List.getElem?_eq_getElem hq, hok _ _ (List.getElem?_eq_getElem hq), ?_⟩
  unfold ringAt
  rw [List.getD_eq_getElem?_getD, List.getElem?_eq_getElem hq]; rfl
theorem sums_small {e p : Int} {xs : List RuleD} (rs : List Int) (bs : List Bool) (hok : ∀ (i : Nat) (x : RuleD), xs[i]? = some x → okRule e p x = true) (hp : 1 ≤ p ∧ p ≤ 60) : ∀ {k : Nat}, freshTo xs.length rs k = true → (-200 * (k : Int) ≤ lowTo xs rs bs k ∧ lowTo xs rs bs k ≤ 200 * (k : Int)) ∧ (-200 * (k : Int) ≤ highTo xs rs bs k ∧ highTo xs rs bs k ≤ 200 * (k : Int))
  | 0, _ => by simp [lowTo, highTo]
  | k + 1, h => by
    have h2 := h
    rw [freshTo_succ, Bool.and_eq_true] at h2
    have ih := sums_small rs bs hok hp h2.1
    obtain ⟨q, x, _, _, _, ho, hr⟩ := ringAt_small rs bs hok hp h2.2
    have hs := goneD_small (b := bs.getD k false) ho hp
    rw [← hr] at hs
    simp only [lowTo, highTo]
    omega
/-- The least multiple that is at least low, and the greatest one that is at most high: the program's words. -/
def gapLow (low p : Int) : Int := low + remG (-low) p
def gapHigh (high p : Int) : Int := high - remG high p
theorem rem_neg {low p : Int} (hp : 1 ≤ p) : remG (-low) p = if low.tmod p < 0 then -low.tmod p else (p - low.tmod p) % p := by
  unfold remG
  have h := Int.mul_tdiv_add_tmod low p
  have hb := tmod_in (x := low) hp
  have e : -low = -low.tmod p + p * (-low.tdiv p) := by rw [Int.mul_neg]; omega
  have e2 : -low % p = -low.tmod p % p := by
    rw [e, Int.add_mul_emod_self_left]
  rw [e2]
  split
  · exact Int.emod_eq_of_lt (by omega) (by omega)
  · rw [show p - low.tmod p = -low.tmod p + p by omega, Int.add_emod_right]
theorem gapLow_neg {low p : Int} (hp : 1 ≤ p) (h : low.tmod p < 0) : low - low.tmod p = gapLow low p := by
  unfold gapLow; rw [rem_neg hp, if_pos h]; omega
theorem gapLow_pos {low p : Int} (hp : 1 ≤ p) (h : ¬ low.tmod p < 0) : low + (p - low.tmod p) % p = gapLow low p := by
  unfold gapLow; rw [rem_neg hp, if_neg h]
theorem gapLow_pos2 {low p : Int} (hp : 1 ≤ p) (h : ¬ low.tmod p < 0) : low + (p - low.tmod p).tmod p = gapLow low p := by
  have hb := tmod_in (x := low) hp
  rw [Int.tmod_eq_emod_of_nonneg (by omega)]; exact gapLow_pos hp h
theorem gapHigh_1 {high p : Int} (hp : 1 ≤ p) : high - (high.tmod p + p).tmod p = gapHigh high p := by unfold gapHigh; rw [tm_eq2 hp]
theorem gapHigh_2 {high p : Int} : high - (high.tmod p + p) % p = gapHigh high p := by unfold gapHigh; rw [tm_eq]
def ringRes (xs : List RuleD) (p : Int) (rs : List Int) (bs : List Bool) : Option (Int × Int) :=
  if areRules 12 p xs && ringOk xs rs bs && decide (gapLow (lowTo xs rs bs rs.length) p ≤ gapHigh (highTo xs rs bs rs.length) p) then some (gapLow (lowTo xs rs bs rs.length) p, gapHigh (highTo xs rs bs rs.length) p) else none
def GapPost (r : Option (Int × Int)) (w : World) (e : Ending) (w' : World) : Prop :=
  e = .returned (.tuple #[.int .i64 (r.getD (0, 0)).1, .int .i64 (r.getD (0, 0)).2, .bool r.isSome]) ∧ Below w.heap.size w w'
end Go.Proofs.Ytkjnkomljhlbpaa
