/- Contracts: times of lines; sums of lists; the least number of stations by sums. -/
import Derived.Test.YtpnndajfaghaaaaTimes
import Derived.IntWalk
namespace Go.Proofs.Ytpnndajfaghaaaa
open Go.RowKit Go.Lst

def okLine (ts : List Int) : Bool := okTimes ts && decide (ts.length ≤ 12)
theorem okLine_times {ts : List Int} (h : okLine ts = true) : okTimes ts = true := by
  simp only [okLine, Bool.and_eq_true] at h
  exact h.1
theorem okLine_of {ts : List Int} (h : okLine ts = true) : 1 ≤ ts.length ∧ ts.length ≤ 12 ∧ ∀ (i : Nat) (x : Int), ts[i]? = some x → 1 ≤ x ∧ x ≤ 10000 := by
  have h1 := okTimes_of (okLine_times h)
  simp only [okLine, Bool.and_eq_true, decide_eq_true_eq] at h
  exact ⟨h1.1, h.2, h1.2.2⟩
theorem sums_ok {ts : List Int} (h : okTimes ts = true) : ∀ k, k ≤ ts.length → 0 ≤ sumTo ts k ∧ sumTo ts k ≤ 1000000000000 := fun k hk => by
  have h1 := okTimes_of h
  have h2 := sumTo_bound (lo := 0) (hi := 10000) (fun i x hx => by have := h1.2.2 i x hx; omega) (by omega) k hk
  omega
theorem okLine_eq (ts : List Int) : okLine ts = (decide (1 ≤ ts.length) && decide (ts.length ≤ 12) && allIn ts 1 10000) := by
  unfold okLine okTimes
  by_cases h : ts.length ≤ 12
  · rw [decide_eq_true h, decide_eq_true (show ts.length ≤ 24 by omega)]; simp
  · rw [decide_eq_false h]; simp

set_option maxHeartbeats 1000000 in
theorem sumOf_any (B : Nat) (v : Value) (xs : List Int) (w : World) (h : LstI B w v xs) (hb : ∀ k, k ≤ xs.length → 0 ≤ sumTo xs k ∧ sumTo xs k ≤ 1000000000000) (hx : ∀ (i : Nat) (x : Int), xs[i]? = some x → 0 ≤ x ∧ x ≤ 1000000000000) :
    Calls Try.prog 108 #[v] w fun e w' => e = .returned (.int .i64 (sumTo xs xs.length)) ∧ w = w' := by
  obtain ⟨a, cap, rfl, hl, _, _, hc⟩ := h.at_
  have hC := Lib.hid hc
  have hS : Hid (∀ (k : Nat) (x : Int), xs[k]? = some x → sumTo xs (k + 1) = sumTo xs k + x) := Lib.hid fun k x hx => by show sumTo xs k + xs.getD k 0 = _; rw [getD_of hx]
  have hB := Lib.hid hb
  have hXb := Lib.hid hx
  clear hc h hb hx
  generalize xs.length = n at *
  unfold maxLen at hl
  go_enter Try.func108, Try.ntmps108
  go_wp2_with fail
  go_loopw [3, 8] (fun s i wr => ∃ (k : Nat) (z : Int), k ≤ n ∧ i = .int .i64 k ∧ s = .int .i64 z ∧ Hid (z = sumTo xs k) ∧ wr = w) (fun _ i _ => n - (intOf i).toNat)
  case atStart => exact ⟨0, 0, Nat.zero_le _, rfl, rfl, Lib.hid rfl, rfl⟩
  case round =>
    obtain ⟨k, z, hk, rfl, rfl, hZ, rfl⟩ := hrel
    by_cases hlt : k < n
    · obtain ⟨b, o, x, rfl, _, hx, hcell⟩ := hC.out k hlt
      have h1 := hB.out k hk
      have h2 := hXb.out k x hx
      rw [← hZ.out] at h1
      have hZ2 := Lib.hid (show z + x = sumTo xs (k + 1) by rw [hS.out k x hx, hZ.out])
      clear hx
      obtain ⟨h3, h4⟩ := h1
      obtain ⟨h5, h6⟩ := h2
      go_wp2_with fail
      go_roundw
      case rel => exact ⟨k + 1, _, by omega, by go_num, rfl, hZ2, by trivial⟩
      case measure => simp [intOf]; omega
    · have hZ2 := Lib.hid (show z = sumTo xs n by rw [hZ.out, show k = n by omega])
      go_wp2
      go_ret
      exact ⟨ret_int (by first | exact hZ2.out | (rw [← hZ2.out]; rfl)), rfl⟩


/-- The binary digit of the task k, and the greatest set of tasks before it. -/
def p2 (k : Nat) : Int := IntKind.i64.wrap (1 * 2 ^ k)
def setsAt (k : Nat) : Int := IntKind.i64.wrap (p2 k - 1)
def okSets (bs : List Int) : Nat → Bool
  | 0 => true
  | k + 1 => okSets bs k && inB (bs.getD k 0) 0 (setsAt k)
def isLine (ts bs : List Int) : Bool := okLine ts && decide (bs.length = ts.length) && okSets bs bs.length
theorem okSets_false {bs : List Int} {k : Nat} (h : okSets bs k = false) : ∀ m, k ≤ m → okSets bs m = false
  | 0, hm => by have : k = 0 := by omega
                subst this; exact h
  | m + 1, hm => by
    by_cases e : k = m + 1
    · subst e; exact h
    · unfold okSets
      rw [okSets_false h m (by omega), Bool.false_and]
theorem okSets_step {bs : List Int} {k : Nat} {x : Int} (hx : bs[k]? = some x) : okSets bs (k + 1) = (okSets bs k && inB x 0 (setsAt k)) := by
  show (okSets bs k && inB (bs.getD k 0) 0 (setsAt k)) = _
  rw [getD_of hx]
theorem okSets_no {bs : List Int} {k m : Nat} {x : Int} (hx : bs[k]? = some x) (hq : inB x 0 (setsAt k) = false) (hm : k < m) : okSets bs m = false :=
  okSets_false (k := k + 1) (by rw [okSets_step hx, hq, Bool.and_false]) m hm
end Go.Proofs.Ytpnndajfaghaaaa
