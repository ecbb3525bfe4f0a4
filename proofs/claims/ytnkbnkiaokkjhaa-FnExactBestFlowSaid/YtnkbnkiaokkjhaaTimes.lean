/- Contracts: times of jobs on alike machines; sums and greatest ones of lists; a bound of the last end. -/
import Derived.Test.YtnkbnkiaokkjhaaAreJobs
import Derived.IntWalk
namespace Go.Proofs.Ytnkbnkiaokkjhaa
open Go.RowKit Go.Lst

def sumTo (ts : List Int) : Nat → Int
  | 0 => 0
  | k + 1 => sumTo ts k + ts.getD k 0
def maxTo (ts : List Int) : Nat → Int
  | 0 => ts.getD 0 0
  | k + 1 => max (maxTo ts k) (ts.getD (k + 1) 0)
theorem sumTo_bound {ts : List Int} {lo hi : Int} (h : ∀ (i : Nat) (x : Int), ts[i]? = some x → lo ≤ x ∧ x ≤ hi) (h0 : 0 ≤ lo) : ∀ k, k ≤ ts.length → 0 ≤ sumTo ts k ∧ sumTo ts k ≤ hi * k
  | 0, _ => by simp [sumTo]
  | k + 1, hk => by
    have ih := sumTo_bound h h0 k (by omega)
    have e : ts[k]? = some ts[k] := List.getElem?_eq_getElem _
    have hx := h k _ e
    unfold sumTo
    rw [getD_of e]
    have e1 : hi * ((k + 1 : Nat) : Int) = hi * (k : Int) + hi := by rw [Int.natCast_add]; exact Int.mul_add _ _ _ |>.trans (by simp)
    rw [e1]
    omega
theorem maxTo_bound {ts : List Int} {lo hi : Int} (h : ∀ (i : Nat) (x : Int), ts[i]? = some x → lo ≤ x ∧ x ≤ hi) : ∀ k, k < ts.length → lo ≤ maxTo ts k ∧ maxTo ts k ≤ hi
  | 0, hk => by
    have e : ts[0]? = some ts[0] := List.getElem?_eq_getElem _
    unfold maxTo
    rw [getD_of e]
    exact h 0 _ e
  | k + 1, hk => by
    have ih := maxTo_bound h k (by omega)
    have e : ts[k + 1]? = some ts[k + 1] := List.getElem?_eq_getElem _
    have hx := h _ _ e
    unfold maxTo
    rw [getD_of e]
    omega
theorem mx_eq (a b : Int) : (if a < b then b else a) = max a b := by split <;> omega

set_option maxHeartbeats 400000 in
theorem l00Max_any (a b : Int) (w : World) : Calls Try.prog 52 #[.int .i64 a, .int .i64 b] w fun e w' => e = .returned (.int .i64 (max a b)) ∧ w = w' := by
  by_cases h : b < a
  · have hv : max a b = a := by omega
    rw [hv]
    clear hv
    go_enter Try.func52, Try.ntmps52
    go_wp2
    go_ret
    exact ⟨rfl, rfl⟩
  · have hv : max a b = b := by omega
    have hd : decide (b < a) = false := by simpa using h
    rw [hv]
    clear hv
    go_enter Try.func52, Try.ntmps52
    go_wp2
    go_ret
    exact ⟨rfl, rfl⟩


def Small (fs : List Int) (hi : Int) : Prop := ∀ i, 0 ≤ fs.getD i 0 ∧ fs.getD i 0 ≤ hi
theorem Small.set {fs : List Int} {hi hi' x : Int} {i : Nat} (h : Small fs hi) (hx : 0 ≤ x ∧ x ≤ hi') (hle : hi ≤ hi') : Small (fs.set i x) hi' := fun k => by
  have := h k
  rw [List.getD_eq_getElem?_getD] at this ⊢
  by_cases e : i = k
  · subst e
    by_cases hl : i < fs.length
    · rw [List.getElem?_set_self hl]; exact hx
    · rw [List.getElem?_eq_none (by rw [List.length_set]; omega)]; exact ⟨by simp, by simp; omega⟩
  · rw [List.getElem?_set_ne e]
    omega
/-- Times of jobs, and so many machines. -/
def okTimes (ts : List Int) : Bool := decide (1 ≤ ts.length) && decide (ts.length ≤ 24) && allIn ts 1 10000
def areTimes (ts : List Int) (m : Int) : Bool := okTimes ts && inB m 1 8
theorem okTimes_of {ts : List Int} (h : okTimes ts = true) : 1 ≤ ts.length ∧ ts.length ≤ 24 ∧ ∀ (i : Nat) (x : Int), ts[i]? = some x → 1 ≤ x ∧ x ≤ 10000 := by
  simp only [okTimes, Bool.and_eq_true, decide_eq_true_eq] at h
  exact ⟨h.1.1, h.1.2, fun i x hx => allIn_of h.2 hx⟩

set_option maxHeartbeats 400000 in
theorem l02Machines_any (m : Int) (w : World) : Calls Try.prog 59 #[.int .i64 m] w fun e w' => e = .returned (.bool (inB m 1 8)) ∧ w = w' := by
  go_enter Try.func59, Try.ntmps59
  go_wp2_with (go_at_call 18; refine (l00In_any _ _ _ _).mono ?_; rintro e w' ⟨rfl, rfl⟩)
  go_ret
  exact ⟨rfl, rfl⟩
set_option maxHeartbeats 1000000 in
theorem slicesMax_any (B : Nat) (v : Value) (xs : List Int) (w : World) (h : LstI B w v xs) (hp : 1 ≤ xs.length) :
    Calls Try.prog 55 #[v] w fun e w' => e = .returned (.int .i64 (maxTo xs (xs.length - 1))) ∧ w = w' := by
  obtain ⟨a, cap, rfl, hl, _, _, hc⟩ := h.at_
  have hC := Lib.hid hc
  have hS : Hid (∀ (k : Nat) (x : Int), xs[k + 1]? = some x → maxTo xs (k + 1) = max (maxTo xs k) x) := Lib.hid fun k x hx => by show max (maxTo xs k) (xs.getD (k + 1) 0) = _; rw [getD_of hx]
  have hZ : Hid (∀ x : Int, xs[0]? = some x → maxTo xs 0 = x) := Lib.hid fun x hx => getD_of hx
  clear hc h
  generalize xs.length = n at *
  unfold maxLen at hl
  obtain ⟨b, o, x0, rfl, hb0, hx0, hcell0⟩ := hC.out 0 (by omega)
  have hX0 := Lib.hid (hZ.out x0 hx0)
  have hn0 : (0 : Int) < (n : Int) := by omega
  rw [Nat.add_zero] at hcell0
  clear hx0 hb0
  go_enter Try.func55, Try.ntmps55
  go_wp2_with fail
  go_loopw [3, 4] (fun s i wr => ∃ (k : Nat) (z : Int), k + 1 ≤ n ∧ i = .int .i64 ((k + 1 : Nat) : Int) ∧ s = .int .i64 z ∧ Hid (z = maxTo xs k) ∧ wr = w) (fun _ i _ => n - (intOf i).toNat)
  case atStart => exact ⟨0, x0, by omega, rfl, rfl, Lib.hid hX0.out.symm, rfl⟩
  case round =>
    obtain ⟨k, z, hk, rfl, rfl, hZ1, rfl⟩ := hrel
    rw [show ((k + 1 : Nat) : Int) = (k : Int) + 1 by omega] at *
    by_cases hlt : k + 1 < n
    · obtain ⟨b', o', x, hab, _, hx, hcell⟩ := hC.out (k + 1) hlt
      injection hab with hab
      injection hab with e1 e2 _
      subst e1 e2
      have hZ2 := Lib.hid (show max z x = maxTo xs (k + 1) by rw [hS.out k x hx, hZ1.out])
      clear hx
      go_wp2_with fail
      simp only [mx_eq]
      go_roundw
      case rel => exact ⟨k + 1, _, by omega, by go_num, rfl, hZ2, by trivial⟩
      case measure => simp [intOf]; omega
    · have hZ2 := Lib.hid (show z = maxTo xs (n - 1) by rw [hZ1.out, show n - 1 = k by omega])
      go_wp2
      go_ret
      exact ⟨ret_int (by first | exact hZ2.out | (rw [← hZ2.out]; rfl)), rfl⟩

end Go.Proofs.Ytnkbnkiaokkjhaa
