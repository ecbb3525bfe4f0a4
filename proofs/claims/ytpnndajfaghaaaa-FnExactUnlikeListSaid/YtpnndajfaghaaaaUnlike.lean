/- Jobs on unlike machines, in their order, each at the machine where it ends first. The model's side. No condition. -/
import Derived.Test.YtpnndajfaghaaaaPlan
namespace Go.Proofs.Ytpnndajfaghaaaa
open Go.RowKit Go.Lst Go.Plan

def unLen (n : Nat) (m : Int) : Bool := inB m 1 8 && (decide (1 ≤ n) && (decide (n % m.toNat = 0) && decide (n / m.toNat ≤ 24)))
def unOk (xs : List Int) (m : Int) : Bool := unLen xs.length m && allIn xs 1 10000
/-- When the job that begins at b would end at each machine. -/
def endsAt (ts fs : List Int) (m b : Nat) : List Int := (List.range m).map fun k => fs.getD k 0 + ts.getD (b + k) 0
def unTo (ts : List Int) (m : Nat) : Nat → List Int × List Int
  | 0 => ([], List.replicate m 0)
  | i + 1 => ((unTo ts m i).1 ++ [((leastAt (endsAt ts (unTo ts m i).2 m (i * m)) (m - 1) : Nat) : Int)], (unTo ts m i).2.set (leastAt (endsAt ts (unTo ts m i).2 m (i * m)) (m - 1)) ((endsAt ts (unTo ts m i).2 m (i * m)).getD (leastAt (endsAt ts (unTo ts m i).2 m (i * m)) (m - 1)) 0))
theorem unTo_length (ts : List Int) (m : Nat) : ∀ i, (unTo ts m i).1.length = i ∧ (unTo ts m i).2.length = m
  | 0 => ⟨rfl, by simp [unTo]⟩
  | i + 1 => by
    have ih := unTo_length ts m i
    unfold unTo
    simp [ih.1, ih.2]
theorem endsAt_get (ts fs : List Int) {m b k : Nat} (hk : k < m) : (endsAt ts fs m b)[k]? = some (fs.getD k 0 + ts.getD (b + k) 0) := by
  unfold endsAt
  rw [List.getElem?_map, List.getElem?_range hk]; rfl
theorem endsAt_length (ts fs : List Int) (m b : Nat) : (endsAt ts fs m b).length = m := by unfold endsAt; simp
/-- What is known of the round i. -/
theorem un_round {ts : List Int} {m : Nat} (ht : allIn ts 1 10000 = true) (hm : 1 ≤ m) {i : Nat} {pl fs : List Int} (hi : i * m + m ≤ ts.length) (hS : unTo ts m i = (pl, fs)) (hf : Small fs (10000 * i)) :
    ∃ a : Nat, a = leastAt (endsAt ts fs m (i * m)) (m - 1) ∧ a < m ∧ unTo ts m (i + 1) = (pl ++ [(a : Int)], fs.set a (fs.getD a 0 + ts.getD (i * m + a) 0)) ∧ Small (fs.set a (fs.getD a 0 + ts.getD (i * m + a) 0)) (10000 * ((i + 1 : Nat) : Int)) := by
  have ha := leastAt_le (endsAt ts fs m (i * m)) (m - 1)
  have e : (endsAt ts fs m (i * m)).getD (leastAt (endsAt ts fs m (i * m)) (m - 1)) 0 = fs.getD (leastAt (endsAt ts fs m (i * m)) (m - 1)) 0 + ts.getD (i * m + leastAt (endsAt ts fs m (i * m)) (m - 1)) 0 := getD_of (endsAt_get ts fs (by omega))
  have hx : 1 ≤ ts.getD (i * m + leastAt (endsAt ts fs m (i * m)) (m - 1)) 0 ∧ ts.getD (i * m + leastAt (endsAt ts fs m (i * m)) (m - 1)) 0 ≤ 10000 := by
    have e1 : ts[i * m + leastAt (endsAt ts fs m (i * m)) (m - 1)]? = some (ts[i * m + leastAt (endsAt ts fs m (i * m)) (m - 1)]'(by omega)) := List.getElem?_eq_getElem _
    rw [getD_of e1]
    exact allIn_of ht e1
  have hfa := hf (leastAt (endsAt ts fs m (i * m)) (m - 1))
  refine ⟨_, rfl, by omega, ?_, hf.set ⟨by omega, by omega⟩ (by omega)⟩
  unfold unTo
  rw [hS]
  simp only
  rw [e]
def unRes (ts : List Int) (m : Int) : List Int := if unOk ts m then (unTo ts m.toNat (ts.length / m.toNat)).1 else []
def unLast (ts : List Int) (m : Int) : Int := if unOk ts m then maxTo (unTo ts m.toNat (ts.length / m.toNat)).2 (m.toNat - 1) else 0
def UnPost (ts : List Int) (m : Int) (w : World) (e : Ending) (w' : World) : Prop :=
  ∃ v', e = .returned (.tuple #[v', .int .i64 (unLast ts m), .bool (unOk ts m)]) ∧ Own w.heap.size w'.heap.size w' v' 2 1 (unRes ts m).length ((unRes ts m).map (Value.int .i64)) ∧ Below w.heap.size w w'
set_option maxHeartbeats 4000000 in
theorem l02Unlike_un (B : Nat) (v : Value) (xs : List Int) (m : Int) (w : World) (h : LstI B w v xs) :
    Calls Try.prog 57 #[v, .int .i64 m] w fun e w' => e = .returned (.bool (unOk xs m)) ∧ w = w' := by
  obtain ⟨a, cap, rfl, hl, _, _, hc⟩ := h.at_
  have hMa := Lib.hid (fun w => l02Machines_any m w)
  have hQ0 : Hid (unLen xs.length m = false → unOk xs m = false) := Lib.hid fun h => by unfold unOk; rw [h]; rfl
  have hN : Hid (∀ k, k = xs.length → (∀ i x, i < k → xs[i]? = some x → inB x 1 10000 = true) → unOk xs m = unLen xs.length m) := Lib.hid fun k hk hp => by
    unfold unOk allIn
    rw [all_upto fun i x hi hx => hp i x (by omega) hx, Bool.and_true]
  have hM : Hid (∀ (i : Nat) (x : Int), xs[i]? = some x → inB x 1 10000 = false → unOk xs m = false) := Lib.hid fun i x hx hq => by
    unfold unOk allIn
    rw [all_not hx hq, Bool.and_false]
  have hC := Lib.hid hc
  clear hc h
  generalize unOk xs m = res at *
  generalize xs.length = n at *
  unfold maxLen at hl
  cases hm : inB m 1 8
  · obtain rfl := hQ0.out (by unfold unLen; rw [hm]; rfl)
    rw [hm] at hMa
    clear hm
    go_enter Try.func57, Try.ntmps57
    go_wp2_with (go_at_call 141; (with_reducible refine (hMa.out _).mono ?_); rintro e w' ⟨rfl, rfl⟩)
    go_ret
    exact ⟨rfl, rfl⟩
  · obtain ⟨m1, m2⟩ := inB_true hm
    obtain ⟨M, rfl⟩ : ∃ M : Nat, m = M := ⟨m.toNat, by omega⟩
    rw [hm] at hMa
    have hLn : unLen n (M : Int) = (decide (1 ≤ n) && (decide (n % M = 0) && decide (n / M ≤ 24))) := by unfold unLen; rw [hm, Bool.true_and, Int.toNat_natCast]
    have hz : ((M : Int) == 0) = false := by rw [beq_eq_false_iff_ne]; omega
    have hz2 : ¬ (M : Int) = 0 := by omega
    have hr : (n : Int).tmod (M : Int) = ((n % M : Nat) : Int) := by rw [Int.tmod_eq_emod_of_nonneg (by omega)]; rfl
    have hd : (n : Int).tdiv (M : Int) = ((n / M : Nat) : Int) := by rw [Int.tdiv_eq_ediv_of_nonneg (by omega)]; rfl
    have b1 : n % M < M := Nat.mod_lt _ (by omega)
    have b2 : n / M ≤ n := Nat.div_le_self _ _
    clear hm
    rw [hLn] at hN hQ0
    clear hLn
    generalize n % M = R at *
    generalize n / M = J at *
    by_cases c1 : 1 ≤ n
    rotate_left
    · obtain rfl := hQ0.out (by rw [decide_eq_false c1]; rfl)
      have d1 : decide ((n : Int) < 1) = true := decide_eq_true (by omega)
      clear hN hM hQ0
      go_enter Try.func57, Try.ntmps57
      go_wp2_with (go_at_call 141; (with_reducible refine (hMa.out _).mono ?_); rintro e w' ⟨rfl, rfl⟩)
      go_ret
      exact ⟨rfl, rfl⟩
    have d1 : decide ((n : Int) < 1) = false := decide_eq_false (by omega)
    by_cases c2 : R = 0
    rotate_left
    · obtain rfl := hQ0.out (by rw [decide_eq_false c2, Bool.false_and, Bool.and_false])
      have d2 : ((R : Int) != 0) = true := by rw [bne_iff_ne]; omega
      have d3 : ¬ (R : Int) = 0 := by omega
      have d4 : ((R : Int) == 0) = false := by rw [beq_eq_false_iff_ne]; omega
      clear hN hM hQ0
      go_enter Try.func57, Try.ntmps57
      go_wp2_with (go_at_call 141; (with_reducible refine (hMa.out _).mono ?_); rintro e w' ⟨rfl, rfl⟩)
      go_ret
      exact ⟨rfl, rfl⟩
    subst c2
    by_cases c3 : J ≤ 24
    rotate_left
    · obtain rfl := hQ0.out (by rw [decide_eq_false c3, Bool.and_false, Bool.and_false])
      have d2 : decide ((24 : Int) < (J : Int)) = true := decide_eq_true (by omega)
      clear hN hM hQ0
      go_enter Try.func57, Try.ntmps57
      go_wp2_with (go_at_call 141; (with_reducible refine (hMa.out _).mono ?_); rintro e w' ⟨rfl, rfl⟩)
      go_ret
      exact ⟨rfl, rfl⟩
    have d2 : decide ((24 : Int) < (J : Int)) = false := decide_eq_false (by omega)
    have hN2 := Lib.hid (fun k hk hp => (hN.out k hk hp).trans (by rw [decide_eq_true c1, decide_eq_true c3]; rfl : _ = true))
    clear hN hQ0
    go_enter Try.func57, Try.ntmps57
    go_wp2_with (go_at_call 141; (with_reducible refine (hMa.out _).mono ?_); rintro e w' ⟨rfl, rfl⟩)
    go_loopw [6] (fun i wr => ∃ k : Nat, k ≤ n ∧ i = .int .i64 k ∧ Hid (∀ i x, i < k → xs[i]? = some x → inB x 1 10000 = true) ∧ wr = w) (fun i _ => n - (intOf i).toNat)
    case atStart => exact ⟨0, Nat.zero_le _, rfl, Lib.hid (fun i x hi _ => by omega), rfl⟩
    case round =>
      obtain ⟨k, hk, rfl, hP, rfl⟩ := hrel
      by_cases hlt : k < n
      · obtain ⟨b, o, x, rfl, _, hx, hcell⟩ := hC.out k hlt
        have hXx := Lib.hid hx
        clear hx
        cases hq : inB x 1 10000
        · obtain rfl := hM.out k x hXx.out hq
          go_wp2_with (go_at_call 90; refine (l00In_any _ _ _ _).mono ?_; rintro e w' ⟨rfl, rfl⟩)
          go_ret
          exact ⟨rfl, rfl⟩
        · have hP2 : Hid (∀ i y, i < k + 1 → xs[i]? = some y → inB y 1 10000 = true) := Lib.hid fun i y hi hy => by
            by_cases h1 : i < k
            · exact hP.out i y h1 hy
            · have : i = k := by omega
              subst this
              rw [hXx.out] at hy
              cases hy
              exact hq
          go_wp2_with (go_at_call 90; refine (l00In_any _ _ _ _).mono ?_; rintro e w' ⟨rfl, rfl⟩)
          go_roundw
          case rel => exact ⟨k + 1, by omega, by go_num, hP2, by trivial⟩
          case measure => simp [intOf]; omega
      · obtain rfl := hN2.out k (by omega) hP.out
        go_wp2_with fail
        go_ret
        exact ⟨rfl, rfl⟩
end Go.Proofs.Ytpnndajfaghaaaa
