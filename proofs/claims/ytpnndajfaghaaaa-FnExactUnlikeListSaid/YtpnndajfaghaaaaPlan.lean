/- Contracts: jobs given to machines in an order, each to the machine that is free first. -/
import Derived.Test.YtpnndajfaghaaaaOrder
import Derived.Test.YtpnndajfaghaaaaTimes
import Derived.StillTailTactics
namespace Go.Proofs.Ytpnndajfaghaaaa
open Go.RowKit Go.Lst Go.Plan

/-- The first place of the least one of the first k + 1 numbers. -/
def leastAt (fs : List Int) : Nat → Nat
  | 0 => 0
  | k + 1 => if fs.getD (k + 1) 0 < fs.getD (leastAt fs k) 0 then k + 1 else leastAt fs k
def minTo (fs : List Int) : Nat → Int
  | 0 => fs.getD 0 0
  | k + 1 => min (minTo fs k) (fs.getD (k + 1) 0)
theorem leastAt_le (fs : List Int) : ∀ k, leastAt fs k ≤ k
  | 0 => Nat.le_refl _
  | k + 1 => by
    have := leastAt_le fs k
    unfold leastAt
    split <;> omega
theorem minTo_least (fs : List Int) : ∀ k, minTo fs k = fs.getD (leastAt fs k) 0
  | 0 => rfl
  | k + 1 => by
    have ih := minTo_least fs k
    unfold minTo leastAt
    rw [ih]
    split <;> omega
theorem least_lt (fs : List Int) : ∀ k i, i < leastAt fs k → fs.getD (leastAt fs k) 0 < fs.getD i 0
  | 0, i, h => by simp [leastAt] at h
  | k + 1, i, h => by
    have ih := least_lt fs k
    have hm : ∀ j, j ≤ k → fs.getD (leastAt fs k) 0 ≤ fs.getD j 0 := by
      intro j hj
      have hq : ∀ m j, j ≤ m → fs.getD (leastAt fs m) 0 ≤ fs.getD j 0 := by
        intro m
        induction m with
        | zero => intro j hj; have : j = 0 := by omega
                  subst this; exact Int.le_refl _
        | succ m ihm =>
          intro j hj
          unfold leastAt
          by_cases hjm : j = m + 1
          · subst hjm; split <;> omega
          · have := ihm j (by omega)
            split <;> omega
      exact hq k j hj
    unfold leastAt at h ⊢
    split at h
    · rename_i hc
      rw [if_pos hc]
      have := hm i (by omega)
      omega
    · rename_i hc
      rw [if_neg hc]
      exact ih i h

/-- One job more is given to the machine that is free first. -/
def planStep (ts : List Int) (m : Nat) (s : List Int × List Int) (j : Int) : List Int × List Int :=
  (s.1.set j.toNat ((leastAt s.2 (m - 1) : Nat) : Int), s.2.set (leastAt s.2 (m - 1)) (s.2.getD (leastAt s.2 (m - 1)) 0 + ts.getD j.toNat 0))
def planTo (ts o : List Int) (m : Nat) (k : Nat) : List Int × List Int := (o.take k).foldl (planStep ts m) (List.replicate ts.length 0, List.replicate m 0)
theorem planTo_step {ts o : List Int} {m k : Nat} {j : Int} (h : o[k]? = some j) : planTo ts o m (k + 1) = planStep ts m (planTo ts o m k) j := by
  unfold planTo
  rw [List.take_add_one, h]
  simp
theorem planTo_length (ts o : List Int) (m k : Nat) : (planTo ts o m k).1.length = ts.length ∧ (planTo ts o m k).2.length = m := by
  unfold planTo
  generalize o.take k = l
  have : ∀ (l : List Int) (s : List Int × List Int), s.1.length = ts.length ∧ s.2.length = m → (l.foldl (planStep ts m) s).1.length = ts.length ∧ (l.foldl (planStep ts m) s).2.length = m := by
    intro l
    induction l with
    | nil => intro s h; exact h
    | cons a l ih => intro s h; exact ih _ (by simp [planStep, h.1, h.2])
  exact this l _ (by simp)
/-- What is known of the round k. -/
theorem plan_round {ts o : List Int} {m : Nat} (ht : okTimes ts = true) (hm : 1 ≤ m) (ho : isOrd o ts.length = true) {k : Nat} {pl fs : List Int} (hk : k < ts.length) (hS : planTo ts o m k = (pl, fs)) (hf : Small fs (10000 * k)) :
    ∃ (j a : Nat) (x f : Int), o[k]? = some (j : Int) ∧ j < ts.length ∧ ts[j]? = some x ∧ a = leastAt fs (m - 1) ∧ a < m ∧ fs[a]? = some f ∧ 0 ≤ f ∧ f ≤ 10000 * k ∧ 1 ≤ x ∧ x ≤ 10000 ∧
      planTo ts o m (k + 1) = (pl.set j (a : Int), fs.set a (f + x)) ∧ Small (fs.set a (f + x)) (10000 * ((k + 1 : Nat) : Int)) := by
  have hl := isOrd_len ho
  have e1 : o[k]? = some (o[k]'(by omega)) := List.getElem?_eq_getElem _
  obtain ⟨h2, h3⟩ := isOrd_get ho e1
  obtain ⟨j, hj2⟩ := Int.eq_ofNat_of_zero_le h2
  rw [hj2] at e1 h3
  have e2 : ts[j]? = some (ts[j]'(by omega)) := List.getElem?_eq_getElem _
  have hx := (okTimes_of ht).2.2 j _ e2
  have hlen := (planTo_length ts o m k).2
  rw [hS] at hlen
  have ha := leastAt_le fs (m - 1)
  have e3 : fs[leastAt fs (m - 1)]? = some (fs[leastAt fs (m - 1)]'(by simp only at hlen; omega)) := List.getElem?_eq_getElem _
  have hfa := hf (leastAt fs (m - 1))
  rw [getD_of e3] at hfa
  refine ⟨j, _, _, _, e1, by omega, e2, rfl, by omega, e3, hfa.1, hfa.2, hx.1, hx.2, ?_, hf.set ⟨by omega, by omega⟩ (by omega)⟩
  rw [planTo_step e1, hS]
  unfold planStep
  rw [Int.toNat_natCast, getD_of e2, getD_of e3]

theorem mn_eq (a b : Int) : (if b < a then b else a) = min a b := by split <;> omega
set_option maxHeartbeats 1000000 in
theorem slicesMin_any (B : Nat) (v : Value) (xs : List Int) (w : World) (h : LstI B w v xs) (hp : 1 ≤ xs.length) :
    Calls Try.prog 145 #[v] w fun e w' => e = .returned (.int .i64 (minTo xs (xs.length - 1))) ∧ w = w' := by
  obtain ⟨a, cap, rfl, hl, _, _, hc⟩ := h.at_
  have hC := Lib.hid hc
  have hS : Hid (∀ (k : Nat) (x : Int), xs[k + 1]? = some x → minTo xs (k + 1) = min (minTo xs k) x) := Lib.hid fun k x hx => by show min (minTo xs k) (xs.getD (k + 1) 0) = _; rw [getD_of hx]
  have hZ : Hid (∀ x : Int, xs[0]? = some x → minTo xs 0 = x) := Lib.hid fun x hx => getD_of hx
  clear hc h
  generalize xs.length = n at *
  unfold maxLen at hl
  obtain ⟨b, o, x0, rfl, hb0, hx0, hcell0⟩ := hC.out 0 (by omega)
  have hX0 := Lib.hid (hZ.out x0 hx0)
  have hn0 : (0 : Int) < (n : Int) := by omega
  rw [Nat.add_zero] at hcell0
  clear hx0 hb0
  go_enter Try.func145, Try.ntmps145
  go_wp2_with fail
  go_loopw [3, 4] (fun s i wr => ∃ (k : Nat) (z : Int), k + 1 ≤ n ∧ i = .int .i64 ((k + 1 : Nat) : Int) ∧ s = .int .i64 z ∧ Hid (z = minTo xs k) ∧ wr = w) (fun _ i _ => n - (intOf i).toNat)
  case atStart => exact ⟨0, x0, by omega, rfl, rfl, Lib.hid hX0.out.symm, rfl⟩
  case round =>
    obtain ⟨k, z, hk, rfl, rfl, hZ1, rfl⟩ := hrel
    rw [show ((k + 1 : Nat) : Int) = (k : Int) + 1 by omega] at *
    by_cases hlt : k + 1 < n
    · obtain ⟨b', o', x, hab, _, hx, hcell⟩ := hC.out (k + 1) hlt
      injection hab with hab
      injection hab with e1 e2 _
      subst e1 e2
      have hZ2 := Lib.hid (show min z x = minTo xs (k + 1) by rw [hS.out k x hx, hZ1.out])
      clear hx
      go_wp2_with fail
      simp only [mn_eq]
      go_roundw
      case rel => exact ⟨k + 1, _, by omega, by go_num, rfl, hZ2, by trivial⟩
      case measure => simp [intOf]; omega
    · have hZ2 := Lib.hid (show z = minTo xs (n - 1) by rw [hZ1.out, show n - 1 = k by omega])
      go_wp2
      go_ret
      exact ⟨ret_int (by first | exact hZ2.out | (rw [← hZ2.out]; rfl)), rfl⟩

set_option maxHeartbeats 1000000 in
theorem slicesIndex_any (B : Nat) (v : Value) (xs : List Int) (x : Int) (r : Nat) (w : World) (h : LstI B w v xs) (hr : xs[r]? = some x) (hlt : ∀ (j : Nat) (y : Int), j < r → xs[j]? = some y → (x == y) = false) :
    Calls Try.prog 70 #[v, .int .i64 x] w fun e w' => e = .returned (.int .i64 r) ∧ w = w' := by
  obtain ⟨a, cap, rfl, hl, _, _, hc⟩ := h.at_
  have hrl : r < xs.length := (List.getElem?_eq_some_iff.1 hr).1
  have hC := Lib.hid hc
  have hR := Lib.hid hr
  have hL := Lib.hid hlt
  clear hc h hr hlt
  generalize xs.length = n at *
  unfold maxLen at hl
  go_enter Try.func70, Try.ntmps70
  go_wp2_with fail
  go_loopw [8] (fun i wr => ∃ k : Nat, k ≤ r ∧ i = .int .i64 k ∧ wr = w) (fun i _ => n - (intOf i).toNat)
  case atStart => exact ⟨0, Nat.zero_le _, rfl, rfl⟩
  case round =>
    obtain ⟨k, hk, rfl, rfl⟩ := hrel
    obtain ⟨b, o, y, rfl, _, hy, hcell⟩ := hC.out k (by omega)
    have hkn : k < n := by omega
    by_cases hkr : k = r
    · have hq : (x == y) = true := by
        have := hR.out; rw [← hkr, hy] at this; rw [beq_iff_eq]; exact (Option.some.inj this).symm
      have hK := Lib.hid hkr
      clear hkr hy
      go_wp2_with fail
      go_ret
      exact ⟨by rw [← hK.out]; rfl, rfl⟩
    · have hq := hL.out k y (by omega) hy
      clear hy
      go_wp2_with fail
      go_roundw
      case rel => exact ⟨k + 1, by omega, by go_num, by trivial⟩
      case measure => simp [intOf]; omega
set_option maxHeartbeats 1000000 in
theorem leastPlace_any (B : Nat) (v : Value) (fs : List Int) (w : World) (h : LstI B w v fs) (hp : 1 ≤ fs.length) :
    Calls Try.prog 62 #[v] w fun e w' => e = .returned (.int .i64 (leastAt fs (fs.length - 1) : Nat)) ∧ w = w' := by
  have hM := Lib.hid (slicesMin_any B v fs w h hp)
  have ha := leastAt_le fs (fs.length - 1)
  have e3 : fs[leastAt fs (fs.length - 1)]? = some (fs[leastAt fs (fs.length - 1)]'(by omega)) := List.getElem?_eq_getElem _
  have hI := Lib.hid (slicesIndex_any B v fs (minTo fs (fs.length - 1)) (leastAt fs (fs.length - 1)) w h (by rw [minTo_least, getD_of e3]; exact e3) (fun j y hj hy => by
    have := least_lt fs (fs.length - 1) j hj
    rw [getD_of hy] at this
    rw [minTo_least, beq_eq_false_iff_ne]; omega))
  clear h hp e3 ha
  generalize minTo fs (fs.length - 1) = mm at *
  generalize leastAt fs (fs.length - 1) = r at *
  go_enter Try.func62, Try.ntmps62
  go_wp2_with fail
  refine (hM.out).mono ?_
  rintro e w' ⟨rfl, rfl⟩
  go_wp2_with fail
  refine (hI.out).mono ?_
  rintro e w' ⟨rfl, rfl⟩
  go_wp2_with fail
  go_ret
  exact ⟨rfl, rfl⟩
def planOk (ts o : List Int) (m : Int) : Bool := areTimes ts m && isOrd o ts.length
def planRes (ts o : List Int) (m : Int) : List Int := if planOk ts o m then (planTo ts o m.toNat ts.length).1 else []
def planLast (ts o : List Int) (m : Int) : Int := if planOk ts o m then maxTo (planTo ts o m.toNat ts.length).2 (m.toNat - 1) else 0
theorem planRes_length (ts o : List Int) (m : Int) : (planRes ts o m).length ≤ 1048576 := by
  unfold planRes
  split
  · rename_i h
    rw [(planTo_length _ _ _ _).1]
    simp only [planOk, areTimes, Bool.and_eq_true] at h
    have := (okTimes_of h.1.1).2.1
    omega
  · simp
def PlanPost (ts o : List Int) (m : Int) (w : World) (e : Ending) (w' : World) : Prop :=
  ∃ v', e = .returned (.tuple #[v', .int .i64 (planLast ts o m), .bool (planOk ts o m)]) ∧ Own w.heap.size w'.heap.size w' v' 2 1 (planRes ts o m).length ((planRes ts o m).map (Value.int .i64)) ∧ Below w.heap.size w w'
theorem zeros_own {w0 : World} {B g n : Nat} (h : w0.ownsRow B 2 1 (.slice (some ⟨g, 0, none⟩) n n) n (madeCells #[Value.int .i64 0] n).toList) :
    w0.ownsRow B 2 1 (.slice (some ⟨g, 0, none⟩) n n) n ((List.replicate n (0 : Int)).map (Value.int .i64)) := by
  rw [toList_madeCells_one] at h
  rw [List.map_replicate]
  exact h
theorem small_zeros (n : Nat) : Small (List.replicate n 0) (10000 * ((0 : Nat) : Int)) := fun i => by
  rw [List.getD_eq_getElem?_getD, List.getElem?_replicate]
  split <;> simp


end Go.Proofs.Ytpnndajfaghaaaa
