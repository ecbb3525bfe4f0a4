/- Contracts: jobs given to machines in an order, each to the machine that is free first. -/
import Derived.Test.YtehobcmjjcmfnaaOrder
import Derived.Test.YtehobcmjjcmfnaaTimes
import Derived.StillTailTactics
namespace Go.Proofs.Ytehobcmjjcmfnaa
open Go.RowKit Go.Lst Go.Plan

/-- The first place of the least one of the first k + 1 numbers. -/
def leastAt (fs : List Int) : Nat → Nat
  | 0 => 0
  | k + 1 => if fs.getD (k + 1) 0 < fs.getD (leastAt fs k) 0 then k + 1 else leastAt fs k
def minTo (fs : List Int) : Nat → Int
  | 0 => fs.getD 0 0
  | k + 1 => min (minTo fs k) (fs.getD (k + 1) 0)
theorem leastAt_le (fs : List Int) : ∀ k, leastAt fs k ≤ k
  | 0 => Nat.le_refl _
  | k + 1 => by
    have := leastAt_le fs k
    unfold leastAt
    split <;> omega
theorem minTo_least (fs : List Int) : ∀ k, minTo fs k = fs.getD (leastAt fs k) 0
  | 0 => rfl
  | k + 1 => by
    have ih := minTo_least fs k
    unfold minTo leastAt
    rw [ih]
    split <;> omega
theorem least_lt (fs : List Int) : ∀ k i, i < leastAt fs k → fs.getD (leastAt fs k) 0 < fs.getD i 0
  | 0, i, h => by simp [leastAt] at h
  | k + 1, i, h => by
    have ih := least_lt fs k
    have hm : ∀ j, j ≤ k → fs.getD (leastAt fs k) 0 ≤ fs.getD j 0 := by
      intro j hj
      have hq : ∀ m j, j ≤ m → fs.getD (leastAt fs m) 0 ≤ fs.getD j 0 := by
        intro m
        induction m with
        | zero => intro j hj; have : j = 0 := by omega
                  subst this; exact Int.le_refl _
        | succ m ihm =>
          intro j hj
          unfold leastAt
          by_cases hjm : j = m + 1
          · subst hjm; split <;> omega
          · have := ihm j (by omega)
            split <;> omega
      exact hq k j hj
    unfold leastAt at h ⊢
    split at h
    · rename_i hc
      rw [if_pos hc]
      have := hm i (by omega)
      omega
    · rename_i hc
      rw [if_neg hc]
      exact ih i h

/-- One job more is given to the machine that is free first. -/
def planStep (ts : List Int) (m : Nat) (s : List Int × List Int) (j : Int) : List Int × List Int :=
  (s.1.set j.toNat ((leastAt s.2 (m - 1) : Nat) : Int), s.2.set (leastAt s.2 (m - 1)) (s.2.getD (leastAt s.2 (m - 1)) 0 + ts.getD j.toNat 0))
def planTo (ts o : List Int) (m : Nat) (k : Nat) : List Int × List Int := (o.take k).foldl (planStep ts m) (List.replicate ts.length 0, List.replicate m 0)
theorem planTo_step {ts o : List Int} {m k : Nat} {j : Int} (h : o[k]? = some j) : planTo ts o m (k + 1) = planStep ts m (planTo ts o m k) j := by
  unfold planTo
  rw [List.take_add_one, h]
  simp
theorem planTo_length (ts o : List Int) (m k : Nat) : (planTo ts o m k).1.length = ts.length ∧ (planTo ts o m k).2.length = m := by
  unfold planTo
  generalize o.take k = l
  have : ∀ (l : List Int) (s : List Int × List Int), s.1.length = ts.length ∧ s.2.length = m → (l.foldl (planStep ts m) s).1.length = ts.length ∧ (l.foldl (planStep ts m) s).2.length = m := by
    intro l
    induction l with
    | nil => intro s h; exact h
    | cons a l ih => intro s h; exact ih _ (by simp [planStep, h.1, h.2])
  exact this l _ (by simp)
/-- What is known of the round k. -/
theorem plan_round {ts o : List Int} {m : Nat} (ht : okTimes ts = true) (hm : 1 ≤ m) (ho : isOrd o ts.length = true) {k : Nat} {pl fs : List Int} (hk : k < ts.length) (hS : planTo ts o m k = (pl, fs)) (hf : Small fs (10000 * k)) :
    ∃ (j a : Nat) (x f : Int), o[k]? = some (j : Int) ∧ j < ts.length ∧ ts[j]? = some x ∧ a = leastAt fs (m - 1) ∧ a < m ∧ fs[a]? = some f ∧ 0 ≤ f ∧ f ≤ 10000 * k ∧ 1 ≤ x ∧ x ≤ 10000 ∧
      planTo ts o m (k + 1) = (pl.set j (a : Int), fs.set a (f + x)) ∧ Small (fs.set a (f + x)) (10000 * ((k + 1 : Nat) : Int)) := by
  have hl := isOrd_len ho
  have e1 : o[k]? = some (o[k]'(by omega)) := List.getElem?_eq_getElem _
  obtain ⟨h2, h3⟩ := isOrd_get ho e1
  obtain ⟨j, hj2⟩ := Int.eq_ofNat_of_zero_le h2
  rw [hj2] at e1 h3
  have e2 : ts[j]? = some (ts[j]'(by omega)) := List.getElem?_eq_getElem _
  have hx := (okTimes_of ht).2.2 j _ e2
  have hlen := (planTo_length ts o m k).2
  rw [hS] at hlen
  have ha := leastAt_le fs (m - 1)
  have e3 : fs[leastAt fs (m - 1)]? = some (fs[leastAt fs (m - 1)]'(by simp only at hlen; omega)) := List.getElem?_eq_getElem _
  have hfa := hf (leastAt fs (m - 1))
  rw [getD_of e3] at hfa
  refine ⟨j, _, _, _, e1, by omega, e2, rfl, by omega, e3, hfa.1, hfa.2, hx.1, hx.2, ?_, hf.set ⟨by omega, by omega⟩ (by omega)⟩
  rw [planTo_step e1, hS]
  unfold planStep
  rw [Int.toNat_natCast, getD_of e2, getD_of e3]

theorem mn_eq (a b : Int) : (if b < a then b else a) = min a b := by split <;> omega
set_option maxHeartbeats 1000000 in
theorem slicesMin_any (B : Nat) (v : Value) (xs : List Int) (w : World) (h : LstI B w v xs) (hp : 1 ≤ xs.length) :
    Calls Try.prog 84 #[v] w fun e w' => e = .returned (.int .i64 (minTo xs (xs.length - 1))) ∧ w = w' := by
  obtain ⟨a, cap, rfl, hl, _, _, hc⟩ := h.at_
  have hC := Lib.hid hc
  have hS : Hid (∀ (k : Nat) (x : Int), xs[k + 1]? = some x → minTo xs (k + 1) = min (minTo xs k) x) := Lib.hid fun k x hx => by show min (minTo xs k) (xs.getD (k + 1) 0) = _; rw [getD_of hx]
  have hZ : Hid (∀ x : Int, xs[0]? = some x → minTo xs 0 = x) := Lib.hid fun x hx => getD_of hx
  clear hc h
  generalize xs.length = n at *
  unfold maxLen at hl
  obtain ⟨b, o, x0, rfl, hb0, hx0, hcell0⟩ := hC.out 0 (by omega)
  have hX0 := Lib.hid (hZ.out x0 hx0)
  have hn0 : (0 : Int) < (n : Int) := by omega
  rw [Nat.add_zero] at hcell0
  clear hx0 hb0
  go_enter Try.func84, Try.ntmps84
  go_wp2_with fail
  go_loopw [3, 4] (fun s i wr => ∃ (k : Nat) (z : Int), k + 1 ≤ n ∧ i = .int .i64 ((k + 1 : Nat) : Int) ∧ s = .int .i64 z ∧ Hid (z = minTo xs k) ∧ wr = w) (fun _ i _ => n - (intOf i).toNat)
  case atStart => exact ⟨0, x0, by omega, rfl, rfl, Lib.hid hX0.out.symm, rfl⟩
  case round =>
    obtain ⟨k, z, hk, rfl, rfl, hZ1, rfl⟩ := hrel
    rw [show ((k + 1 : Nat) : Int) = (k : Int) + 1 by omega] at *
    by_cases hlt : k + 1 < n
    · obtain ⟨b', o', x, hab, _, hx, hcell⟩ := hC.out (k + 1) hlt
      injection hab with hab
      injection hab with e1 e2 _
      subst e1 e2
      have hZ2 := Lib.hid (show min z x = minTo xs (k + 1) by rw [hS.out k x hx, hZ1.out])
      clear hx
      go_wp2_with fail
      simp only [mn_eq]
      go_roundw
      case rel => exact ⟨k + 1, _, by omega, by go_num, rfl, hZ2, by trivial⟩
      case measure => simp [intOf]; omega
    · have hZ2 := Lib.hid (show z = minTo xs (n - 1) by rw [hZ1.out, show n - 1 = k by omega])
      go_wp2
      go_ret
      exact ⟨ret_int (by first | exact hZ2.out | (rw [← hZ2.out]; rfl)), rfl⟩

set_option maxHeartbeats 1000000 in
theorem slicesIndex_any (B : Nat) (v : Value) (xs : List Int) (x : Int) (r : Nat) (w : World) (h : LstI B w v xs) (hr : xs[r]? = some x) (hlt : ∀ (j : Nat) (y : Int), j < r → xs[j]? = some y → (x == y) = false) :
    Calls Try.prog 83 #[v, .int .i64 x] w fun e w' => e = .returned (.int .i64 r) ∧ w = w' := by
  obtain ⟨a, cap, rfl, hl, _, _, hc⟩ := h.at_
  have hrl : r < xs.length := (List.getElem?_eq_some_iff.1 hr).1
  have hC := Lib.hid hc
  have hR := Lib.hid hr
  have hL := Lib.hid hlt
  clear hc h hr hlt
  generalize xs.length = n at *
  unfold maxLen at hl
  go_enter Try.func83, Try.ntmps83
  go_wp2_with fail
  go_loopw [8] (fun i wr => ∃ k : Nat, k ≤ r ∧ i = .int .i64 k ∧ wr = w) (fun i _ => n - (intOf i).toNat)
  case atStart => exact ⟨0, Nat.zero_le _, rfl, rfl⟩
  case round =>
    obtain ⟨k, hk, rfl, rfl⟩ := hrel
    obtain ⟨b, o, y, rfl, _, hy, hcell⟩ := hC.out k (by omega)
    have hkn : k < n := by omega
    by_cases hkr : k = r
    · have hq : (x == y) = true := by
        have := hR.out; rw [← hkr, hy] at this; rw [beq_iff_eq]; exact (Option.some.inj this).symm
      have hK := Lib.hid hkr
      clear hkr hy
      go_wp2_with fail
      go_ret
      exact ⟨by rw [← hK.out]; rfl, rfl⟩
    · have hq := hL.out k y (by omega) hy
      clear hy
      go_wp2_with fail
      go_roundw
      case rel => exact ⟨k + 1, by omega, by go_num, by trivial⟩
      case measure => simp [intOf]; omega
set_option maxHeartbeats 1000000 in
theorem leastPlace_any (B : Nat) (v : Value) (fs : List Int) (w : World) (h : LstI B w v fs) (hp : 1 ≤ fs.length) :
    Calls Try.prog 68 #[v] w fun e w' => e = .returned (.int .i64 (leastAt fs (fs.length - 1) : Nat)) ∧ w = w' := by
  have hM := Lib.hid (slicesMin_any B v fs w h hp)
  have ha := leastAt_le fs (fs.length - 1)
  have e3 : fs[leastAt fs (fs.length - 1)]? = some (fs[leastAt fs (fs.length - 1)]'(by omega)) := List.getElem?_eq_getElem _
  have hI := Lib.hid (slicesIndex_any B v fs (minTo fs (fs.length - 1)) (leastAt fs (fs.length - 1)) w h (by rw [minTo_least, getD_of e3]; exact e3) (fun j y hj hy => by
    have := least_lt fs (fs.length - 1) j hj
    rw [getD_of hy] at this
    rw [minTo_least, beq_eq_false_iff_ne]; omega))
  clear h hp e3 ha
  generalize minTo fs (fs.length - 1) = mm at *
  generalize leastAt fs (fs.length - 1) = r at *
  go_enter Try.func68, Try.ntmps68
  go_wp2_with fail
  refine (hM.out).mono ?_
  rintro e w' ⟨rfl, rfl⟩
  go_wp2_with fail
  refine (hI.out).mono ?_
  rintro e w' ⟨rfl, rfl⟩
  go_wp2_with fail
  go_ret
  exact ⟨rfl, rfl⟩
def planOk (ts o : List Int) (m : Int) : Bool := areTimes ts m && isOrd o ts.length
def planRes (ts o : List Int) (m : Int) : List Int := if planOk ts o m then (planTo ts o m.toNat ts.length).1 else []
def planLast (ts o : List Int) (m : Int) : Int := if planOk ts o m then maxTo (planTo ts o m.toNat ts.length).2 (m.toNat - 1) else 0
theorem planRes_length (ts o : List Int) (m : Int) : (planRes ts o m).length ≤ 1048576 := by
  unfold planRes
  split
  · rename_i h
    rw [(planTo_length _ _ _ _).1]
    simp only [planOk, areTimes, Bool.and_eq_true] at h
    have := (okTimes_of h.1.1).2.1
    omega
  · simp
def PlanPost (ts o : List Int) (m : Int) (w : World) (e : Ending) (w' : World) : Prop :=
  ∃ v', e = .returned (.tuple #[v', .int .i64 (planLast ts o m), .bool (planOk ts o m)]) ∧ Own w.heap.size w'.heap.size w' v' 2 1 (planRes ts o m).length ((planRes ts o m).map (Value.int .i64)) ∧ Below w.heap.size w w'
theorem zeros_own {w0 : World} {B g n : Nat} (h : w0.ownsRow B 2 1 (.slice (some ⟨g, 0, none⟩) n n) n (madeCells #[Value.int .i64 0] n).toList) :
    w0.ownsRow B 2 1 (.slice (some ⟨g, 0, none⟩) n n) n ((List.replicate n (0 : Int)).map (Value.int .i64)) := by
  rw [toList_madeCells_one] at h
  rw [List.map_replicate]
  exact h
theorem small_zeros (n : Nat) : Small (List.replicate n 0) (10000 * ((0 : Nat) : Int)) := fun i => by
  rw [List.getD_eq_getElem?_getD, List.getElem?_replicate]
  split <;> simp
set_option maxHeartbeats 4000000 in
set_option maxRecDepth 100000 in
theorem implListPlan_any (B : Nat) (v1 v2 : Value) (ts o : List Int) (m : Int) (w : World) (h1 : LstI B w v1 ts) (h2 : LstI B w v2 o) (hB : B ≤ w.heap.size) (hwf : ∀ x ∈ o, (Lit.int .i64 x).wf = true) :
    Calls Try.prog 36 #[v1, v2, .int .i64 m] w (PlanPost ts o m w) := by
  have hT := Lib.hid (areTimes_any B v1 ts m w h1)
  obtain ⟨a1, cap1, hv1, hl1, _, _, hc1⟩ := h1.at_
  cases hq : areTimes ts m
  · have hP : Hid (PlanPost ts o m w (.returned (.tuple #[.slice none 0 0, .int .i64 0, .bool false])) w) := Lib.hid
      ⟨_, by unfold planLast planOk; rw [hq]; rfl, by unfold planRes planOk; rw [hq]; exact own_nil, Below.refl _ _⟩
    rw [hq] at hT
    generalize PlanPost ts o m w = Q at *
    clear h1 h2 hq hc1 hv1
    go_enter Try.func36, Try.ntmps36
    go_wp2_with (go_at_call 32; refine (hT.out).mono ?_; rintro e w' ⟨rfl, rfl⟩)
    go_ret3
    exact hP.out
  · have hq' := hq
    simp only [areTimes, Bool.and_eq_true] at hq'
    obtain ⟨hok, hm⟩ := hq'
    have hok2 := okTimes_of hok
    have hO := Lib.hid (implIsOrder_any B v2 o ts.length w h2 hB hwf)
    have hio : isOrder o ts.length = isOrd o ts.length := by
      unfold isOrder; rw [show inB (ts.length : Int) 1 24 = true by simp [inB]; omega, Bool.true_and]
    rw [hio] at hO
    rw [hq] at hT
    subst hv1
    cases hq2 : isOrd o ts.length
    · have hP : Hid (∀ w', Below w.heap.size w w' → PlanPost ts o m w (.returned (.tuple #[.slice none 0 0, .int .i64 0, .bool false])) w') := Lib.hid fun w' hb =>
        ⟨_, by unfold planLast planOk; rw [hq2, Bool.and_false]; rfl, by unfold planRes planOk; rw [hq2, Bool.and_false]; exact own_nil, hb⟩
      rw [hq2] at hO
      generalize PlanPost ts o m w = Q at *
      clear h1 h2 hq hc1 hok hok2 hm hio hq2
      generalize ts.length = n at *
      unfold maxLen at hl1
      go_enter Try.func36, Try.ntmps36
      go_wp2_with (first | (go_at_call 32; refine (hT.out).mono ?_; rintro e w' ⟨rfl, rfl⟩) | (go_at_call 67; refine (hO.out).mono ?_; rintro e w1 ⟨rfl, hb1⟩; have hR := Lib.hid (hP.out w1 hb1); clear hb1))
      go_ret3
      exact hR.out
    · obtain ⟨m1, m2⟩ := inB_true hm
      obtain ⟨M, rfl⟩ : ∃ M : Nat, m = M := ⟨m.toNat, by omega⟩
      obtain ⟨a2, cap2, rfl, hl2, _, _, hc2⟩ := h2.at_
      have hol := isOrd_len hq2
      have hol2 : o.length = ts.length := by omega
      rw [hol2] at hc2 hl2 hO ⊢
      have hK : Hid (∀ (k : Nat) (pl fs : List Int), k < ts.length → planTo ts o M k = (pl, fs) → Small fs (10000 * k) → _) := Lib.hid fun k pl fs (a : k < ts.length) b c => plan_round hok (show 1 ≤ M by omega) hq2 (pl := pl) (fs := fs) a b c
      have hLn := Lib.hid (planTo_length ts o M)
      have hP : Hid (∀ w' (pl fs : List Int) (g : Nat), planTo ts o M ts.length = (pl, fs) → w.heap.size ≤ g → Own w.heap.size w'.heap.size w' (.slice (some ⟨g, 0, none⟩) ts.length ts.length) 2 1 ts.length (pl.map (Value.int .i64)) → Below w.heap.size w w' → PlanPost ts o M w (.returned (.tuple #[.slice (some ⟨g, 0, none⟩) ts.length ts.length, .int .i64 (maxTo fs (M - 1)), .bool true])) w') := Lib.hid fun w' pl fs g hS _ ho hb =>
        have hc : planOk ts o M = true := by unfold planOk; rw [hq, hq2]; rfl
        ⟨_, by unfold planLast; rw [hc, if_pos rfl, Int.toNat_natCast, hS], by
          have hl := (planTo_length ts o M ts.length).1
          rw [hS] at hl
          unfold planRes; rw [hc, if_pos rfl, Int.toNat_natCast, hS]; simp only at hl ⊢; rw [hl]; exact ho, hb⟩
      rw [hq2] at hO
      have hC1 := Lib.hid hc1
      have hC2 := Lib.hid hc2
      obtain ⟨i0, hi, hz0, hz1, hz2⟩ := info_parts infoI
      have hZ : Hid (planTo ts o M 0 = (List.replicate ts.length 0, List.replicate M 0)) := Lib.hid rfl
      have n24 := hok2.2.1
      have n1 := hok2.1
      generalize PlanPost ts o (M : Int) w = Q at *
      clear h1 h2 hq hc1 hc2 hok hok2 hm hio hq2 hol hol2
      generalize ts.length = n at *
      unfold maxLen at hl1
      go_enter Try.func36, Try.ntmps36
      go_wp2_with fail
      refine (hT.out).mono ?_
      rintro e w' ⟨rfl, rfl⟩
      go_wp2_with fail
      refine (hO.out).mono ?_
      rintro e w1 ⟨rfl, hb1⟩
      have hB1 := Lib.hid hb1
      clear hb1
      go_wp2_with (at_make; refine wpList_make_full _ rfl _ _ _ rfl w1.heap.size _ i0 (.int .i64 0) 1 Try.underlying22 hi hz0 hz1 _ _ _ _ n rfl rfl rfl rfl ?c1 ?c2 ?c3 ?_)
      case c1 => rw [hz2]; omega
      case c2 => unfold maxLen; omega
      case c3 => exact Nat.le_refl _
      intro w2 hown2 hg2
      have hB2 := Lib.hid (hB1.out.grown hg2 hB1.out.size (fun k hk => by cases hk))
      have hOp := Lib.hid (zeros_own hown2)
      have hs2 : w1.heap.size < w2.heap.size := (hown2.lt _ rfl).2
      clear hown2 hg2
      go_wp2_with (at_make; refine wpList_make_full _ rfl _ _ _ rfl w2.heap.size _ i0 (.int .i64 0) 1 Try.underlying22 hi hz0 hz1 _ _ _ _ M rfl rfl rfl rfl ?d1 ?d2 ?d3 ?_)
      case d1 => rw [hz2]; omega
      case d2 => unfold maxLen; omega
      case d3 => exact Nat.le_refl _
      intro w3 hown3 hg3
      have hB3 := Lib.hid (hB2.out.grown hg3 hB2.out.size (fun k hk => by cases hk))
      have hOf := Lib.hid (zeros_own hown3)
      have hOp3 := Lib.hid (hOp.out.kept hg3 (.inr (by simp [Value.ownBlock])))
      have hs3 : w2.heap.size < w3.heap.size := (hown3.lt _ rfl).2
      have hs1 := hB1.out.size
      clear hown3 hg3 hOp hz0 hz1 hz2 hi
      generalize w1.heap.size = gp at *
      generalize w2.heap.size = gf at *
      have hWp := Lib.hid (show w.heap.size ≤ gp from hs1)
      go_wp2_with fail
      go_loopw [32] (fun ii wr => ∃ (k : Nat) (pl fs : List Int), k ≤ n ∧ ii = .int .i64 k ∧ Hid (planTo ts o M k = (pl, fs)) ∧ Hid (Small fs (10000 * k)) ∧ Hid (wr.ownsRow gp 2 1 (.slice (some ⟨gp, 0, none⟩) n n) n (pl.map (Value.int .i64))) ∧ Hid (wr.ownsRow gf 2 1 (.slice (some ⟨gf, 0, none⟩) M M) M (fs.map (Value.int .i64))) ∧ Hid (Below w.heap.size w wr) ∧ gp < gf ∧ gf < wr.heap.size) (fun ii _ => n - (intOf ii).toNat)
      case atStart => exact ⟨0, _, _, Nat.zero_le _, rfl, hZ, Lib.hid (small_zeros M), hOp3, hOf, hB3, hs2, hs3⟩
      case round =>
        clear hB1 hB2 hB3 hOf hOp3 hs1 hs2 hs3
        obtain ⟨k, pl, fs, hk, rfl, hS, hSm, hO1, hO2, hBw, g1, g2⟩ := hrel
        have hlf : fs.length = M := by have := (hLn.out k).2; rw [hS.out] at this; exact this
        have hlp : pl.length = n := by have := (hLn.out k).1; rw [hS.out] at this; exact this
        have hF := Lib.hid (show LstI wr.heap.size wr (.slice (some ⟨gf, 0, none⟩) M M) fs from by
          have h1 : Own gf wr.heap.size wr (.slice (some ⟨gf, 0, none⟩) M M) 2 1 fs.length (fs.map (Value.int .i64)) := by rw [hlf]; exact Own.new hO2.out (by unfold maxLen; omega)
          exact h1.lstI (Nat.le_refl _))
        by_cases hlt : k < n
        · obtain ⟨j, a, x, f, hoj, hjn, hx, ha, haM, hfa, f0, f1, x0, x1, hS2, hSm2⟩ := hK.out k pl fs hlt hS.out hSm.out
          obtain ⟨b1, o1, x', rfl, hbB1, hx', p0⟩ := hC1.out j hjn
          obtain rfl : x' = x := by rw [hx] at hx'; exact (Option.some.inj hx').symm
          obtain ⟨b2, o2, j', rfl, hbB2, hj', q0⟩ := hC2.out k hlt
          obtain rfl : j' = (j : Int) := by rw [hoj] at hj'; exact (Option.some.inj hj').symm
          have hS3 := Lib.hid hS2
          have hSm3 := Lib.hid hSm2
          have hLP := Lib.hid (leastPlace_any wr.heap.size _ fs wr hF.out (by omega))
          rw [hlf, ← ha] at hLP
          rw [← hBw.out.cell (p := ⟨b1, o1 + j, none⟩) (show b1 < w.heap.size by omega)] at p0
          rw [← hBw.out.cell (p := ⟨b2, o2 + k, none⟩) (show b2 < w.heap.size by omega)] at q0
          have hpd : wr.cell? ⟨gp, j, none⟩ = some (.int .i64 (pl[j]'(by omega))) := (hO1.out.cellAt j (by omega)).trans (by rw [List.getElem?_map, List.getElem?_eq_getElem (by omega)]; rfl)
          generalize pl[j]'(by omega) = pj at hpd
          have hfd : wr.cell? ⟨gf, a, none⟩ = some (.int .i64 f) := (hO2.out.cellAt a (by omega)).trans (by rw [List.getElem?_map, hfa]; rfl)
          have hfr1 : wr.frozen? ⟨gp, j, none⟩ = false := hO1.out.frozenAt j
          have hfr2 : wr.frozen? ⟨gf, a, none⟩ = false := hO2.out.frozenAt a
          have hgb : b1 ≠ gp ∧ b2 ≠ gp := by have := hWp.out; omega
          clear hx hx' hoj hj' hS2 hSm2 hfa ha hlf hlp
          go_wp2_with fail
          refine (hLP.out).mono ?_
          rintro e w' ⟨rfl, rfl⟩
          have hst1 := hO1.out.stored j (.int .i64 (a : Int))
          go_wp2_with fail
          generalize hw4 : wr.setCell ⟨gp, j, none⟩ (.int .i64 (a : Int)) = w4 at *
          have hO1b := Lib.hid (show w4.ownsRow gp 2 1 (.slice (some ⟨gp, 0, none⟩) n n) n ((pl.set j (a : Int)).map (Value.int .i64)) by rw [List.map_set]; exact hst1.1)
          have hO2b := Lib.hid (hO2.out.kept hst1.2 (.inr (by simp [Value.ownBlock]; omega)))
          have hBb := Lib.hid (hBw.out.grown hst1.2 hBw.out.size (fun q hq => by cases hq; exact hWp.out))
          have p0b : w4.cell? ⟨b1, o1 + j, none⟩ = some (.int .i64 x') := by
            rw [World.cell?_of_block (w := wr) (hst1.2.block b1 (by have := hBw.out.size; omega) (by intro h; injection h with h; exact hgb.1 h))]; exact p0
          have hfdb : w4.cell? ⟨gf, a, none⟩ = some (.int .i64 f) := by
            rw [World.cell?_of_block (w := wr) (hst1.2.block gf g2 (by intro h; injection h with h; omega))]; exact hfd
          have hfrb : w4.frozen? ⟨gf, a, none⟩ = false := hO2b.out.frozenAt a
          have g3 : gf < w4.heap.size := by have := hst1.2.size; omega
          have hw1 : IntKind.i64.wrap (f + x') = f + x' := IntWalk.i64_in _ (by omega)
          clear hst1 hw4 p0 hfd hfr1 hfr2 hpd q0 hO1 hO2 hBw hF hLP g2
          go_still_tail 10, (by kernel_rfl)
          change wpList _ _ _ _ _ w4.drew
          have hO1c := Lib.hid (show w4.drew.ownsRow gp 2 1 (.slice (some ⟨gp, 0, none⟩) n n) n ((pl.set j (a : Int)).map (Value.int .i64)) from hO1b.out)
          have hO2c := Lib.hid (show w4.drew.ownsRow gf 2 1 (.slice (some ⟨gf, 0, none⟩) M M) M (fs.map (Value.int .i64)) from hO2b.out)
          have hBc := Lib.hid (show Below w.heap.size w w4.drew from hBb.out.drew)
          have hfdc : w4.drew.cell? ⟨gf, a, none⟩ = some (.int .i64 f) := hfdb
          have hfrc : w4.drew.frozen? ⟨gf, a, none⟩ = false := hfrb
          have g4 : gf < w4.drew.heap.size := g3
          clear hO1b hO2b hBb hfdb hfrb g3 p0b
          generalize w4.drew = w5 at *
          have hst2 := hO2c.out.stored a (.int .i64 (f + x'))
          have hO2d := Lib.hid (show (w5.setCell ⟨gf, a, none⟩ (.int .i64 (f + x'))).ownsRow gf 2 1 (.slice (some ⟨gf, 0, none⟩) M M) M ((fs.set a (f + x')).map (Value.int .i64)) by rw [List.map_set]; exact hst2.1)
          have hO1d := Lib.hid (hO1c.out.kept hst2.2 (.inr (by simp [Value.ownBlock]; omega)))
          have hBd := Lib.hid (hBc.out.grown hst2.2 hBc.out.size (fun q hq => by cases hq; have := hWp.out; omega))
          have g5 := Lib.hid (show gf < (w5.setCell ⟨gf, a, none⟩ (.int .i64 (f + x'))).heap.size by have := hst2.2.size; omega)
          clear hst2 hO1c hO2c hBc g4 hw1
          go_wp2_with fail
          go_roundw
          case rel => exact ⟨k + 1, _, _, by omega, by go_num, hS3, hSm3, hO1d, hO2d, hBd, g1, g5.out⟩
          case measure => simp [intOf]; omega
        · have hkn : k = n := by omega
          have hS3 := hS.out
          rw [hkn] at hS3
          have hM := Lib.hid (slicesMax_any wr.heap.size _ fs wr hF.out (by omega))
          rw [hlf] at hM
          have hOw : Own w.heap.size wr.heap.size wr (.slice (some ⟨gp, 0, none⟩) n n) 2 1 n (pl.map (Value.int .i64)) :=
            ⟨ownsRow_mono hO1.out hWp.out, by unfold maxLen; omega, fun q hq => by cases hq; show gp < _; omega⟩
          have hR := Lib.hid (hP.out wr pl fs gp hS3 hWp.out hOw hBw.out)
          clear hkn hS3 hOw hF hO1 hO2 hlf hlp
          go_wp2_with fail
          refine (hM.out).mono ?_
          rintro e w' ⟨rfl, rfl⟩
          go_wp2_with fail
          go_ret3
          exact hR.out

def Plan2Post (ts o : List Int) (M : Nat) (w : World) (e : Ending) (w' : World) : Prop :=
  ∃ v', e = .returned (.tuple #[v', .int .i64 (maxTo (planTo ts o M ts.length).2 (M - 1))]) ∧ Own w.heap.size w'.heap.size w' v' 2 1 ts.length ((planTo ts o M ts.length).1.map (Value.int .i64)) ∧ Below w.heap.size w w'
set_option maxHeartbeats 4000000 in
set_option maxRecDepth 100000 in
theorem l02Plan_any (B : Nat) (v1 v2 : Value) (ts o : List Int) (M : Nat) (w : World) (h1 : LstI B w v1 ts) (h2 : LstI B w v2 o) (hB : B ≤ w.heap.size) (hok : okTimes ts = true) (m1 : 1 ≤ M) (m2 : M ≤ 8) (hq2 : isOrd o ts.length = true) :
    Calls Try.prog 60 #[v1, v2, .int .i64 M] w (Plan2Post ts o M w) := by
  have hok2 := okTimes_of hok
  obtain ⟨a1, cap1, rfl, hl1, _, _, hc1⟩ := h1.at_
  obtain ⟨a2, cap2, rfl, hl2, _, _, hc2⟩ := h2.at_
  have hol := isOrd_len hq2
  have hol2 : o.length = ts.length := by omega
  rw [hol2] at hc2 hl2 ⊢
  have hK : Hid (∀ (k : Nat) (pl fs : List Int), k < ts.length → planTo ts o M k = (pl, fs) → Small fs (10000 * k) → _) := Lib.hid fun k pl fs (a : k < ts.length) b c => plan_round hok m1 hq2 (pl := pl) (fs := fs) a b c
  have hLn := Lib.hid (planTo_length ts o M)
  have hP : Hid (∀ w' (pl fs : List Int) (g : Nat), planTo ts o M ts.length = (pl, fs) → Own w.heap.size w'.heap.size w' (.slice (some ⟨g, 0, none⟩) ts.length ts.length) 2 1 ts.length (pl.map (Value.int .i64)) → Below w.heap.size w w' → Plan2Post ts o M w (.returned (.tuple #[.slice (some ⟨g, 0, none⟩) ts.length ts.length, .int .i64 (maxTo fs (M - 1))])) w') := Lib.hid fun w' pl fs g hS ho hb =>
    ⟨_, by rw [hS], by rw [hS]; exact ho, hb⟩
  have hC1 := Lib.hid hc1
  have hC2 := Lib.hid hc2
  obtain ⟨i0, hi, hz0, hz1, hz2⟩ := info_parts infoI
  have hZ : Hid (planTo ts o M 0 = (List.replicate ts.length 0, List.replicate M 0)) := Lib.hid rfl
  have n24 := hok2.2.1
  have n1 := hok2.1
  generalize Plan2Post ts o M w = Q at *
  clear h1 h2 hc1 hc2 hok hok2 hq2 hol hol2
  generalize ts.length = n at *
  unfold maxLen at hl1
  go_enter Try.func60, Try.ntmps60
  go_wp2_with (at_make; refine wpList_make_full _ rfl _ _ _ rfl w.heap.size _ i0 (.int .i64 0) 1 Try.underlying22 hi hz0 hz1 _ _ _ _ n rfl rfl rfl rfl ?c1 ?c2 ?c3 ?_)
  case c1 => rw [hz2]; omega
  case c2 => unfold maxLen; omega
  case c3 => exact Nat.le_refl _
  intro w2 hown2 hg2
  have hB2 := Lib.hid ((Below.refl w.heap.size w).grown hg2 (Nat.le_refl _) (fun k hk => by cases hk))
  have hOp := Lib.hid (zeros_own hown2)
  have hs2 : w.heap.size < w2.heap.size := (hown2.lt _ rfl).2
  clear hown2 hg2
  go_wp2_with (at_make; refine wpList_make_full _ rfl _ _ _ rfl w2.heap.size _ i0 (.int .i64 0) 1 Try.underlying22 hi hz0 hz1 _ _ _ _ M rfl rfl rfl rfl ?d1 ?d2 ?d3 ?_)
  case d1 => rw [hz2]; omega
  case d2 => unfold maxLen; omega
  case d3 => exact Nat.le_refl _
  intro w3 hown3 hg3
  have hB3 := Lib.hid (hB2.out.grown hg3 hB2.out.size (fun k hk => by cases hk))
  have hOf := Lib.hid (zeros_own hown3)
  have hOp3 := Lib.hid (hOp.out.kept hg3 (.inr (by simp [Value.ownBlock])))
  have hs3 : w2.heap.size < w3.heap.size := (hown3.lt _ rfl).2
  clear hown3 hg3 hOp hz0 hz1 hz2 hi
  generalize hgp : w.heap.size = gp at *
  generalize w2.heap.size = gf at *
  have HG := Lib.hid hgp
  clear hgp
  go_wp2_with fail
  go_loopw [10] (fun ii wr => ∃ (k : Nat) (pl fs : List Int), k ≤ n ∧ ii = .int .i64 k ∧ Hid (planTo ts o M k = (pl, fs)) ∧ Hid (Small fs (10000 * k)) ∧ Hid (wr.ownsRow gp 2 1 (.slice (some ⟨gp, 0, none⟩) n n) n (pl.map (Value.int .i64))) ∧ Hid (wr.ownsRow gf 2 1 (.slice (some ⟨gf, 0, none⟩) M M) M (fs.map (Value.int .i64))) ∧ Hid (Below gp w wr) ∧ gp < gf ∧ gf < wr.heap.size) (fun ii _ => n - (intOf ii).toNat)
  case atStart => exact ⟨0, _, _, Nat.zero_le _, rfl, hZ, Lib.hid (small_zeros M), hOp3, hOf, hB3, hs2, hs3⟩
  case round =>
    clear hB2 hB3 hOf hOp3 hs2 hs3
    obtain ⟨k, pl, fs, hk, rfl, hS, hSm, hO1, hO2, hBw, g1, g2⟩ := hrel
    have hlf : fs.length = M := by have := (hLn.out k).2; rw [hS.out] at this; exact this
    have hlp : pl.length = n := by have := (hLn.out k).1; rw [hS.out] at this; exact this
    have hF := Lib.hid (show LstI wr.heap.size wr (.slice (some ⟨gf, 0, none⟩) M M) fs from by
      have h1 : Own gf wr.heap.size wr (.slice (some ⟨gf, 0, none⟩) M M) 2 1 fs.length (fs.map (Value.int .i64)) := by rw [hlf]; exact Own.new hO2.out (by unfold maxLen; omega)
      exact h1.lstI (Nat.le_refl _))
    by_cases hlt : k < n
    · obtain ⟨j, a, x, f, hoj, hjn, hx, ha, haM, hfa, f0, f1, x0, x1, hS2, hSm2⟩ := hK.out k pl fs hlt hS.out hSm.out
      obtain ⟨b1, o1, x', rfl, hbB1, hx', p0⟩ := hC1.out j hjn
      obtain rfl : x' = x := by rw [hx] at hx'; exact (Option.some.inj hx').symm
      obtain ⟨b2, o2, j', rfl, hbB2, hj', q0⟩ := hC2.out k hlt
      obtain rfl : j' = (j : Int) := by rw [hoj] at hj'; exact (Option.some.inj hj').symm
      have hS3 := Lib.hid hS2
      have hSm3 := Lib.hid hSm2
      have hFS : Hid (∀ q, q < M → wr.cell? ⟨gf, q, none⟩ = some (.int .i64 (fs.getD q 0))) := Lib.hid fun q hq => by
        have e3 : fs[q]? = some (fs[q]'(by omega)) := List.getElem?_eq_getElem _
        exact (hO2.out.cellAt q (by omega)).trans (by rw [List.getElem?_map, e3, getD_of e3]; rfl)
      have hLA : Hid (∀ q, leastAt fs (q + 1) = if fs.getD (q + 1) 0 < fs.getD (leastAt fs q) 0 then q + 1 else leastAt fs q) := Lib.hid fun _ => rfl
      have hLL : Hid (∀ q, leastAt fs q ≤ q) := Lib.hid (leastAt_le fs)
      rw [← hBw.out.cell (p := ⟨b1, o1 + j, none⟩) (show b1 < gp by omega)] at p0
      rw [← hBw.out.cell (p := ⟨b2, o2 + k, none⟩) (show b2 < gp by omega)] at q0
      have hpd : wr.cell? ⟨gp, j, none⟩ = some (.int .i64 (pl[j]'(by omega))) := (hO1.out.cellAt j (by omega)).trans (by rw [List.getElem?_map, List.getElem?_eq_getElem (by omega)]; rfl)
      generalize pl[j]'(by omega) = pj at hpd
      have hfd : wr.cell? ⟨gf, a, none⟩ = some (.int .i64 f) := (hO2.out.cellAt a (by omega)).trans (by rw [List.getElem?_map, hfa]; rfl)
      have hfr1 : wr.frozen? ⟨gp, j, none⟩ = false := hO1.out.frozenAt j
      have hfr2 : wr.frozen? ⟨gf, a, none⟩ = false := hO2.out.frozenAt a
      have hgb : b1 ≠ gp ∧ b2 ≠ gp := by omega
      clear hx hx' hoj hj' hS2 hSm2 hfa hlp
      have hA0 := Lib.hid ha
      clear ha
      go_wp2_with fail
      go_loopw [11, 12] (fun av iv wr2 => ∃ (q r nd : Nat), q + 1 ≤ M ∧ iv = .int .i64 ((q + 1 : Nat) : Int) ∧ av = .int .i64 r ∧ Hid (r = leastAt fs q) ∧ r ≤ q ∧ wr2 = wr.drewN nd) (fun _ iv _ => M - (intOf iv).toNat)
      case atStart => exact ⟨0, 0, 0, by omega, rfl, rfl, Lib.hid rfl, by omega, rfl⟩
      case round =>
        obtain ⟨q, r, nd, hq1, rfl, rfl, hr, hrq, rfl⟩ := hrel
        rw [show ((q + 1 : Nat) : Int) = (q : Int) + 1 by omega] at *
        by_cases hqM : q + 1 < M
        · have c1 := hFS.out (q + 1) hqM
          have c2 := hFS.out r (by omega)
          rw [← World.cell?_drewN (n := nd)] at c1 c2
          have hNx := Lib.hid (hLA.out q)
          rw [← hr.out] at hNx
          generalize hy1 : fs.getD (q + 1) 0 = y1 at *
          generalize hy2 : fs.getD r 0 = y2 at *
          generalize hwo : wr.drewN nd = wo at *
          have hWo := Lib.hid hwo
          clear hwo hy1 hy2 p0 q0 hpd hfd hfr1 hfr2
          cases hc : decide (y1 < y2)
          · have hN := Lib.hid (show r = leastAt fs (q + 1) by rw [hNx.out, if_neg (of_decide_eq_false hc)])
            go_wp2_with fail
            go_quiet (fail)
            go_wp2_with fail
            go_roundw
            case rel => exact ⟨q + 1, r, _, by omega, by go_num, rfl, hN, by omega, by rw [← hWo.out, World.drewN_drewN]⟩
            case measure => simp [intOf]; omega
          · have hN := Lib.hid (show q + 1 = leastAt fs (q + 1) by rw [hNx.out, if_pos (of_decide_eq_true hc)])
            go_wp2_with fail
            go_quiet (fail)
            go_wp2_with fail
            go_roundw
            case rel => exact ⟨q + 1, q + 1, _, by omega, by go_num, by go_num, hN, by omega, by rw [← hWo.out, World.drewN_drewN]⟩
            case measure => simp [intOf]; omega
        · obtain rfl : r = a := by rw [hr.out, hA0.out, show q = M - 1 by omega]
          rw [← World.cell?_drewN (n := nd)] at p0 q0 hpd hfd
          have hfr1 : (wr.drewN nd).frozen? ⟨gp, j, none⟩ = false := hfr1
          have hO1 := Lib.hid (ownsRow_drewN hO1.out nd)
          have hO2 := Lib.hid (ownsRow_drewN hO2.out nd)
          have hBw := Lib.hid (Lst.Below.drewN hBw.out nd)
          have g2 : gf < (wr.drewN nd).heap.size := g2
          clear hFS hLA hLL hr hA0
          generalize wr.drewN nd = wr at *
          have hst1 := hO1.out.stored j (.int .i64 (r : Int))
          go_wp2_with fail
          generalize hw4 : wr.setCell ⟨gp, j, none⟩ (.int .i64 (r : Int)) = w4 at *
          have hO1b := Lib.hid (show w4.ownsRow gp 2 1 (.slice (some ⟨gp, 0, none⟩) n n) n ((pl.set j (r : Int)).map (Value.int .i64)) by rw [List.map_set]; exact hst1.1)
          have hO2b := Lib.hid (hO2.out.kept hst1.2 (.inr (by simp [Value.ownBlock]; omega)))
          have hBb := Lib.hid (hBw.out.grown hst1.2 (by omega) (fun q hq => by cases hq; exact Nat.le_refl _))
          have p0b : w4.cell? ⟨b1, o1 + j, none⟩ = some (.int .i64 x') := by
            rw [World.cell?_of_block (w := wr) (hst1.2.block b1 (by omega) (by intro h; injection h with h; exact hgb.1 h))]; exact p0
          have q0b : w4.cell? ⟨b2, o2 + k, none⟩ = some (.int .i64 (j : Int)) := by
            rw [World.cell?_of_block (w := wr) (hst1.2.block b2 (by omega) (by intro h; injection h with h; exact hgb.2 h))]; exact q0
          have hfdb : w4.cell? ⟨gf, r, none⟩ = some (.int .i64 f) := by
            rw [World.cell?_of_block (w := wr) (hst1.2.block gf g2 (by intro h; injection h with h; omega))]; exact hfd
          have hfrb : w4.frozen? ⟨gf, r, none⟩ = false := hO2b.out.frozenAt r
          have g3 : gf < w4.heap.size := by have := hst1.2.size; omega
          have hw1 : IntKind.i64.wrap (f + x') = f + x' := IntWalk.i64_in _ (by omega)
          clear hst1 hw4 p0 hfd hfr1 hpd q0 hO1 hO2 hBw hF g2
          go_still_tail 13, (by kernel_rfl)
          change wpList _ _ _ _ _ w4.drew
          have hO1c := Lib.hid (show w4.drew.ownsRow gp 2 1 (.slice (some ⟨gp, 0, none⟩) n n) n ((pl.set j (r : Int)).map (Value.int .i64)) from hO1b.out)
          have hO2c := Lib.hid (show w4.drew.ownsRow gf 2 1 (.slice (some ⟨gf, 0, none⟩) M M) M (fs.map (Value.int .i64)) from hO2b.out)
          have hBc := Lib.hid (show Below gp w w4.drew from hBb.out.drew)
          have hfdc : w4.drew.cell? ⟨gf, r, none⟩ = some (.int .i64 f) := hfdb
          have hfrc : w4.drew.frozen? ⟨gf, r, none⟩ = false := hfrb
          have g4 : gf < w4.drew.heap.size := g3
          clear hO1b hO2b hBb hfdb hfrb g3 p0b q0b
          generalize w4.drew = w5 at *
          have hst2 := hO2c.out.stored r (.int .i64 (f + x'))
          have hO2d := Lib.hid (show (w5.setCell ⟨gf, r, none⟩ (.int .i64 (f + x'))).ownsRow gf 2 1 (.slice (some ⟨gf, 0, none⟩) M M) M ((fs.set r (f + x')).map (Value.int .i64)) by rw [List.map_set]; exact hst2.1)
          have hO1d := Lib.hid (hO1c.out.kept hst2.2 (.inr (by simp [Value.ownBlock]; omega)))
          have hBd := Lib.hid (hBc.out.grown hst2.2 (by omega) (fun q hq => by cases hq; omega))
          have g5 := Lib.hid (show gf < (w5.setCell ⟨gf, r, none⟩ (.int .i64 (f + x'))).heap.size by have := hst2.2.size; omega)
          clear hst2 hO1c hO2c hBc g4 hw1
          go_wp2_with fail
          go_roundw
          case rel => exact ⟨k + 1, _, _, by omega, by go_num, hS3, hSm3, hO1d, hO2d, hBd, g1, g5.out⟩
          case measure => simp [intOf]; omega
    · have hkn : k = n := by omega
      have hS3 := hS.out
      rw [hkn] at hS3
      have hM := Lib.hid (l02Greatest_any wr.heap.size _ fs wr hF.out (by omega))
      rw [hlf] at hM
      have hOw : Own gp wr.heap.size wr (.slice (some ⟨gp, 0, none⟩) n n) 2 1 n (pl.map (Value.int .i64)) :=
        ⟨hO1.out, by unfold maxLen; omega, fun q hq => by cases hq; show gp < _; omega⟩
      have hR := Lib.hid (hP.out wr pl fs gp hS3 hOw hBw.out)
      clear hkn hS3 hOw hF hO1 hO2 hlf hlp
      go_wp2_with fail
      refine (hM.out).mono ?_
      rintro e w' ⟨rfl, rfl⟩
      go_wp2_with fail
      exact hR.out

end Go.Proofs.Ytehobcmjjcmfnaa
