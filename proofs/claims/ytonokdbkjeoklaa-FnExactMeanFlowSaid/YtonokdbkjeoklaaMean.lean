/- Contracts: how long jobs take in the mean. -/
import Derived.Test.YtonokdbkjeoklaaEnds
import Derived.Test.YtonokdbkjeoklaaBits
namespace Go.Proofs.Ytonokdbkjeoklaa
open Go.RowKit Go.Lst Go.Plan FloatKit

theorem ends_small {xs : List JobD} {o : List Int} (hj : areJobs xs = true) (ho : isOrd o xs.length = true) : ∀ k, k ≤ xs.length → (0 ≤ (endsTo xs o k).1 ∧ (endsTo xs o k).1 ≤ 10000 + 10000 * k) ∧ Small (endsTo xs o k).2 (10000 + 10000 * k)
  | 0, _ => ⟨by show (0 : Int) ≤ 0 ∧ (0 : Int) ≤ 10000 + 10000 * ((0 : Nat) : Int); omega, fun i => by
      show 0 ≤ (List.replicate xs.length (0 : Int)).getD i 0 ∧ _
      rw [List.getD_eq_getElem?_getD]
      have : (endsTo xs o 0).2 = List.replicate xs.length 0 := rfl
      rw [this, List.getD_eq_getElem?_getD, List.getElem?_replicate]
      split <;> simp⟩
  | k + 1, hk => by
    obtain ⟨⟨h1, h2⟩, h3⟩ := ends_small hj ho k (by omega)
    obtain ⟨j, x, _, _, _, _, _, hS, h4, h5⟩ := ends_round hj ho (k := k) (f := (endsTo xs o k).1) (es := (endsTo xs o k).2) (by omega) rfl h1 h2
    rw [hS]
    exact ⟨⟨h4, h5⟩, h3.set ⟨h4, h5⟩ (by omega)⟩
def flowTo (xs : List JobD) (es : List Int) : Nat → Int
  | 0 => 0
  | k + 1 => flowTo xs es k + (es.getD k 0 - (xs.getD k default).Release)
/-- The mean of ends less releases, as 32-bit numbers. -/
def meanF (xs : List JobD) (o : List Int) : Nat := fop .quo .f32 (floatOfInt .f32 (flowTo xs (endsOf xs o) xs.length)) (floatOfInt .f32 xs.length)
def meanRes (xs : List JobD) (o : List Int) : Nat := if canDo xs o then meanF xs o else 0
def MeanPost (xs : List JobD) (o : List Int) (w : World) (e : Ending) (w' : World) : Prop :=
  ∃ r : Nat, e = .returned (.tuple #[.float .f32 r, .bool (canDo xs o)]) ∧ Eqv Ieee.single r (meanRes xs o) ∧ Below w.heap.size w w'
/-- What is known at place k. -/
theorem flow_at {xs : List JobD} {o : List Int} (h : canDo xs o = true) {k : Nat} (hk : k < xs.length) :
    ∃ (x : JobD) (e : Int), xs[k]? = some x ∧ (endsOf xs o)[k]? = some e ∧ 0 ≤ e ∧ e ≤ 250000 ∧ 0 ≤ x.Release ∧ x.Release ≤ 10000 ∧ flowTo xs (endsOf xs o) (k + 1) = flowTo xs (endsOf xs o) k + (e - x.Release) := by
  simp only [canDo, Bool.and_eq_true] at h
  obtain ⟨hj, ho⟩ := h
  have hol := isOrd_len ho
  have h24 := (areJobs_of hj).2.1
  have e1 : xs[k]? = some xs[k] := List.getElem?_eq_getElem _
  have hlen := endsOf_length xs o
  have e2 : (endsOf xs o)[k]? = some ((endsOf xs o)[k]'(by omega)) := List.getElem?_eq_getElem _
  obtain ⟨_, hr, _, _⟩ := okJob_of ((areJobs_of hj).2.2 k _ e1)
  have hs := (ends_small hj ho xs.length (Nat.le_refl _)).2 k
  have he : endsOf xs o = (endsTo xs o xs.length).2 := by unfold endsOf; rw [show o.length = xs.length by omega]
  rw [← he, getD_of e2] at hs
  refine ⟨_, _, e1, e2, hs.1, by omega, hr.1, hr.2, ?_⟩
  show flowTo xs (endsOf xs o) k + ((endsOf xs o).getD k 0 - (xs.getD k default).Release) = _
  rw [getD_of e2, List.getD_eq_getElem?_getD, e1]; rfl
theorem u64i : (Try.prog.underlying 2).isSome = true := by rw [Try.underlying2]; rfl
theorem u64n : (Try.prog.underlying 3).isSome = true := by rw [Try.underlying3]; rfl

set_option maxHeartbeats 4000000 in
set_option maxRecDepth 100000 in
theorem specMeanFlow_any (B : Nat) (v1 v2 : Value) (xs : List JobD) (o : List Int) (w : World) (h1 : LstJob B w v1 xs) (h2 : LstI B w v2 o) (hB : B ≤ w.heap.size) :
    Calls Try.prog 41 #[v1, v2] w (MeanPost xs o w) := by
  have hC := Lib.hid (l02Can_any B v1 v2 xs o w h1 h2)
  cases hq : canDo xs o
  · have hP : Hid (∀ m, MeanPost xs o w (.returned (.tuple #[.float .f32 0, .bool false])) (w.drewN m)) := Lib.hid fun m => ⟨0, by rw [hq], by unfold meanRes; rw [hq]; exact Eqv.refl _ _, below_drawn w m⟩
    rw [hq] at hC
    generalize MeanPost xs o w = Q at *
    clear h1 h2 hq
    go_enter Try.func41, Try.ntmps41
    go_wp2_with fail
    refine (hC.out).mono ?_
    rintro e w' ⟨m, rfl, rfl⟩
    go_wp2_with fail
    exact hP.out _
  · have hq2 := hq
    simp only [canDo, Bool.and_eq_true] at hq2
    have hE := Lib.hid (fun m => l02Ends_any B v1 v2 xs o (w.drewN m) (LstJob.below h1 (Lst.Below.drewN (Below.refl B w) m) (Nat.le_refl _)) (h2.drewN m) hq2.1 hq2.2 hB)
    have h24 := (areJobs_of hq2.1).2.1
    have hK : Hid (∀ k, k < xs.length → _) := Lib.hid fun k (hk : k < xs.length) => flow_at hq hk
    have hP : Hid (∀ r w', Eqv Ieee.single r (fop .quo .f32 (floatOfInt .f32 (flowTo xs (endsOf xs o) xs.length)) (floatOfInt .f32 xs.length)) → Below w.heap.size w w' → MeanPost xs o w (.returned (.tuple #[.float .f32 r, .bool true])) w') := Lib.hid fun r w' he hb =>
      ⟨r, by rw [hq], by unfold meanRes; rw [hq, if_pos rfl]; exact he, hb⟩
    obtain ⟨a1, cap1, rfl, hl1, _, _, hc1⟩ := h1.at_
    have hC1 := Lib.hid hc1
    have hen := Lib.hid (endsOf_length xs o)
    rw [hq] at hC
    generalize MeanPost xs o w = Q at *
    generalize endsOf xs o = es at *
    clear h1 h2 hq hq2 hc1
    generalize xs.length = n at *
    go_enter Try.func41, Try.ntmps41
    go_wp2_with fail
    refine (hC.out).mono ?_
    rintro e w' ⟨m, rfl, rfl⟩
    go_wp2_with fail
    refine (hE.out _).mono ?_
    rintro e w2 ⟨v', rfl, ho, hb⟩
    have hB2 := Lib.hid ((below_drawn w m).trans hb)
    have hL := Lib.hid (show LstI w2.heap.size w2 v' es by
      have := hen.out
      subst this
      exact ho.lstI (Nat.le_refl _))
    clear ho hb
    obtain ⟨ae, cape, hve, hle, _, _, hce⟩ := hL.out.at_
    rw [hen.out] at hve hle hce
    subst hve
    have hCE := Lib.hid hce
    clear hce hL
    go_wp2_with fail
    go_loopw [7, 8] (fun sv ii wr => ∃ (k nd : Nat) (z : Int), k ≤ n ∧ ii = .int .i64 k ∧ sv = .int .i64 z ∧ Hid (z = flowTo xs es k) ∧ -10000 * k ≤ z ∧ z ≤ 250000 * k ∧ wr = w2.drewN nd) (fun _ ii _ => n - (intOf ii).toNat)
    case atStart => exact ⟨0, 0, 0, Nat.zero_le _, rfl, rfl, Lib.hid rfl, by omega, by omega, rfl⟩
    case round =>
      obtain ⟨k, nd, z, hk, rfl, rfl, hZ, z1, z2, rfl⟩ := hrel
      by_cases hlt : k < n
      · obtain ⟨x, en, hx, hes, e1, e2, r1, r2, hF⟩ := hK.out k hlt
        obtain ⟨b1, o1, x', rfl, hbB1, hx', _, p1, _, _⟩ := hC1.out k hlt
        obtain rfl : x' = x := by rw [hx] at hx'; exact (Option.some.inj hx').symm
        obtain ⟨b2, o2, e', rfl, hbB2, he', q0⟩ := hCE.out k hlt
        obtain rfl : e' = en := by rw [hes] at he'; exact (Option.some.inj he').symm
        rw [← hB2.out.cell (p := ⟨b1, o1 + k * 4 + 1, none⟩) (show b1 < w.heap.size by omega)] at p1
        rw [← World.cell?_drewN (n := nd)] at p1 q0
        generalize hwo : w2.drewN nd = wo at *
        have hWo := Lib.hid hwo
        have hZ2 := Lib.hid (show z + (e' - x'.Release) = flowTo xs es (k + 1) by rw [hF, hZ.out])
        have hw1 : IntKind.i64.wrap (e' - x'.Release) = e' - x'.Release := IntWalk.i64_in _ (by omega)
        have hw2 : IntKind.i64.wrap (z + (e' - x'.Release)) = z + (e' - x'.Release) := IntWalk.i64_in _ (by omega)
        clear hwo hx hx' hes he' hF hbB1 hbB2
        go_wp2_with fail
        go_quiet (fail)
        go_wp2_with fail
        go_roundw
        case rel => exact ⟨k + 1, _, _, by omega, by go_num, rfl, hZ2, by omega, by omega, by rw [← hWo.out, World.drewN_drewN]⟩
        case measure => simp [intOf]; omega
      · have hZ2 := Lib.hid (show z = flowTo xs es n by rw [hZ.out, show k = n by omega])
        go_wp2_with (refine wpList_farith rfl _ _ _ _ _ rfl _ _ _ rfl rfl (by rfl) ?_; intro r2 j hr hlt2; have hE2 := Lib.hid hr; clear hr hlt2)
        exact hP.out _ _ (by rw [← hZ2.out]; exact hE2.out) (by first | exact below_drew (below_drew hB2.out _) _ | exact below_drew hB2.out _)

set_option maxHeartbeats 4000000 in
set_option maxRecDepth 100000 in
theorem implMeanFlow_any (B : Nat) (v1 v2 : Value) (xs : List JobD) (o : List Int) (w : World) (h1 : LstJob B w v1 xs) (h2 : LstI B w v2 o) (hB : B ≤ w.heap.size) (hwf : ∀ x ∈ o, (Lit.int .i64 x).wf = true) :
    Calls Try.prog 42 #[v1, v2] w (MeanPost xs o w) := by
  have hE := Lib.hid (implEndsOf_any B v1 v2 xs o w h1 h2 hB hwf)
  cases hq : canDo xs o
  · have hP : Hid (∀ w', Below w.heap.size w w' → MeanPost xs o w (.returned (.tuple #[.float .f32 0, .bool false])) w') := Lib.hid fun w' hb => ⟨0, by rw [hq], by unfold meanRes; rw [hq]; exact Eqv.refl _ _, hb⟩
    have hE2 : Hid (∀ e w', EndsPost xs o w e w' → ∃ v', e = .returned (.tuple #[v', .bool false]) ∧ Below w.heap.size w w') := Lib.hid fun e w' ⟨v', he, _, hb⟩ => ⟨v', by rw [he, hq], hb⟩
    generalize MeanPost xs o w = Q at *
    generalize EndsPost xs o w = R at *
    clear h1 h2 hq
    go_enter Try.func42, Try.ntmps42
    go_wp2_with fail
    refine (hE.out).mono ?_
    intro e w1 he
    obtain ⟨v', rfl, hb⟩ := hE2.out e w1 he
    have hR := Lib.hid (hP.out w1 hb)
    clear he hb
    go_wp2_with fail
    exact hR.out
  · have hq2 := hq
    simp only [canDo, Bool.and_eq_true] at hq2
    have h24 := (areJobs_of hq2.1).2.1
    have hK : Hid (∀ k, k < xs.length → _) := Lib.hid fun k (hk : k < xs.length) => flow_at hq hk
    have hP : Hid (∀ r w', Eqv Ieee.single r (fop .quo .f32 (floatOfInt .f32 (flowTo xs (endsOf xs o) xs.length)) (floatOfInt .f32 xs.length)) → Below w.heap.size w w' → MeanPost xs o w (.returned (.tuple #[.float .f32 r, .bool true])) w') := Lib.hid fun r w' he hb =>
      ⟨r, by rw [hq], by unfold meanRes; rw [hq, if_pos rfl]; exact he, hb⟩
    have hE2 : Hid (∀ e w', EndsPost xs o w e w' → ∃ v', e = .returned (.tuple #[v', .bool true]) ∧ LstI w'.heap.size w' v' (endsOf xs o) ∧ Below w.heap.size w w') := Lib.hid fun e w' ⟨v', he, ho, hb⟩ => ⟨v', by rw [he, hq], by
      have h9 : endsRes xs o = endsOf xs o := by unfold endsRes; rw [hq, if_pos rfl]
      rw [h9] at ho
      exact ho.lstI (Nat.le_refl _), hb⟩
    obtain ⟨a1, cap1, rfl, hl1, _, _, hc1⟩ := h1.at_
    have hC1 := Lib.hid hc1
    have hen := Lib.hid (endsOf_length xs o)
    generalize MeanPost xs o w = Q at *
    generalize EndsPost xs o w = R at *
    generalize endsOf xs o = es at *
    clear h1 h2 hq hq2 hc1
    generalize xs.length = n at *
    go_enter Try.func42, Try.ntmps42
    go_wp2_with fail
    refine (hE.out).mono ?_
    intro e w2 he
    obtain ⟨v', rfl, hL0, hb⟩ := hE2.out e w2 he
    have hB2 := Lib.hid hb
    have hL := Lib.hid hL0
    clear he hb hL0
    obtain ⟨ae, cape, hve, hle, _, _, hce⟩ := hL.out.at_
    rw [hen.out] at hve hle hce
    subst hve
    have hCE := Lib.hid hce
    clear hce hL
    have hsz := hB2.out.size
    go_wp2_with fail
    go_loopw [8, 21] (fun sv ii wr => ∃ (k : Nat) (z : Int), k ≤ n ∧ ii = .int .i64 k ∧ sv = .int .i64 z ∧ Hid (z = flowTo xs es k) ∧ -10000 * k ≤ z ∧ z ≤ 250000 * k ∧ Hid (Below w2.heap.size w2 wr)) (fun _ ii _ => n - (intOf ii).toNat)
    case atStart => exact ⟨0, 0, Nat.zero_le _, rfl, rfl, Lib.hid rfl, by omega, by omega, Lib.hid (Below.refl _ _)⟩
    case round =>
      obtain ⟨k, z, hk, rfl, rfl, hZ, z1, z2, hBr⟩ := hrel
      by_cases hlt : k < n
      · obtain ⟨x, en, hx, hes, e1, e2, r1, r2, hF⟩ := hK.out k hlt
        obtain ⟨b1, o1, x', rfl, hbB1, hx', p0, p1, p2, p3⟩ := hC1.out k hlt
        obtain rfl : x' = x := by rw [hx] at hx'; exact (Option.some.inj hx').symm
        obtain ⟨b2, o2, e', rfl, hbB2, he', q0⟩ := hCE.out k hlt
        obtain rfl : e' = en := by rw [hes] at he'; exact (Option.some.inj he').symm
        have hbw := hBr.out.size
        rw [← hB2.out.cell (p := ⟨b1, o1 + k * 4, none⟩) (show b1 < w.heap.size by omega), ← hBr.out.cell (p := ⟨b1, o1 + k * 4, none⟩) (show b1 < w2.heap.size by omega)] at p0
        rw [← hB2.out.cell (p := ⟨b1, o1 + k * 4 + 1, none⟩) (show b1 < w.heap.size by omega), ← hBr.out.cell (p := ⟨b1, o1 + k * 4 + 1, none⟩) (show b1 < w2.heap.size by omega)] at p1
        rw [← hB2.out.cell (p := ⟨b1, o1 + k * 4 + 2, none⟩) (show b1 < w.heap.size by omega), ← hBr.out.cell (p := ⟨b1, o1 + k * 4 + 2, none⟩) (show b1 < w2.heap.size by omega)] at p2
        rw [← hB2.out.cell (p := ⟨b1, o1 + k * 4 + 3, none⟩) (show b1 < w.heap.size by omega), ← hBr.out.cell (p := ⟨b1, o1 + k * 4 + 3, none⟩) (show b1 < w2.heap.size by omega)] at p3
        rw [← hBr.out.cell (p := ⟨b2, o2 + k, none⟩) hbB2] at q0
        have hb2w : b2 < wr.heap.size := by omega
        have hb1w : b1 < wr.heap.size := by omega
        have hZ2 := Lib.hid (show z + (e' - x'.Release) = flowTo xs es (k + 1) by rw [hF, hZ.out])
        have hw1 : IntKind.i64.wrap (e' - x'.Release) = e' - x'.Release := IntWalk.i64_in _ (by omega)
        have hw2 : IntKind.i64.wrap (z + (e' - x'.Release)) = z + (e' - x'.Release) := IntWalk.i64_in _ (by omega)
        clear hx hx' hes he' hF hbB1 hbB2 hbw
        go_wp2_with fail
        try go_quiet (fail)
        go_wp2_with fail
        go_roundw
        case rel => exact ⟨k + 1, _, by omega, by go_num, rfl, hZ2, by omega, by omega, Lib.hid (by first | exact below_drew (below_alloc hBr.out _) _ | exact below_alloc hBr.out _)⟩
        case measure => simp [intOf]; omega
      · have hZ2 := Lib.hid (show z = flowTo xs es n by rw [hZ.out, show k = n by omega])
        have hBB := Lib.hid (below_on hB2.out (Nat.le_refl _) hBr.out)
        go_wp2_with (refine wpList_farith rfl _ _ _ _ _ rfl _ _ _ rfl rfl (by rfl) ?_; intro r2 j hr hlt2; have hE2 := Lib.hid hr; clear hr hlt2)
        exact hP.out _ _ (by rw [← hZ2.out]; exact hE2.out) (by first | exact below_drew (below_drew hBB.out _) _ | exact below_drew hBB.out _)
theorem meanFlow_both (xs : List JobD) (o : List Int) (_ : ∀ y ∈ xs, y.wf) (hw : ∀ x ∈ o, (Lit.int .i64 x).wf = true) : ∃ (r0 : Nat) (r1 : Bool),
    (∀ (B : Nat) (v1 v2 : Value) (w : World), LstJob B w v1 xs → LstI B w v2 o → B ≤ w.heap.size → Calls Try.prog 41 #[v1, v2] w fun e w' => ∃ z : Nat, e = .returned (.tuple #[.float .f32 z, .bool r1]) ∧ Eqv Ieee.single z r0 ∧ Below w.heap.size w w') ∧
    (∀ (B : Nat) (v1 v2 : Value) (w : World), LstJob B w v1 xs → LstI B w v2 o → B ≤ w.heap.size → Calls Try.prog 42 #[v1, v2] w fun e w' => ∃ z : Nat, e = .returned (.tuple #[.float .f32 z, .bool r1]) ∧ Eqv Ieee.single z r0 ∧ Below w.heap.size w w') :=
  ⟨meanRes xs o, canDo xs o, fun B v1 v2 w h1 h2 hB => specMeanFlow_any B v1 v2 xs o w h1 h2 hB, fun B v1 v2 w h1 h2 hB => implMeanFlow_any B v1 v2 xs o w h1 h2 hB hw⟩
end Go.Proofs.Ytonokdbkjeoklaa
