/- Contracts: which lists are tasks, in the model and in the program. -/
import Derived.Test.YtdggbjpfllnenaaAreTasks
namespace Go.Proofs.Ytdggbjpfllnenaa
open Go.RowKit Go.Lst

set_option maxHeartbeats 2000000 in
theorem l03Are_any (B : Nat) (v : Value) (xs : List TaskD) (w : World) (h : LstTask B w v xs) :
    Calls Try.prog 22 #[v] w (Ret (.bool (areTasks xs)) w) := by
  obtain ⟨a, cap, rfl, hl, _, _, hc⟩ := h.at_
  have hN : Hid (∀ k, k = xs.length → (∀ (i : Nat) (x : TaskD), i < k → xs[i]? = some x → okTask x i = true) → areTasks xs = (decide (1 ≤ xs.length) && decide (xs.length ≤ 16))) := Lib.hid fun k hk hp => by
    unfold areTasks
    rw [List.all_eq_true.2 fun i hi => by
      have hi := List.mem_range.1 hi
      have e : xs[i]? = some xs[i] := List.getElem?_eq_getElem hi
      rw [getD_some e]
      exact hp i _ (by omega) e]
    rw [Bool.and_true]
  have hM : Hid (∀ (i : Nat) (x : TaskD), xs[i]? = some x → okTask x i = false → areTasks xs = false) := Lib.hid fun i x hx hq => areTasks_not fun h => by
    have := okTask_iff.2 (h.each i x hx)
    rw [hq] at this; cases this
  have hC := Lib.hid hc
  clear hc h
  generalize xs.length = n at *
  unfold maxLen at hl
  go_enter Try.func22, Try.ntmps22
  go_wp2_with fail
  go_loopw [6] (fun i wr => ∃ k m : Nat, k ≤ n ∧ i = .int .i64 k ∧ Hid (∀ (i : Nat) (x : TaskD), i < k → xs[i]? = some x → okTask x i = true) ∧ wr = w.drewN m) (fun i _ => n - (intOf i).toNat)
  case atStart => exact ⟨0, 0, Nat.zero_le _, rfl, Lib.hid (fun i x hi _ => by omega), rfl⟩
  case round =>
    obtain ⟨k, m, hk, rfl, hP, rfl⟩ := hrel
    by_cases hlt : k < n
    · obtain ⟨b, o, x, vb, vl, rfl, _, hx, h0, h1, h2, h3, l0, l1⟩ := hC.out k hlt
      have hXx := Lib.hid hx
      clear hx
      rw [← World.cell?_drewN (n := m)] at h0 h1 h2 h3
      have hJ := Lib.hid (l03Task_any B b (o + k * 4) x vb vl k _ h0 h1 h2 h3 (l0.drewN m) (l1.drewN m) (by omega) (by omega))
      clear h0 h1 h2 h3 l0 l1
      cases hq : okTask x k
      · have hF := Lib.hid (hM.out k x hXx.out hq)
        have hQ := Lib.hid hq
        clear hq
        go_wp2_with fail
        refine (hJ.out).mono ?_
        rw [hQ.out]
        rintro e w' ⟨j, rfl, rfl⟩
        go_wp2_with fail
        go_ret
        exact ⟨_, by rw [hF.out]; rfl, by first | rfl | exact World.drewN_drewN ..⟩
      · have hP2 : Hid (∀ (i : Nat) (y : TaskD), i < k + 1 → xs[i]? = some y → okTask y i = true) := Lib.hid fun i y hi hy => by
          by_cases h1 : i < k
          · exact hP.out i y h1 hy
          · have : i = k := by omega
            subst this
            rw [hXx.out] at hy
            cases hy
            exact hq
        have hQ := Lib.hid hq
        clear hq
        go_wp2_with fail
        refine (hJ.out).mono ?_
        rw [hQ.out]
        rintro e w' ⟨j, rfl, rfl⟩
        go_wp2_with fail
        go_roundw
        case rel => exact ⟨k + 1, _, by omega, by go_num, hP2, by first | rfl | exact World.drewN_drewN ..⟩
        case measure => simp [intOf]; omega
    · have hF := Lib.hid (hN.out k (by omega) hP.out)
      by_cases h1 : 1 ≤ n
      · by_cases h2 : n ≤ 16
        · have hV := Lib.hid (show areTasks xs = true by rw [hF.out]; simp [h1, h2])
          go_wp2
          go_ret
          exact ⟨_, ret_bool (by first | (rw [hV.out]; done) | (rw [hV.out]; simp; omega) | (rw [hV.out]; simp)), rfl⟩
        · have hV := Lib.hid (show areTasks xs = false by rw [hF.out]; simp [h2])
          go_wp2
          go_ret
          exact ⟨_, ret_bool (by first | (rw [hV.out]; done) | (rw [hV.out]; simp; omega) | (rw [hV.out]; simp)), rfl⟩
      · have hV := Lib.hid (show areTasks xs = false by rw [hF.out]; simp [h1])
        go_wp2
        go_ret
        exact ⟨_, ret_bool (by first | (rw [hV.out]; done) | (rw [hV.out]; simp; omega) | (rw [hV.out]; simp)), rfl⟩

set_option maxHeartbeats 2000000 in
theorem isTask_any (B : Nat) (x : TaskD) (vb vl : Value) (idx : Int) (w : World) (hb : LstI B w vb x.Before) (hl : LstI B w vl x.Lags) (hB : B ≤ w.heap.size) (i0 : 0 ≤ idx) (i1 : idx ≤ 9223372036854775807) :
    Calls Try.prog 31 #[.agg #[.int .i64 x.Time, .int .i64 x.Needs, vb, vl], .int .i64 idx] w fun e w' => e = .returned (.bool (okTask x idx)) ∧ Below w.heap.size w w' := by
  obtain ⟨a1, n1, rfl, hm1, _, _, hC1⟩ := hb.at_
  obtain ⟨a2, n2, rfl, hm2, _, _, hC2⟩ := hl.at_
  have D1 := Lib.hid hC1
  have hLl := Lib.hid hl
  have hNo : Hid (¬ OkTask x idx → okTask x idx = false) := Lib.hid okTask_not
  have hYes : Hid (OkTask x idx → okTask x idx = true) := Lib.hid okTask_iff.2
  clear hC1 hC2 hb hl
  unfold maxLen at hm1 hm2
  have hW := Lib.hid (show Below w.heap.size w (w.alloc (Obj.cells #[Value.int .i64 x.Time, .int .i64 x.Needs, .slice a1 x.Before.length n1, .slice a2 x.Lags.length n2] 45)) from below_alloc (Below.refl _ _) _)
  cases hT : inB x.Time 0 100
  · have hF := Lib.hid (hNo.out fun h => by have := inB_false hT; have := h.time; omega)
    go_enter Try.func31, Try.ntmps31
    go_wp2_with (go_at_call 32; refine (isWithin_any _ _ _ _).mono ?_; rintro e w' ⟨rfl, rfl⟩)
    go_ret
    exact ⟨ret_bool (by rw [hF.out]), hW.out⟩
  cases hNd : inB x.Needs 0 20
  · have hF := Lib.hid (hNo.out fun h => by have := inB_false hNd; have := h.needs; omega)
    go_enter Try.func31, Try.ntmps31
    go_wp2_with (go_at_call 32; refine (isWithin_any _ _ _ _).mono ?_; rintro e w' ⟨rfl, rfl⟩)
    go_ret
    exact ⟨ret_bool (by rw [hF.out]), hW.out⟩
  by_cases hlen : x.Before.length = x.Lags.length
  case neg =>
    have hF := Lib.hid (hNo.out fun h => hlen h.len)
    go_enter Try.func31, Try.ntmps31
    go_wp2_with (go_at_call 32; refine (isWithin_any _ _ _ _).mono ?_; rintro e w' ⟨rfl, rfl⟩)
    go_ret
    exact ⟨ret_bool (by rw [hF.out]), hW.out⟩
  have hLall : allIn x.Lags (-100) 100 = true ↔ ∀ k, k < x.Before.length → -100 ≤ lAt x k ∧ lAt x k ≤ 100 := by
    constructor
    · intro h k hk
      have e : x.Lags[k]? = some x.Lags[k] := List.getElem?_eq_getElem (by omega)
      rw [lAt, getD_some e]
      exact allIn_of h e
    · intro h
      exact all_upto fun i y hi hy => by
        have := h i (by omega)
        rw [lAt, getD_some hy] at this
        simp [inB, this]
  cases hLg : allIn x.Lags (-100) 100
  · have hF := Lib.hid (hNo.out fun h => by have := hLall.2 h.lags; rw [hLg] at this; cases this)
    have hQ := Lib.hid (areWithin_any B (.slice a2 x.Lags.length n2) x.Lags (-100) 100 _ (hLl.out.below hW.out hB).lst)
    rw [hLg] at hQ
    rw [← hlen] at hQ hW ⊢
    clear hlen hLall
    go_enter Try.func31, Try.ntmps31
    go_wp2_with (first | (go_at_call 32; refine (isWithin_any _ _ _ _).mono ?_; rintro e w' ⟨rfl, rfl⟩) | (go_at_call 28; refine (hQ.out).mono ?_; rintro e w' ⟨rfl, rfl⟩))
    go_ret
    exact ⟨ret_bool (by rw [hF.out]), hW.out⟩
  have hQ := Lib.hid (areWithin_any B (.slice a2 x.Lags.length n2) x.Lags (-100) 100 _ (hLl.out.below hW.out hB).lst)
  rw [hLg] at hQ
  have hTT := Lib.hid (inB_true hT)
  have hNN := Lib.hid (inB_true hNd)
  have hLL := Lib.hid (hLall.1 hLg)
  have hLen := Lib.hid hlen
  have hY2 : Hid ((∀ k, k < x.Before.length → 0 ≤ bAt x k ∧ bAt x k ≤ idx - 1 ∧ (0 < k → bAt x (k - 1) < bAt x k)) → okTask x idx = true) := Lib.hid fun h => hYes.out ⟨hTT.out, hNN.out, hLen.out, h, hLL.out⟩
  have hN2 : Hid (∀ k, k < x.Before.length → ¬ (0 ≤ bAt x k ∧ bAt x k ≤ idx - 1 ∧ (0 < k → bAt x (k - 1) < bAt x k)) → okTask x idx = false) := Lib.hid fun k hk hn => hNo.out fun h => hn (h.before k hk)
  have E1 : Hid (∀ k, k < x.Before.length → ∃ b o, a1 = some ⟨b, o, none⟩ ∧ b < w.heap.size ∧ w.cell? ⟨b, o + k, none⟩ = some (.int .i64 (bAt x k))) := Lib.hid fun k hk => by
    obtain ⟨b, o, y, e1, e0, e2, e3⟩ := D1.out k hk
    exact ⟨b, o, e1, by omega, by rw [e3, bAt, getD_some e2]⟩
  rw [← hlen] at hQ hW ⊢
  clear hlen hLall hLg hNo hYes D1 hLl hLen hTT hNN hLL
  generalize x.Before.length = n at *
  go_enter Try.func31, Try.ntmps31
  go_wp2_with (first | (go_at_call 32; refine (isWithin_any _ _ _ _).mono ?_; rintro e w' ⟨rfl, rfl⟩) | (go_at_call 28; refine (hQ.out).mono ?_; rintro e w' ⟨rfl, rfl⟩))
  clear hQ
  generalize World.alloc w _ = w0 at *
  clear hT hNd
  have hw1 : IntKind.i64.wrap (idx - 1) = idx - 1 := IntWalk.i64_in _ (by omega)
  go_loopw [5, 34] (fun z i wr => ∃ (k : Nat) (lo : Int), k ≤ n ∧ i = .int .i64 k ∧ z = .int .i64 lo ∧ Hid (lo = if k = 0 then 0 else bAt x (k - 1) + 1) ∧ Hid (∀ j, j < k → 0 ≤ bAt x j ∧ bAt x j ≤ idx - 1 ∧ (0 < j → bAt x (j - 1) < bAt x j)) ∧ wr = w0) (fun _ i _ => n - (intOf i).toNat)
  case atStart => exact ⟨0, 0, Nat.zero_le _, rfl, rfl, Lib.hid rfl, Lib.hid (fun j hj => absurd hj (Nat.not_lt_zero _)), rfl⟩
  case round =>
    obtain ⟨k, lo, hk, rfl, rfl, hlo, hP, rfl⟩ := hrel
    by_cases hlt : k < n
    · obtain ⟨b1, o1, rfl, b1lt, c1⟩ := E1.out k hlt
      rw [← hW.out.cell (p := ⟨b1, o1 + k, none⟩) b1lt] at c1
      clear b1lt
      cases hq1 : inB (bAt x k) lo (idx - 1)
      · have hF := Lib.hid (hN2.out k hlt fun h => by
          have h1 := inB_false hq1
          have h2 := hlo.out
          have h3 := h.2.2
          split at h2 <;> omega)
        go_wp2_with (go_at_call 32; refine (isWithin_any _ _ _ _).mono ?_; rintro e w' ⟨rfl, rfl⟩)
        go_ret
        exact ⟨ret_bool (by rw [hF.out]), hW.out⟩
      · have hb1 := inB_true hq1
        have hb0 : 0 ≤ bAt x k := by
          have h2 := hlo.out
          split at h2
          · omega
          · have := (hP.out (k - 1) (by omega)).1; omega
        have hP2 : Hid (∀ j, j < k + 1 → 0 ≤ bAt x j ∧ bAt x j ≤ idx - 1 ∧ (0 < j → bAt x (j - 1) < bAt x j)) := Lib.hid fun j hj => by
          by_cases h1 : j < k
          · exact hP.out j h1
          · have : j = k := by omega
            subst this
            refine ⟨hb0, hb1.2, fun h0 => ?_⟩
            have h2 := hlo.out
            rw [if_neg (by omega)] at h2
            omega
        obtain ⟨hb2, hb3⟩ := hb1
        go_wp2_with (go_at_call 32; refine (isWithin_any _ _ _ _).mono ?_; rintro e w' ⟨rfl, rfl⟩)
        go_roundw
        case rel => exact ⟨k + 1, _, by omega, by go_num, rfl, Lib.hid (by rw [if_neg (by omega), Nat.add_sub_cancel]), hP2, by trivial⟩
        case measure => simp [intOf]; omega
    · have hF := Lib.hid (hY2.out fun j hj => hP.out j (by omega))
      go_wp2_with fail
      go_ret
      exact ⟨ret_bool (by rw [hF.out]), hW.out⟩

set_option maxHeartbeats 2000000 in
theorem areTasks_any (B : Nat) (v : Value) (xs : List TaskD) (w : World) (h : LstTask B w v xs) (hB : B ≤ w.heap.size) :
    Calls Try.prog 27 #[v] w fun e w' => e = .returned (.bool (areTasks xs)) ∧ Below w.heap.size w w' := by
  obtain ⟨a, cap, rfl, hl, _, _, hc⟩ := h.at_
  by_cases hlo : xs.length < 1
  · have hV := Lib.hid (show areTasks xs = false from areTasks_not fun h => by have := h.some_; omega)
    generalize xs.length = n at *
    unfold maxLen at hl
    go_enter Try.func27, Try.ntmps27
    go_wp2_with fail
    go_ret
    exact ⟨ret_bool (by rw [hV.out]), Below.refl _ _⟩
  by_cases hhi : 16 < xs.length
  · have hV := Lib.hid (show areTasks xs = false from areTasks_not fun h => by have := h.most; omega)
    generalize xs.length = n at *
    unfold maxLen at hl
    go_enter Try.func27, Try.ntmps27
    go_wp2_with fail
    go_ret
    exact ⟨ret_bool (by rw [hV.out]), Below.refl _ _⟩
  have hN : Hid (∀ k, k = xs.length → (∀ (i : Nat) (x : TaskD), i < k → xs[i]? = some x → okTask x i = true) → areTasks xs = true) := Lib.hid fun k hk hp => areTasks_iff.2 ⟨by omega, by omega, fun i x hx => okTask_iff.1 (hp i x (by have := (List.getElem?_eq_some_iff.1 hx).1; omega) hx)⟩
  have hM : Hid (∀ (i : Nat) (x : TaskD), xs[i]? = some x → okTask x i = false → areTasks xs = false) := Lib.hid fun i x hx hq => areTasks_not fun h => by
    have := okTask_iff.2 (h.each i x hx)
    rw [hq] at this; cases this
  have hC := Lib.hid hc
  clear hc h
  generalize xs.length = n at *
  unfold maxLen at hl
  go_enter Try.func27, Try.ntmps27
  go_wp2_with fail
  clear hlo hhi
  go_loopw [15] (fun i wr => ∃ k : Nat, k ≤ n ∧ i = .int .i64 k ∧ Hid (∀ (i : Nat) (x : TaskD), i < k → xs[i]? = some x → okTask x i = true) ∧ Hid (Below w.heap.size w wr)) (fun i _ => n - (intOf i).toNat)
  case atStart => exact ⟨0, Nat.zero_le _, rfl, Lib.hid (fun i x hi _ => by omega), Lib.hid (Below.refl _ _)⟩
  case round =>
    obtain ⟨k, hk, rfl, hP, hB1⟩ := hrel
    by_cases hlt : k < n
    · obtain ⟨b, o, x, vb, vl, rfl, hb, hx, h0, h1, h2, h3, l0, l1⟩ := hC.out k hlt
      have hXx := Lib.hid hx
      rw [← hB1.out.cell (p := ⟨b, o + k * 4, none⟩) (show b < w.heap.size by omega)] at h0
      rw [← hB1.out.cell (p := ⟨b, o + k * 4 + 1, none⟩) (show b < w.heap.size by omega)] at h1
      rw [← hB1.out.cell (p := ⟨b, o + k * 4 + 2, none⟩) (show b < w.heap.size by omega)] at h2
      rw [← hB1.out.cell (p := ⟨b, o + k * 4 + 3, none⟩) (show b < w.heap.size by omega)] at h3
      obtain ⟨ab, nb, rfl, _⟩ := id l0
      obtain ⟨al, nl, rfl, _⟩ := id l1
      have L0 := Lib.hid l0
      have L1 := Lib.hid l1
      clear hx hb l0 l1
      go_wp2_with fail
      generalize hw2 : World.alloc wr _ = w2
      have hB2 := Lib.hid (show Below w.heap.size w w2 by rw [← hw2]; exact below_alloc hB1.out _)
      clear hw2 hB1
      refine (isTask_any B x _ _ k w2 (L0.out.below hB2.out hB) (L1.out.below hB2.out hB) (Nat.le_trans hB hB2.out.size) (by omega) (by omega)).mono ?_
      rintro e w3 ⟨rfl, hb3⟩
      have hB3 := Lib.hid (below_on hB2.out (Nat.le_refl _) hb3)
      clear hb3 hB2
      cases hq : okTask x k
      · have hF := Lib.hid (hM.out k x hXx.out hq)
        go_wp2_with fail
        go_ret
        exact ⟨ret_bool (by rw [hF.out]), hB3.out⟩
      · have hP2 : Hid (∀ (i : Nat) (y : TaskD), i < k + 1 → xs[i]? = some y → okTask y i = true) := Lib.hid fun i y hi hy => by
          by_cases h1 : i < k
          · exact hP.out i y h1 hy
          · have : i = k := by omega
            subst this
            rw [hXx.out] at hy
            cases hy
            exact hq
        go_wp2_with fail
        go_roundw
        case rel => exact ⟨k + 1, by omega, by go_num, hP2, hB3⟩
        case measure => simp [intOf]; omega
    · have hF := Lib.hid (hN.out k (by omega) hP.out)
      go_wp2
      go_ret
      exact ⟨ret_bool (by rw [hF.out]), hB1.out⟩

end Go.Proofs.Ytdggbjpfllnenaa
