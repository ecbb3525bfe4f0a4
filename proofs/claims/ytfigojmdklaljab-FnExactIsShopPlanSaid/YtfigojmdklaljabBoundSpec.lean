/- Contracts: the model's bound by jobs and machines. -/
import Derived.Test.YtfigojmdklaljabBoundPure
import Derived.Test.YtfigojmdklaljabMake
import Derived.Test.YtfigojmdklaljabCount
import Derived.StillTailTactics
namespace Go.Proofs.Ytfigojmdklaljab
open Go.RowKit Go.Lst

set_option maxHeartbeats 2000000 in
theorem l04Job_any (B b1 o1 cap1 : Nat) (ts : List Int) (m n i : Nat) (w : World) (h1 : LstI B w (.slice (some ⟨b1, o1, none⟩) (n * m) cap1) ts) (hm1 : 1 ≤ m) (hm8 : m ≤ 8) (hn24 : n ≤ 24) (hlen : ts.length = n * m)
    (ht : ∀ (i : Nat) (x : Int), ts[i]? = some x → 1 ≤ x ∧ x ≤ 10000) (hi : i < n) :
    Calls Try.prog 100 #[.slice (some ⟨b1, o1, none⟩) (n * m) cap1, .int .i64 m, .int .i64 (i : Int)] w fun e w' => e = .returned (.int .i64 (jobSum ts m i)) ∧ w = w' := by
  have hmn := mul_le24 hn24 hm8
  have hfit := row_fit (m := m) hi
  obtain ⟨_, _, hv1, hl1, hcap1, hcm1, _⟩ := h1.at_
  injection hv1 with e1 e2 e3
  subst e1 e3
  have hrl := rowOf_length (ts := ts) hlen hi
  have hS := Lib.hid (l02Sum_any B (.slice (some ⟨b1, o1 + i * m, none⟩) m (cap1 - i * m)) (rowOf ts m i) 0 w (lstI_part h1 (i * m) m (cap1 - i * m) (by omega) (by omega) (by omega)) (fun k hk => by
    have := partOf_bound ht hlen hi k (by omega)
    unfold partOf at this
    omega) (fun q x hx => by
    have hq : q < m := by have := (List.getElem?_eq_some_iff.1 hx).1; omega
    have h2 := rowOf_getD ts (i := i) hq
    rw [getD_of hx] at h2
    have := all_at ht (k := i * m + q) (by omega)
    omega))
  rw [hrl] at hS
  have hM1 : IntKind.i64.wrap ((i : Int) * (m : Int)) = ((i * m : Nat) : Int) := by
    rw [Int.natCast_mul]
    exact IntWalk.i64_in _ (by rw [← Int.natCast_mul]; omega)
  have hM2 : IntKind.i64.wrap (((i : Int) + 1) * (m : Int)) = ((i * m + m : Nat) : Int) := by
    have e : ((i : Int) + 1) * (m : Int) = ((i * m + m : Nat) : Int) := by rw [Int.add_mul, Int.one_mul]; omega
    rw [e]
    exact IntWalk.i64_in _ (by omega)
  have hR : Hid (jobSum ts m i = sumTo (rowOf ts m i) m) := Lib.hid rfl
  have hsub : i * m + m - i * m = m := by omega
  have hne : cap1 ≠ i * m := by omega
  generalize sumTo (rowOf ts m i) m = z at *
  generalize hr : i * m + m = r at *
  generalize hp : i * m = p at *
  generalize n * m = L at *
  have hpr : p ≤ r ∧ r ≤ cap1 := by omega
  clear h1 hrl ht hlen
  go_enter Try.func100, Try.ntmps100
  go_wp2_with (go_at_call 122; (with_reducible refine (hS.out).mono ?_); rintro e w' ⟨rfl, rfl⟩)
  go_ret
  exact ⟨ret_int hR.out.symm, rfl⟩
set_option maxHeartbeats 8000000 in
set_option maxRecDepth 100000 in
theorem l04BoundE_any (B b1 o1 cap1 : Nat) (ts : List Int) (m n : Nat) (w : World) (h1 : LstI B w (.slice (some ⟨b1, o1, none⟩) (n * m) cap1) ts) (b0 : Nat) (hB : B ≤ w.heap.size) (hm1 : 1 ≤ m) (hm8 : m ≤ 8) (hn1 : 1 ≤ n) (hn24 : n ≤ 24) (hlen : ts.length = n * m)
    (ht : ∀ (i : Nat) (x : Int), ts[i]? = some x → 1 ≤ x ∧ x ≤ 10000) :
    Calls Try.prog 44 #[.slice (some ⟨b1, o1, none⟩) (n * m) cap1, .slice (some ⟨b0, 0, none⟩) 0 0, .int .i64 m] w fun e w' => e = .returned (.int .i64 (loadB ts (sameWay m ts.length) m n)) ∧ Below w.heap.size w w' := by
  have hmn := mul_le24 hn24 hm8
  have hL1 : 1 ≤ ts.length := by rw [hlen]; exact Nat.mul_pos hn1 hm1
  obtain ⟨_, _, hv1, hl1, hcap1, hcm1, hc1⟩ := h1.at_
  injection hv1 with e1 e2 e3
  subst e1 e3
  have hbB : b1 < B := by
    obtain ⟨b, o', _, hh, hlt, _⟩ := hc1 0 (by omega)
    injection hh with hh; injection hh with q1 q2 q3
    omega
  have hCell : Hid (∀ q, q < ts.length → w.cell? ⟨b1, o1 + q, none⟩ = some (.int .i64 (ts.getD q 0))) := Lib.hid fun q hq => by
    obtain ⟨b, o', x, hh, _, hx, hcc⟩ := hc1 q hq
    injection hh with hh; injection hh with q1 q2 q3
    subst q1 q2
    rw [hcc, getD_of hx]
  have hWy : Hid (∀ i q, q < m → i * m + q < ts.length → (sameWay m ts.length)[i * m + q]? = some ((q : Nat) : Int)) := Lib.hid fun i q hq hs => by
    rw [sameWay_get hs, Nat.mul_comm, Nat.mul_add_mod, Nat.mod_eq_of_lt hq]
  have hAt : Hid (∀ q, q < ts.length → 1 ≤ ts.getD q 0 ∧ ts.getD q 0 ≤ 10000) := Lib.hid fun q hq => all_at ht hq
  have hMl := Lib.hid (machTo_length ts (sameWay m ts.length) m)
  have hMs : Hid (∀ s, s ≤ ts.length → Small (machTo ts (sameWay m ts.length) m s) (10000 * s)) := Lib.hid fun s hs => machTo_small ht s hs
  have hMo : Hid (∀ k, k ≤ n → 0 ≤ mostTo ts m k ∧ mostTo ts m k ≤ 80000) := Lib.hid fun k hk => mostTo_bound hm8 ht hlen k hk
  have hMt : Hid (∀ k, mostTo ts m (k + 1) = max (mostTo ts m k) (jobSum ts m k)) := Lib.hid fun k => rfl
  have hCnt := Lib.hid (fun w' => l04Count_any (some ⟨b1, o1, none⟩) m n cap1 w' hm1 hmn)
  have hJob : Hid (∀ i w', i < n → Below w.heap.size w w' → Calls Try.prog 100 #[.slice (some ⟨b1, o1, none⟩) (n * m) cap1, .int .i64 m, .int .i64 (i : Int)] w' fun e w'' => e = .returned (.int .i64 (jobSum ts m i)) ∧ w' = w'') := Lib.hid fun i w' hi hb =>
    l04Job_any B b1 o1 cap1 ts m n i w' (h1.below hb hB) hm1 hm8 hn24 hlen ht hi
  have hRF : Hid (∀ k, k < n → k * m + m ≤ ts.length) := Lib.hid fun k hk => by rw [hlen]; exact row_fit hk
  have hMu : Hid (∀ k, k < n → IntKind.i64.wrap ((k : Int) * (m : Int)) = ((k * m : Nat) : Int)) := Lib.hid fun k hk => by
    rw [Int.natCast_mul]
    exact IntWalk.i64_in _ (by have := mul_le24 (show k ≤ 24 by omega) hm8; rw [← Int.natCast_mul]; omega)
  have hNm : Hid (∀ k, (k + 1) * m = k * m + m) := Lib.hid fun k => by rw [Nat.add_mul, Nat.one_mul]
  have hEnd : Hid (loadB ts (sameWay m ts.length) m n = max (mostTo ts m n) (maxTo (machTo ts (sameWay m ts.length) m (n * m)) (m - 1))) := Lib.hid rfl
  have hL192 : ts.length ≤ 192 := by omega
  obtain ⟨i0, hi, hz0, hz1, hz2⟩ := info_parts infoI
  have hmkM := make_ints 22 i0 Try.underlying22 hi hz0 hz1 hz2 m (by omega)
  rw [← hlen] at hCnt hJob ⊢
  generalize loadB ts (sameWay m ts.length) m n = res at *
  generalize sameWay m ts.length = rt at *
  clear h1 hc1 ht hmn e2 
  generalize hLL : ts.length = L at *
  have hLE := Lib.hid hlen
  clear hlen hLL
  unfold maxLen at hl1
  go_enter Try.func44, Try.ntmps44
  go_wp2_with fail
  have hF0 := made_row w m (by omega)
  have hB0 := below_alloc (Below.refl w.heap.size w) (.cells (madeCells (Value.int .i64 0).cells m) 2)
  have hz := alloc_size w (.cells (madeCells (Value.int .i64 0).cells m) 2)
  have hF1 := Lib.hid (show (w.alloc (.cells (madeCells #[Value.int .i64 0] m) 2)).ownsRow w.heap.size 2 1 (.slice (some ⟨w.heap.size, 0, none⟩) m m) m ((machTo ts rt m (0 * m)).map (Value.int .i64)) by rw [Nat.zero_mul]; exact hF0)
  have hB1 := Lib.hid (show Below w.heap.size w (w.alloc (.cells (madeCells #[Value.int .i64 0] m) 2)) from hB0)
  have z1 : w.heap.size < (w.alloc (.cells (madeCells #[Value.int .i64 0] m) 2)).heap.size := by rw [alloc_size]; omega
  clear hF0 hB0 hz hmkM
  generalize w.alloc _ = w1 at *
  generalize hgg : w.heap.size = g at *
  have hGG := Lib.hid hgg
  clear hgg
  go_loopw [8, 9] (fun mv iv wr => ∃ (i : Nat), i ≤ n ∧ iv = .int .i64 i ∧ mv = .int .i64 (mostTo ts m i) ∧ Hid (wr.ownsRow g 2 1 (.slice (some ⟨g, 0, none⟩) m m) m ((machTo ts rt m (i * m)).map (Value.int .i64))) ∧ Hid (Below g w wr) ∧ g < wr.heap.size) (fun _ iv _ => n - (intOf iv).toNat)
  case atStart => exact ⟨0, Nat.zero_le _, rfl, rfl, hF1, hB1, z1⟩
  case round =>
    clear hF1 hB1 z1
    obtain ⟨i, hi, rfl, rfl, hF, hB, z1⟩ := hrel
    by_cases hlt : i < n
    · obtain ⟨y0, y1⟩ := hMo.out i (by omega)
      have hfit := hRF.out i hlt
      have hmul := hMu.out i hlt
      have hJb := Lib.hid (fun hb => hJob.out i wr hlt hb)
      have hMT := Lib.hid (hMt.out i)
      have hNx := Lib.hid (hNm.out i)
      generalize hp : i * m = p at *
      generalize hmi : mostTo ts m i = mi at *
      go_wp2_with (first | (go_at_call 60; (with_reducible refine (hCnt.out _).mono ?_); rintro e w' ⟨rfl, rfl⟩) | (go_at_call 100; (with_reducible refine (hJb.out hB.out).mono ?_); rintro e w' ⟨rfl, rfl⟩) | (go_at_call 79; (with_reducible refine (l00Max_any _ _ _).mono ?_); rintro e w' ⟨rfl, rfl⟩))
      go_loopw [10] (fun qv wr => ∃ (q : Nat), q ≤ m ∧ qv = .int .i64 q ∧ Hid (wr.ownsRow g 2 1 (.slice (some ⟨g, 0, none⟩) m m) m ((machTo ts rt m (p + q)).map (Value.int .i64))) ∧ Hid (Below g w wr) ∧ g < wr.heap.size) (fun qv _ => m - (intOf qv).toNat)
      case atStart => exact ⟨0, Nat.zero_le _, rfl, hF, hB, z1⟩
      case round =>
        clear hF hB z1 hJb
        obtain ⟨q, hq, rfl, hF, hB, z1⟩ := hrel
        by_cases hqm : q < m
        · obtain ⟨x0, x1⟩ := hAt.out (p + q) (by omega)
          have p0 := hCell.out (p + q) (by omega)
          rw [← hB.out.cell (p := ⟨b1, o1 + (p + q), none⟩) (show b1 < g by have := hGG.out; omega)] at p0
          have hjv0 := hWy.out i q hqm (by rw [hp]; omega)
          rw [hp] at hjv0
          obtain ⟨j, hjq⟩ : ∃ j, q = j := ⟨q, rfl⟩
          have hjv : rt[p + q]? = some ((j : Nat) : Int) := by rw [← hjq]; exact hjv0
          have hjm : j < m := by omega
          clear hjv0
          have hst0 : Hid (machTo ts rt m (p + q + 1) = (machTo ts rt m (p + q)).set j ((machTo ts rt m (p + q)).getD j 0 + ts.getD (p + q) 0)) := Lib.hid (by
            show (machTo ts rt m (p + q)).set (rt.getD (p + q) 0).toNat ((machTo ts rt m (p + q)).getD (rt.getD (p + q) 0).toNat 0 + ts.getD (p + q) 0) = _
            rw [getD_of hjv, Int.toNat_natCast])
          have hfM := hMs.out (p + q) (by omega) j
          have hlM := hMl.out (p + q)
          generalize hml : machTo ts rt m (p + q) = ml at *
          generalize hmn : machTo ts rt m (p + q + 1) = mn at *
          generalize hgv : ml.getD j 0 = gv at *
          generalize hxv : ts.getD (p + q) 0 = xv at *
          have hMN := Lib.hid hmn
          have e5 : wr.cell? ⟨g, j, none⟩ = some (.int .i64 gv) := by rw [row_cell hF.out (by omega), hgv]
          have f5 : wr.frozen? ⟨g, j, none⟩ = false := hF.out.frozenAt j
          have hw1 : IntKind.i64.wrap ((p : Int) + (q : Int)) = (p : Int) + (q : Int) := IntWalk.i64_in _ (by omega)
          have hw2 : 0 ≤ (p : Int) + (q : Int) := by omega
          have hw3 : ((p : Int) + (q : Int)).toNat = p + q := by omega
          have hw4 : (p : Int) + (q : Int) < (L : Int) := by omega
          have hw5 : IntKind.i64.wrap (gv + xv) = gv + xv := IntWalk.i64_in _ (by omega)
          have hji : (j : Int) < (m : Int) := by omega
          subst hjq
          clear hjv hml hmn hgv hxv
          go_wp2_with fail
          go_still_tail 14, (by kernel_rfl)
          change wpList _ _ _ _ _ wr.drew
          have hF5 := show wr.drew.ownsRow _ _ _ _ _ _ from hF.out.drew
          have hB5 := hB.out.drew
          have e6 : wr.drew.cell? ⟨g, q, none⟩ = some (.int .i64 gv) := e5
          have f6 : wr.drew.frozen? ⟨g, q, none⟩ = false := f5
          have z5 : g < wr.drew.heap.size := z1
          generalize wr.drew = w5 at *
          have hst := row_set hF5 q (gv + xv)
          have hF7 := Lib.hid (show (w5.setCell ⟨g, q, none⟩ (.int .i64 (gv + xv))).ownsRow g 2 1 (.slice (some ⟨g, 0, none⟩) m m) m (mn.map (Value.int .i64)) by rw [hst0.out]; exact hst.1)
          have hB7 := Lib.hid (hB5.grown hst.2 (by omega) (fun q hq => by cases hq; exact Nat.le_refl _))
          have z7 := Lib.hid (show g < (w5.setCell ⟨g, q, none⟩ (.int .i64 (gv + xv))).heap.size by have := hst.2.size; omega)
          clear hst hF5 hB5 hF hB e5 f5 p0 z1 z5 hw5
          go_wp2_with fail
          go_roundw
          case rel => exact ⟨q + 1, by omega, by go_num, by rw [← Nat.add_assoc, hMN.out]; exact hF7, hB7, z7.out⟩
          case measure => simp [intOf]; omega
        · obtain rfl : m = q := by omega
          have hF5 := hF.out
          rw [← hNx.out] at hF5
          have hF6 := Lib.hid hF5
          clear hF5 hF
          go_wp2_with fail
          go_roundw
          case rel => exact ⟨i + 1, by omega, by go_num, by rw [hMT.out], hF6, hB, z1⟩
          case measure => simp [intOf]; omega
    · obtain rfl : n = i := by omega
      have hGr := Lib.hid (l02Greatest_any wr.heap.size (.slice (some ⟨g, 0, none⟩) m m) (machTo ts rt m (n * m)) wr (by
        have h1 : Own g wr.heap.size wr (.slice (some ⟨g, 0, none⟩) m m) 2 1 (machTo ts rt m (n * m)).length ((machTo ts rt m (n * m)).map (Value.int .i64)) := by rw [hMl.out]; exact Own.new hF.out (by unfold maxLen; omega)
        exact h1.lstI (Nat.le_refl _)) (by rw [hMl.out]; exact hm1))
      rw [hMl.out] at hGr
      have hBw := Lib.hid (show Below w.heap.size w wr by rw [hGG.out]; exact hB.out)
      have hmo := hMo.out n (Nat.le_refl _)
      generalize maxTo (machTo ts rt m (n * m)) (m - 1) = mm at *
      generalize mostTo ts m n = mo at *
      clear hF hB
      go_wp2_with (first | (go_at_call 60; (with_reducible refine (hCnt.out _).mono ?_); rintro e w' ⟨rfl, rfl⟩) | (go_at_call 101; (with_reducible refine (hGr.out).mono ?_); rintro e w' ⟨rfl, rfl⟩) | (go_at_call 79; (with_reducible refine (l00Max_any _ _ _).mono ?_); rintro e w' ⟨rfl, rfl⟩))
      go_ret
      exact ⟨ret_int hEnd.out.symm, hBw.out⟩
set_option maxHeartbeats 8000000 in
set_option maxRecDepth 100000 in
theorem l04BoundR_any (B b1 o1 cap1 : Nat) (ts : List Int) (m n : Nat) (w : World) (h1 : LstI B w (.slice (some ⟨b1, o1, none⟩) (n * m) cap1) ts) (vr : Value) (rt : List Int) (h2 : LstI B w vr rt) (hrt : onMachines rt ts.length m) (hB : B ≤ w.heap.size) (hm1 : 1 ≤ m) (hm8 : m ≤ 8) (hn1 : 1 ≤ n) (hn24 : n ≤ 24) (hlen : ts.length = n * m)
    (ht : ∀ (i : Nat) (x : Int), ts[i]? = some x → 1 ≤ x ∧ x ≤ 10000) :
    Calls Try.prog 44 #[.slice (some ⟨b1, o1, none⟩) (n * m) cap1, vr, .int .i64 m] w fun e w' => e = .returned (.int .i64 (loadB ts rt m n)) ∧ Below w.heap.size w w' := by
  have hmn := mul_le24 hn24 hm8
  have hL1 : 1 ≤ ts.length := by rw [hlen]; exact Nat.mul_pos hn1 hm1
  obtain ⟨_, _, hv1, hl1, hcap1, hcm1, hc1⟩ := h1.at_
  injection hv1 with e1 e2 e3
  subst e1 e3
  have hbB : b1 < B := by
    obtain ⟨b, o', _, hh, hlt, _⟩ := hc1 0 (by omega)
    injection hh with hh; injection hh with q1 q2 q3
    omega
  have hCell : Hid (∀ q, q < ts.length → w.cell? ⟨b1, o1 + q, none⟩ = some (.int .i64 (ts.getD q 0))) := Lib.hid fun q hq => by
    obtain ⟨b, o', x, hh, _, hx, hcc⟩ := hc1 q hq
    injection hh with hh; injection hh with q1 q2 q3
    subst q1 q2
    rw [hcc, getD_of hx]
  obtain ⟨hrtl, hrtb⟩ := hrt
  obtain ⟨a2, cap2, rfl, hl2, _, _, hc2⟩ := h2.at_
  rw [hrtl] at hc2 hl2 ⊢
  have hCR : Hid (∀ s, s < ts.length → ∃ (j bb oo : Nat), rt[s]? = some (j : Int) ∧ j < m ∧ a2 = some ⟨bb, oo, none⟩ ∧ bb < B ∧ w.cell? ⟨bb, oo + s, none⟩ = some (.int .i64 (j : Int))) := Lib.hid fun s hs => by
    obtain ⟨bb, oo, x, ha, hb, hx, hcc⟩ := hc2 s hs
    obtain ⟨j0, j1⟩ := hrtb s x hx
    obtain ⟨j, rfl⟩ := Int.eq_ofNat_of_zero_le j0
    exact ⟨j, bb, oo, hx, by omega, ha, hb, hcc⟩
  have hAt : Hid (∀ q, q < ts.length → 1 ≤ ts.getD q 0 ∧ ts.getD q 0 ≤ 10000) := Lib.hid fun q hq => all_at ht hq
  have hMl := Lib.hid (machTo_length ts rt m)
  have hMs : Hid (∀ s, s ≤ ts.length → Small (machTo ts rt m s) (10000 * s)) := Lib.hid fun s hs => machTo_small ht s hs
  have hMo : Hid (∀ k, k ≤ n → 0 ≤ mostTo ts m k ∧ mostTo ts m k ≤ 80000) := Lib.hid fun k hk => mostTo_bound hm8 ht hlen k hk
  have hMt : Hid (∀ k, mostTo ts m (k + 1) = max (mostTo ts m k) (jobSum ts m k)) := Lib.hid fun k => rfl
  have hCnt := Lib.hid (fun w' => l04Count_any (some ⟨b1, o1, none⟩) m n cap1 w' hm1 hmn)
  have hJob : Hid (∀ i w', i < n → Below w.heap.size w w' → Calls Try.prog 100 #[.slice (some ⟨b1, o1, none⟩) (n * m) cap1, .int .i64 m, .int .i64 (i : Int)] w' fun e w'' => e = .returned (.int .i64 (jobSum ts m i)) ∧ w' = w'') := Lib.hid fun i w' hi hb =>
    l04Job_any B b1 o1 cap1 ts m n i w' (h1.below hb hB) hm1 hm8 hn24 hlen ht hi
  have hRF : Hid (∀ k, k < n → k * m + m ≤ ts.length) := Lib.hid fun k hk => by rw [hlen]; exact row_fit hk
  have hMu : Hid (∀ k, k < n → IntKind.i64.wrap ((k : Int) * (m : Int)) = ((k * m : Nat) : Int)) := Lib.hid fun k hk => by
    rw [Int.natCast_mul]
    exact IntWalk.i64_in _ (by have := mul_le24 (show k ≤ 24 by omega) hm8; rw [← Int.natCast_mul]; omega)
  have hNm : Hid (∀ k, (k + 1) * m = k * m + m) := Lib.hid fun k => by rw [Nat.add_mul, Nat.one_mul]
  have hEnd : Hid (loadB ts rt m n = max (mostTo ts m n) (maxTo (machTo ts rt m (n * m)) (m - 1))) := Lib.hid rfl
  have hL192 : ts.length ≤ 192 := by omega
  obtain ⟨i0, hi, hz0, hz1, hz2⟩ := info_parts infoI
  have hmkM := make_ints 22 i0 Try.underlying22 hi hz0 hz1 hz2 m (by omega)
  rw [← hlen] at hCnt hJob ⊢
  generalize loadB ts rt m n = res at *
  skip
  clear h1 hc1 ht hmn e2 hc2 hrtl hrtb h2
  generalize hLL : ts.length = L at *
  have hLE := Lib.hid hlen
  clear hlen hLL
  unfold maxLen at hl1
  go_enter Try.func44, Try.ntmps44
  go_wp2_with fail
  have hF0 := made_row w m (by omega)
  have hB0 := below_alloc (Below.refl w.heap.size w) (.cells (madeCells (Value.int .i64 0).cells m) 2)
  have hz := alloc_size w (.cells (madeCells (Value.int .i64 0).cells m) 2)
  have hF1 := Lib.hid (show (w.alloc (.cells (madeCells #[Value.int .i64 0] m) 2)).ownsRow w.heap.size 2 1 (.slice (some ⟨w.heap.size, 0, none⟩) m m) m ((machTo ts rt m (0 * m)).map (Value.int .i64)) by rw [Nat.zero_mul]; exact hF0)
  have hB1 := Lib.hid (show Below w.heap.size w (w.alloc (.cells (madeCells #[Value.int .i64 0] m) 2)) from hB0)
  have z1 : w.heap.size < (w.alloc (.cells (madeCells #[Value.int .i64 0] m) 2)).heap.size := by rw [alloc_size]; omega
  clear hF0 hB0 hz hmkM
  generalize w.alloc _ = w1 at *
  generalize hgg : w.heap.size = g at *
  have hGG := Lib.hid hgg
  clear hgg
  go_loopw [8, 9] (fun mv iv wr => ∃ (i : Nat), i ≤ n ∧ iv = .int .i64 i ∧ mv = .int .i64 (mostTo ts m i) ∧ Hid (wr.ownsRow g 2 1 (.slice (some ⟨g, 0, none⟩) m m) m ((machTo ts rt m (i * m)).map (Value.int .i64))) ∧ Hid (Below g w wr) ∧ g < wr.heap.size) (fun _ iv _ => n - (intOf iv).toNat)
  case atStart => exact ⟨0, Nat.zero_le _, rfl, rfl, hF1, hB1, z1⟩
  case round =>
    clear hF1 hB1 z1
    obtain ⟨i, hi, rfl, rfl, hF, hB, z1⟩ := hrel
    by_cases hlt : i < n
    · obtain ⟨y0, y1⟩ := hMo.out i (by omega)
      have hfit := hRF.out i hlt
      have hmul := hMu.out i hlt
      have hJb := Lib.hid (fun hb => hJob.out i wr hlt hb)
      have hMT := Lib.hid (hMt.out i)
      have hNx := Lib.hid (hNm.out i)
      generalize hp : i * m = p at *
      generalize hmi : mostTo ts m i = mi at *
      go_wp2_with (first | (go_at_call 60; (with_reducible refine (hCnt.out _).mono ?_); rintro e w' ⟨rfl, rfl⟩) | (go_at_call 100; (with_reducible refine (hJb.out hB.out).mono ?_); rintro e w' ⟨rfl, rfl⟩) | (go_at_call 79; (with_reducible refine (l00Max_any _ _ _).mono ?_); rintro e w' ⟨rfl, rfl⟩))
      go_loopw [10] (fun qv wr => ∃ (q : Nat), q ≤ m ∧ qv = .int .i64 q ∧ Hid (wr.ownsRow g 2 1 (.slice (some ⟨g, 0, none⟩) m m) m ((machTo ts rt m (p + q)).map (Value.int .i64))) ∧ Hid (Below g w wr) ∧ g < wr.heap.size) (fun qv _ => m - (intOf qv).toNat)
      case atStart => exact ⟨0, Nat.zero_le _, rfl, hF, hB, z1⟩
      case round =>
        clear hF hB z1 hJb
        obtain ⟨q, hq, rfl, hF, hB, z1⟩ := hrel
        by_cases hqm : q < m
        · obtain ⟨x0, x1⟩ := hAt.out (p + q) (by omega)
          have p0 := hCell.out (p + q) (by omega)
          rw [← hB.out.cell (p := ⟨b1, o1 + (p + q), none⟩) (show b1 < g by have := hGG.out; omega)] at p0
          obtain ⟨j, b2, o2, hjv, hjm, rfl, hb2, q0⟩ := hCR.out (p + q) (by omega)
          rw [← hB.out.cell (p := ⟨b2, o2 + (p + q), none⟩) (show b2 < g by have := hGG.out; omega)] at q0
          have hst0 : Hid (machTo ts rt m (p + q + 1) = (machTo ts rt m (p + q)).set j ((machTo ts rt m (p + q)).getD j 0 + ts.getD (p + q) 0)) := Lib.hid (by
            show (machTo ts rt m (p + q)).set (rt.getD (p + q) 0).toNat ((machTo ts rt m (p + q)).getD (rt.getD (p + q) 0).toNat 0 + ts.getD (p + q) 0) = _
            rw [getD_of hjv, Int.toNat_natCast])
          have hfM := hMs.out (p + q) (by omega) j
          have hlM := hMl.out (p + q)
          generalize hml : machTo ts rt m (p + q) = ml at *
          generalize hmn : machTo ts rt m (p + q + 1) = mn at *
          generalize hgv : ml.getD j 0 = gv at *
          generalize hxv : ts.getD (p + q) 0 = xv at *
          have hMN := Lib.hid hmn
          have e5 : wr.cell? ⟨g, j, none⟩ = some (.int .i64 gv) := by rw [row_cell hF.out (by omega), hgv]
          have f5 : wr.frozen? ⟨g, j, none⟩ = false := hF.out.frozenAt j
          have hw1 : IntKind.i64.wrap ((p : Int) + (q : Int)) = (p : Int) + (q : Int) := IntWalk.i64_in _ (by omega)
          have hw2 : 0 ≤ (p : Int) + (q : Int) := by omega
          have hw3 : ((p : Int) + (q : Int)).toNat = p + q := by omega
          have hw4 : (p : Int) + (q : Int) < (L : Int) := by omega
          have hw5 : IntKind.i64.wrap (gv + xv) = gv + xv := IntWalk.i64_in _ (by omega)
          have hji : (j : Int) < (m : Int) := by omega
          skip
          clear hjv hml hmn hgv hxv
          go_wp2_with fail
          go_still_tail 14, (by kernel_rfl)
          change wpList _ _ _ _ _ wr.drew
          have hF5 := show wr.drew.ownsRow _ _ _ _ _ _ from hF.out.drew
          have hB5 := hB.out.drew
          have e6 : wr.drew.cell? ⟨g, j, none⟩ = some (.int .i64 gv) := e5
          have f6 : wr.drew.frozen? ⟨g, j, none⟩ = false := f5
          have z5 : g < wr.drew.heap.size := z1
          generalize wr.drew = w5 at *
          have hst := row_set hF5 j (gv + xv)
          have hF7 := Lib.hid (show (w5.setCell ⟨g, j, none⟩ (.int .i64 (gv + xv))).ownsRow g 2 1 (.slice (some ⟨g, 0, none⟩) m m) m (mn.map (Value.int .i64)) by rw [hst0.out]; exact hst.1)
          have hB7 := Lib.hid (hB5.grown hst.2 (by omega) (fun q hq => by cases hq; exact Nat.le_refl _))
          have z7 := Lib.hid (show g < (w5.setCell ⟨g, j, none⟩ (.int .i64 (gv + xv))).heap.size by have := hst.2.size; omega)
          clear hst hF5 hB5 hF hB e5 f5 p0 z1 z5 hw5
          go_wp2_with fail
          go_roundw
          case rel => exact ⟨q + 1, by omega, by go_num, by rw [← Nat.add_assoc, hMN.out]; exact hF7, hB7, z7.out⟩
          case measure => simp [intOf]; omega
        · obtain rfl : m = q := by omega
          have hF5 := hF.out
          rw [← hNx.out] at hF5
          have hF6 := Lib.hid hF5
          clear hF5 hF
          go_wp2_with fail
          go_roundw
          case rel => exact ⟨i + 1, by omega, by go_num, by rw [hMT.out], hF6, hB, z1⟩
          case measure => simp [intOf]; omega
    · obtain rfl : n = i := by omega
      have hGr := Lib.hid (l02Greatest_any wr.heap.size (.slice (some ⟨g, 0, none⟩) m m) (machTo ts rt m (n * m)) wr (by
        have h1 : Own g wr.heap.size wr (.slice (some ⟨g, 0, none⟩) m m) 2 1 (machTo ts rt m (n * m)).length ((machTo ts rt m (n * m)).map (Value.int .i64)) := by rw [hMl.out]; exact Own.new hF.out (by unfold maxLen; omega)
        exact h1.lstI (Nat.le_refl _)) (by rw [hMl.out]; exact hm1))
      rw [hMl.out] at hGr
      have hBw := Lib.hid (show Below w.heap.size w wr by rw [hGG.out]; exact hB.out)
      have hmo := hMo.out n (Nat.le_refl _)
      generalize maxTo (machTo ts rt m (n * m)) (m - 1) = mm at *
      generalize mostTo ts m n = mo at *
      clear hF hB
      go_wp2_with (first | (go_at_call 60; (with_reducible refine (hCnt.out _).mono ?_); rintro e w' ⟨rfl, rfl⟩) | (go_at_call 101; (with_reducible refine (hGr.out).mono ?_); rintro e w' ⟨rfl, rfl⟩) | (go_at_call 79; (with_reducible refine (l00Max_any _ _ _).mono ?_); rintro e w' ⟨rfl, rfl⟩))
      go_ret
      exact ⟨ret_int hEnd.out.symm, hBw.out⟩
end Go.Proofs.Ytfigojmdklaljab
