/- Contracts: the program's bound by jobs and machines. -/
import Derived.Test.YtfigojmdklaljabBoundPure
import Derived.Test.YtfigojmdklaljabMake
import Derived.Deep.RegionHeld3
import Derived.StillTailTactics
namespace Go.Proofs.Ytfigojmdklaljab
open Go.RowKit Go.Lst

theorem idiv (k m : Nat) : (k : Int) / (m : Int) = ((k / m : Nat) : Int) := (Int.natCast_ediv k m).symm
set_option maxHeartbeats 1000000 in
theorem jobOf_any (m k L cap n cr rl ct : Nat) (a b c : Option Addr) (w : World) (hm : 1 ≤ m) (hk : k ≤ 1000) :
    Calls Try.prog 64 #[.agg #[.int .i64 m, .slice a L cap, .slice b n cr, .slice c rl ct], .int .i64 k] w fun e w' => e = .returned (.int .i64 ((k / m : Nat) : Int)) ∧ Below w.heap.size w w' := by
  have hm0 : ((m : Int) == 0) = false := by rw [beq_eq_false_iff_ne]; omega
  have hH := Lib.hid (idiv k m)
  have q1 : 0 ≤ (k : Int) / (m : Int) := Int.ediv_nonneg (by omega) (by omega)
  have q2 : (k : Int) / (m : Int) ≤ k := Int.ediv_le_self _ (by omega)
  go_enter Try.func64, Try.ntmps64
  go_wp2
  go_ret
  exact ⟨ret_int hH.out, below_alloc (Below.refl _ _) _⟩
/-- What lies in memory when the call has made its two rows: its box at gx, sums of jobs at gj, and of machines at gm. -/
def SumsMade (w W : World) (gx gj gm m n : Nat) (cs : Array Value) : Prop :=
  W.ownsRow gj 2 1 (.slice (some ⟨gj, 0, none⟩) n n) n ((List.replicate n (0 : Int)).map (Value.int .i64)) ∧ W.ownsRow gm 2 1 (.slice (some ⟨gm, 0, none⟩) m m) m ((List.replicate m (0 : Int)).map (Value.int .i64)) ∧
    Whole W gx 46 cs ∧ Below gx w W ∧ gx < gj ∧ gx < gm ∧ gj ≠ gm ∧ gj < W.heap.size ∧ gm < W.heap.size
theorem sums_made {w w2 : World} {gx a b : Nat} {cs : Array Value} (ha : a ≤ 65536) (hb : b ≤ 65536) (hx : Whole w2 gx 46 cs) (hw : Below gx w w2) (hs : gx < w2.heap.size) :
    let W := ((w2.alloc (.cells (madeCells #[.int .i64 0] a) 2)).alloc (.cells (madeCells #[.int .i64 0] b) 2)).drew
    W.ownsRow w2.heap.size 2 1 (.slice (some ⟨w2.heap.size, 0, none⟩) a a) a ((List.replicate a (0 : Int)).map (Value.int .i64)) ∧ W.ownsRow (w2.heap.size + 1) 2 1 (.slice (some ⟨w2.heap.size + 1, 0, none⟩) b b) b ((List.replicate b (0 : Int)).map (Value.int .i64)) ∧
      Whole W gx 46 cs ∧ Below gx w W ∧ W.heap.size = w2.heap.size + 2 := by
  have h1 := made_row w2 a ha
  have h2 := made_row (w2.alloc (.cells (madeCells #[.int .i64 0] a) 2)) b hb
  rw [alloc_size] at h2
  refine ⟨(ownsRow_kept h1 (below_alloc (Below.refl _ _) _)).drew, h2.drew, ?_, ((hw.alloc (by omega) _).alloc (by rw [alloc_size]; omega) _).drew, ?_⟩
  · exact (hx.more _).more _
  · show ((w2.alloc _).alloc _).heap.size = _
    rw [alloc_size, alloc_size]
set_option maxHeartbeats 8000000 in
set_option maxRecDepth 100000 in
theorem loadBound_any (B : Nat) (s : Value) (ts rt : List Int) (m n : Nat) (w : World) (hSh : Shop B w s ts rt m n) (hB : B ≤ w.heap.size) (hm1 : 1 ≤ m) (hm8 : m ≤ 8) (hn1 : 1 ≤ n) (hn24 : n ≤ 24) (hlen : ts.length = n * m)
    (ht : ∀ (i : Nat) (x : Int), ts[i]? = some x → 1 ≤ x ∧ x ≤ 10000) (hrt : onMachines rt ts.length m) :
    Calls Try.prog 46 #[s] w fun e w' => e = .returned (.int .i64 (loadB ts rt m n)) ∧ Below w.heap.size w w' := by
  have hmn := mul_le24 hn24 hm8
  have hL1 : 1 ≤ ts.length := by rw [hlen]; exact Nat.mul_pos hn1 hm1
  obtain ⟨b1, o1, cap1, vr, vt, rfl, h1, hr, hrl⟩ := hSh
  obtain ⟨ar, cr, rfl, _⟩ := hr
  obtain ⟨_, _, hv1, hl1, hcap1, hcm1, hc1⟩ := h1.at_
  injection hv1 with e1 e2 e3
  subst e1 e3
  obtain ⟨at', ct, rfl, hlr, _, _, hcr⟩ := hrl.at_
  obtain ⟨hrtl, hrtb⟩ := hrt
  rw [hrtl] at hcr hlr ⊢
  have hbB : b1 < B := by
    obtain ⟨b, o', _, hh, hlt, _⟩ := hc1 0 (by omega)
    injection hh with hh; injection hh with q1 q2 q3
    omega
  have hCell : Hid (∀ q, q < ts.length → w.cell? ⟨b1, o1 + q, none⟩ = some (.int .i64 (ts.getD q 0))) := Lib.hid fun q hq => by
    obtain ⟨b, o', x, hh, _, hx, hcc⟩ := hc1 q hq
    injection hh with hh; injection hh with q1 q2 q3
    subst q1 q2
    rw [hcc, getD_of hx]
  have hCR := Lib.hid hcr
  have hRt : Hid (∀ (i : Nat) (x : Int), rt[i]? = some x → 0 ≤ x ∧ x < (m : Int)) := Lib.hid hrtb
  have hAt : Hid (∀ q, q < ts.length → 1 ≤ ts.getD q 0 ∧ ts.getD q 0 ≤ 10000) := Lib.hid fun q hq => all_at ht hq
  have hJl := Lib.hid (jobsTo_length ts m n)
  have hMl := Lib.hid (machTo_length ts rt m)
  have hJs : Hid (∀ s, s ≤ ts.length → Small (jobsTo ts m n s) (10000 * s)) := Lib.hid fun s hs => jobsTo_small ht s hs
  have hMs : Hid (∀ s, s ≤ ts.length → Small (machTo ts rt m s) (10000 * s)) := Lib.hid fun s hs => machTo_small ht s hs
  have hRes : Hid (loadB ts rt m n = max (maxTo (jobsTo ts m n ts.length) (n - 1)) (maxTo (machTo ts rt m ts.length) (m - 1))) := Lib.hid (by
    unfold loadB
    rw [hlen, mostTo_jobs hm1 ht hlen (n - 1) (by omega), show n - 1 + 1 = n by omega])
  have hDv : Hid (∀ s, s < ts.length → s / m < n) := Lib.hid fun s hs => (Nat.div_lt_iff_lt_mul (show 0 < m by omega)).2 (show s < n * m by omega)
  have hL192 : ts.length ≤ 192 := by omega
  obtain ⟨i0, hi, hz0, hz1, hz2⟩ := info_parts infoI
  have hmkN := make_ints 22 i0 Try.underlying22 hi hz0 hz1 hz2 n (by omega)
  have hmkM := make_ints 22 i0 Try.underlying22 hi hz0 hz1 hz2 m (by omega)
  rw [← hlen]
  generalize loadB ts rt m n = res at *
  clear h1 hc1 hcr hlen ht hmn hrl hrtl hrtb
  generalize ts.length = L at *
  unfold maxLen at hl1 hlr
  go_enter Try.func46, Try.ntmps46
  go_wp2_with fail
  have hx1 := Lib.hid (Whole.made w 46 #[.int .i64 m, .slice (some ⟨b1, o1, none⟩) L cap1, .slice ar n cr, .slice at' L ct] rfl)
  have hb1 := Lib.hid (below_alloc (Below.refl w.heap.size w) (.cells #[.int .i64 m, .slice (some ⟨b1, o1, none⟩) L cap1, .slice ar n cr, .slice at' L ct] 46))
  have hs1 := alloc_size w (.cells #[.int .i64 m, .slice (some ⟨b1, o1, none⟩) L cap1, .slice ar n cr, .slice at' L ct] 46)
  generalize w.alloc (.cells #[.int .i64 m, .slice (some ⟨b1, o1, none⟩) L cap1, .slice ar n cr, .slice at' L ct] 46) = w2 at *
  generalize hgx : w.heap.size = gx at *
  have hGX := Lib.hid hgx
  clear hgx
  have hS0 : Hid (∀ w' : World, Below w2.heap.size w2 w' → (w'.cell? ⟨gx, 0, none⟩ = some (.int .i64 m) ∧ w'.cell? ⟨gx, 2, none⟩ = some (.slice ar n cr)) ∧ Below w2.heap.size w2 w') := Lib.hid fun w' hb => ⟨⟨(hx1.out.kept hb).at_ rfl, (hx1.out.kept hb).at_ rfl⟩, hb⟩
  have hs3 := Lib.hid hs1
  clear hs1
  go_region_held3 (fun w' => (w'.cell? ⟨gx, 0, none⟩ = some (.int .i64 m) ∧ w'.cell? ⟨gx, 2, none⟩ = some (.slice ar n cr)) ∧ Below w2.heap.size w2 w') ((first | exact hS0.out _ (Below.refl _ _) | exact hS0.out _ (Below.refl _ _).drew | exact hS0.out _ (below_alloc (Below.refl _ _) _) | exact hS0.out _ (below_alloc (Below.refl _ _).drew _) | exact hS0.out _ (below_alloc (below_alloc (Below.refl _ _) _) _) | exact hS0.out _ (below_alloc (below_alloc (Below.refl _ _).drew _) _) | exact hS0.out _ (below_alloc (below_alloc (Below.refl _ _).drew _).drew _) | exact hS0.out _ (below_alloc (below_alloc (Below.refl _ _) _).drew _))) (fail)
  focus
    (have hH := Lib.hid (show SumsMade w _ gx w2.heap.size (w2.heap.size + 1) m n _ from by
        obtain ⟨k1, k2, k3, k4, k5⟩ := sums_made (show n ≤ 65536 by omega) (show m ≤ 65536 by omega) hx1.out hb1.out (by have := hs3.out; omega)
        exact ⟨k1, k2, k3, k4, by have := hs3.out; omega, by have := hs3.out; omega, by omega, by omega, by omega⟩); clear hS0 hx1 hb1; generalize World.drew _ = W at *; generalize w2.heap.size + 1 = gm at *; generalize w2.heap.size = gj at *)
  rotate_left
  focus
    (have hH := Lib.hid (show SumsMade w _ gx (w2.heap.size + 1) w2.heap.size m n _ from by
        obtain ⟨k1, k2, k3, k4, k5⟩ := sums_made (show m ≤ 65536 by omega) (show n ≤ 65536 by omega) hx1.out hb1.out (by have := hs3.out; omega)
        exact ⟨k2, k1, k3, k4, by have := hs3.out; omega, by have := hs3.out; omega, by omega, by omega, by omega⟩); clear hS0 hx1 hb1; generalize World.drew _ = W at *; generalize w2.heap.size + 1 = gj at *; generalize w2.heap.size = gm at *)
  all_goals
    obtain ⟨hJ0, hM0, hX0, hB0, d1, d2, d3, d4, d5⟩ := hH.out
    have hJ3 := Lib.hid hJ0
    have hM3 := Lib.hid hM0
    have hX3 := Lib.hid hX0
    have hB3 := Lib.hid hB0
    have c1 := hX0.at_ (i := 1) rfl
    clear hH hJ0 hM0 hX0 hB0
    go_wp2_with fail
    clear c1
    go_loopw [17] (fun ii wr => ∃ (k : Nat), k ≤ L ∧ ii = .int .i64 k ∧ Hid (wr.ownsRow gj 2 1 (.slice (some ⟨gj, 0, none⟩) n n) n ((jobsTo ts m n k).map (Value.int .i64))) ∧ Hid (wr.ownsRow gm 2 1 (.slice (some ⟨gm, 0, none⟩) m m) m ((machTo ts rt m k).map (Value.int .i64))) ∧ Hid (Whole wr gx 46 #[.int .i64 m, .slice (some ⟨b1, o1, none⟩) L cap1, .slice ar n cr, .slice at' L ct]) ∧ Hid (Below gx w wr) ∧ gj < wr.heap.size ∧ gm < wr.heap.size) (fun ii _ => L - (intOf ii).toNat)
    case atStart => exact ⟨0, Nat.zero_le _, rfl, hJ3, hM3, hX3, hB3, d4, d5⟩
    case round =>
      clear hJ3 hM3 hX3 hB3 d4 d5
      obtain ⟨k, hk, rfl, hJ, hM, hX, hB, d4, d5⟩ := hrel
      by_cases hlt : k < L
      · obtain ⟨x0, x1⟩ := hAt.out k hlt
        have p0 := hCell.out k hlt
        have hbg : b1 < gx := by have := hGX.out; omega
        rw [← hB.out.cell (p := ⟨b1, o1 + k, none⟩) hbg] at p0
        obtain ⟨b2, o2, jv, rfl, hb2, hjv, q0⟩ := hCR.out k hlt
        have hbg2 : b2 < gx := by have := hGX.out; omega
        rw [← hB.out.cell (p := ⟨b2, o2 + k, none⟩) hbg2] at q0
        obtain ⟨j0, j1⟩ := hRt.out k jv hjv
        obtain ⟨j, rfl⟩ := Int.eq_ofNat_of_zero_le j0
        have hjm : j < m := by omega
        have hdv := hDv.out k hlt
        have hJob := Lib.hid (fun w' => jobOf_any m k L cap1 n cr L ct (some ⟨b1, o1, none⟩) ar (some ⟨b2, o2, none⟩) w' hm1 (by omega))
        have c0 := hX.out.at_ (i := 0) rfl
        have c1 := hX.out.at_ (i := 1) rfl
        have c2 := hX.out.at_ (i := 2) rfl
        have c3 := hX.out.at_ (i := 3) rfl
        have hstepJ : Hid (jobsTo ts m n (k + 1) = (jobsTo ts m n k).set (k / m) ((jobsTo ts m n k).getD (k / m) 0 + ts.getD k 0)) := Lib.hid rfl
        have hstepM : Hid (machTo ts rt m (k + 1) = (machTo ts rt m k).set j ((machTo ts rt m k).getD j 0 + ts.getD k 0)) := Lib.hid (by
          show (machTo ts rt m k).set (rt.getD k 0).toNat ((machTo ts rt m k).getD (rt.getD k 0).toNat 0 + ts.getD k 0) = _
          rw [getD_of hjv, Int.toNat_natCast])
        have hfJ := hJs.out k (by omega) (k / m)
        have hfM := hMs.out k (by omega) j
        have hlJ := hJl.out k
        have hlM := hMl.out k
        have hgdJ : (jobsTo ts m n k)[k / m]? = some ((jobsTo ts m n k).getD (k / m) 0) := getD_get (by omega)
        have hgdM : (machTo ts rt m k)[j]? = some ((machTo ts rt m k).getD j 0) := getD_get (by omega)
        generalize hqd : k / m = qd at *
        clear hqd
        generalize hjl : jobsTo ts m n k = jl at *
        generalize hml : machTo ts rt m k = ml at *
        generalize hjn : jobsTo ts m n (k + 1) = jn at *
        generalize hmn : machTo ts rt m (k + 1) = mn at *
        generalize hfv : jl.getD qd 0 = fv at *
        generalize hgv : ml.getD j 0 = gv at *
        generalize hxv : ts.getD k 0 = xv at *
        have hJN := Lib.hid hjn
        have hMN := Lib.hid hmn
        have hFV := Lib.hid hfv
        have hGV := Lib.hid hgv
        clear hjv hjl hml hjn hmn hfv hgv hxv hgdJ hgdM
        go_wp2_with fail
        with_reducible refine (hJob.out _).mono ?_
        rintro e w5 ⟨rfl, hb5⟩
        have hJ5 := ownsRow_kept hJ.out hb5
        have hM5 := ownsRow_kept hM.out hb5
        have hX5 := hX.out.kept hb5
        have hB5 := hB.out.trans (hb5.mono (by omega))
        have p5 : w5.cell? ⟨b1, o1 + k, none⟩ = some (.int .i64 xv) := by rw [hb5.cell (p := ⟨b1, o1 + k, none⟩) (by show b1 < _; omega)]; exact p0
        have q5 : w5.cell? ⟨b2, o2 + k, none⟩ = some (.int .i64 (j : Int)) := by rw [hb5.cell (p := ⟨b2, o2 + k, none⟩) (by show b2 < _; omega)]; exact q0
        have z4 : gj < w5.heap.size := by have := hb5.size; omega
        have z5 : gm < w5.heap.size := by have := hb5.size; omega
        have hX5' := Lib.hid hX5
        have e5 : w5.cell? ⟨gj, qd, none⟩ = some (.int .i64 fv) := by rw [row_cell hJ5 (by omega), hFV.out]
        have f5 : w5.frozen? ⟨gj, qd, none⟩ = false := hJ5.frozenAt qd
        have hw1 : IntKind.i64.wrap (fv + xv) = fv + xv := IntWalk.i64_in _ (by omega)
        have hw2 : IntKind.i64.wrap (gv + xv) = gv + xv := IntWalk.i64_in _ (by omega)
        have hst1 := row_set hJ5 qd (fv + xv)
        generalize hw6 : w5.setCell ⟨gj, qd, none⟩ (.int .i64 (fv + xv)) = w6 at *
        have hJ6 := Lib.hid (show w6.ownsRow gj 2 1 (.slice (some ⟨gj, 0, none⟩) n n) n (jn.map (Value.int .i64)) by rw [hstepJ.out]; exact hst1.1)
        have hM6 := hM5.kept hst1.2 (.inr (by simp [Value.ownBlock]; omega))
        have hX6 := hX5.beside hst1.2 (by simp; omega)
        have hB6 := hB5.grown hst1.2 (by omega) (fun q hq => by cases hq; omega)
        have q6 : w6.cell? ⟨b2, o2 + k, none⟩ = some (.int .i64 (j : Int)) := by
          rw [World.cell?_of_block (w := w5) (hst1.2.block b2 (by omega) (by intro h; injection h with h; omega))]; exact q5
        have d6 : w6.cell? ⟨gx, 3, none⟩ = some (.slice (some ⟨b2, o2, none⟩) L ct) := hX6.at_ rfl
        have e6 : w6.cell? ⟨gm, j, none⟩ = some (.int .i64 gv) := by rw [row_cell hM6 (by omega), hGV.out]
        have f6 : w6.frozen? ⟨gm, j, none⟩ = false := hM6.frozenAt j
        have z6 : gj < w6.heap.size := by have := hst1.2.size; omega
        have z7 : gm < w6.heap.size := by have := hst1.2.size; omega
        have hst2 := row_set hM6 j (gv + xv)
        have hM7 := Lib.hid (show (w6.setCell ⟨gm, j, none⟩ (.int .i64 (gv + xv))).ownsRow gm 2 1 (.slice (some ⟨gm, 0, none⟩) m m) m (mn.map (Value.int .i64)) by rw [hstepM.out]; exact hst2.1)
        have hJ7 := Lib.hid (hJ6.out.kept hst2.2 (.inr (by simp [Value.ownBlock]; omega)))
        have hX7 := Lib.hid (hX6.beside hst2.2 (by simp; omega))
        have hB7 := Lib.hid (hB6.grown hst2.2 (by omega) (fun q hq => by cases hq; omega))
        have y6 := Lib.hid (show gj < (w6.setCell ⟨gm, j, none⟩ (.int .i64 (gv + xv))).heap.size by have := hst2.2.size; omega)
        have y7 := Lib.hid (show gm < (w6.setCell ⟨gm, j, none⟩ (.int .i64 (gv + xv))).heap.size by have := hst2.2.size; omega)
        clear hst1 hst2 hJ5 hM5 hX5 hB5 hM6 hX6 hB6 c0 c1 c2 c3 p0 q0 p5 hb5 z6 z7 z4 z5
        go_wp2_with fail
        go_roundw
        case rel => exact ⟨k + 1, by omega, by go_num, by rw [hJN.out]; exact hJ7, by rw [hMN.out]; exact hM7, hX7, hB7, y6.out, y7.out⟩
        case measure => simp [intOf]; omega
      · obtain rfl : L = k := by omega
        have hMJ := Lib.hid (slicesMax_any wr.heap.size (.slice (some ⟨gj, 0, none⟩) n n) (jobsTo ts m n L) wr (by
          have h1 : Own gj wr.heap.size wr (.slice (some ⟨gj, 0, none⟩) n n) 2 1 (jobsTo ts m n L).length ((jobsTo ts m n L).map (Value.int .i64)) := by rw [hJl.out]; exact Own.new hJ.out (by unfold maxLen; omega)
          exact h1.lstI (Nat.le_refl _)) (by rw [hJl.out]; exact hn1))
        have hMM := Lib.hid (slicesMax_any wr.heap.size (.slice (some ⟨gm, 0, none⟩) m m) (machTo ts rt m L) wr (by
          have h1 : Own gm wr.heap.size wr (.slice (some ⟨gm, 0, none⟩) m m) 2 1 (machTo ts rt m L).length ((machTo ts rt m L).map (Value.int .i64)) := by rw [hMl.out]; exact Own.new hM.out (by unfold maxLen; omega)
          exact h1.lstI (Nat.le_refl _)) (by rw [hMl.out]; exact hm1))
        rw [hJl.out] at hMJ
        rw [hMl.out] at hMM
        have hBw := Lib.hid (show Below w.heap.size w wr by rw [hGX.out]; exact hB.out)
        generalize maxTo (jobsTo ts m n L) (n - 1) = mj at *
        generalize maxTo (machTo ts rt m L) (m - 1) = mm at *
        clear hJ hM hX hB
        go_wp2_with fail
        with_reducible refine (hMJ.out).mono ?_
        rintro e w' ⟨rfl, rfl⟩
        go_wp2_with fail
        with_reducible refine (hMM.out).mono ?_
        rintro e w' ⟨rfl, rfl⟩
        go_wp2_with fail
        all_goals
          go_ret
          exact ⟨ret_int (by rw [hRes.out]; omega), hBw.out⟩
end Go.Proofs.Ytfigojmdklaljab
