/- Contracts: BehindOf, in the model and in the program. -/
import Derived.Test.YtlgojbbhjhifhaaFree
namespace Go.Proofs.Ytlgojbbhjhifhaa
open Go.RowKit Go.Lst

def shlI (b : Nat) : Int := IntKind.i64.wrap (1 * 2 ^ b)
def orI (a b : Int) : Int := bits .or .i64 a b
def behVal (bs : List Int) (i : Nat) (b : Int) : Int := orI (bs.getD i 0) (orI (bs.getD b.toNat 0) (shlI b.toNat))
/-- What a task is behind, by the first j of its Befores. -/
def behIn (x : TaskD) (i : Nat) (bs : List Int) : Nat → List Int
  | 0 => bs
  | j + 1 => (behIn x i bs j).set i (behVal (behIn x i bs j) i (bAt x j))
def behTo (xs : List TaskD) : Nat → List Int
  | 0 => List.replicate xs.length 0
  | k + 1 => behIn (xs.getD k default) k (behTo xs k) (xs.getD k default).Before.length
theorem behIn_length (x : TaskD) (i : Nat) (bs : List Int) : ∀ j, (behIn x i bs j).length = bs.length
  | 0 => rfl
  | j + 1 => by simp [behIn, behIn_length x i bs j]
theorem behTo_length (xs : List TaskD) : ∀ k, (behTo xs k).length = xs.length
  | 0 => by simp [behTo]
  | k + 1 => by simp only [behTo]; rw [behIn_length, behTo_length xs k]
def behRes (xs : List TaskD) : List Int := if areTasks xs then behTo xs xs.length else []
theorem behRes_no {xs : List TaskD} (h : areTasks xs = false) : behRes xs = [] := by unfold behRes; rw [if_neg (by rw [h]; simp)]
theorem behRes_yes {xs : List TaskD} (h : areTasks xs = true) : behRes xs = behTo xs xs.length := by unfold behRes; rw [if_pos h]
theorem behRes_length (xs : List TaskD) : (behRes xs).length ≤ 1048576 := by
  unfold behRes
  split
  · rename_i h; rw [behTo_length]; have := (areTasks_fit h).most; omega
  · simp

set_option maxHeartbeats 4000000 in
set_option maxRecDepth 100000 in
theorem specBehindOf_any (B : Nat) (v : Value) (xs : List TaskD) (w : World) (h : LstTask B w v xs) (hB : B ≤ w.heap.size) : Calls Try.prog 38 #[v] w (ListPost (behRes xs) (areTasks xs) w) := by
  have hA := Lib.hid (l03Are_any B v xs w h)
  have hL := Lib.hid h
  obtain ⟨a, cap, rfl, hl, _⟩ := h
  obtain ⟨i0, hi, hz0, hz1, hz2⟩ := info_parts infoI
  cases hq : areTasks xs
  · have hP := Lib.hid (fun w' hb => list_no (w := w) (w' := w') hq (behRes_no hq) hb)
    rw [hq] at hA hP
    generalize ListPost (behRes xs) _ w = POST at *
    clear hq
    go_enter Try.func38, Try.ntmps38
    go_wp2_with fail
    refine (hA.out).mono ?_
    rintro e w1 ⟨m, rfl, rfl⟩
    go_wp2_with fail
    exact hP.out _ (below_drawn _ _)
  · have hP := Lib.hid (fun w' v ho hb => list_yes (w := w) (w' := w') (r := behRes xs) (v := v) hq (by rw [behRes_yes hq]; exact behTo_length xs _) ho hb)
    rw [behRes_yes hq] at hP
    rw [behRes_yes hq]
    rw [hq] at hA hP
    have hFt := Lib.hid (areTasks_fit hq)
    generalize ListPost (behTo xs xs.length) _ w = POST at *
    have hm : xs.length ≤ 16 := hFt.out.most
    obtain ⟨_, _, e1, _, _, _, hc⟩ := hL.out.at_
    injection e1 with e1 _ e2
    subst e1 e2
    have hC : Hid (∀ i, i < xs.length → ∃ (b o : Nat) (x : TaskD) (ab : Option Addr) (cb : Nat), a = some ⟨b, o, none⟩ ∧ b < w.heap.size ∧ xs[i]? = some x ∧ x.Before.length ≤ 16 ∧ w.cell? ⟨b, o + i * 4 + 2, none⟩ = some (.slice ab x.Before.length cb) ∧
        ∀ j, j < x.Before.length → ∃ bb ob bn : Nat, ab = some ⟨bb, ob, none⟩ ∧ bb < w.heap.size ∧ bn < i ∧ bAt x j = (bn : Int) ∧ w.cell? ⟨bb, ob + j, none⟩ = some (.int .i64 (bn : Int))) := Lib.hid fun i hi => by
      obtain ⟨b, o, x, vb, vl, rfl, hb, hx, _, _, c2, _, l0, _⟩ := hc i hi
      obtain ⟨ab, cb, rfl, _, _, _, hcb⟩ := l0.at_
      refine ⟨b, o, x, ab, cb, rfl, by omega, hx, before_few hFt.out hx, c2, fun j hj => ?_⟩
      obtain ⟨bb, ob, y, rfl, hbb, hy, cy⟩ := hcb j hj
      have hbj := hFt.out.before i x hx j hj
      have ey : bAt x j = y := getD_some hy
      rw [ey] at hbj
      obtain ⟨bn, rfl⟩ : ∃ bn : Nat, y = (bn : Int) := ⟨y.toNat, by omega⟩
      exact ⟨bb, ob, bn, rfl, by omega, by omega, ey, cy⟩
    have hStart : Hid (behTo xs 0 = List.replicate xs.length 0) := Lib.hid rfl
    have hNext : Hid (∀ i x, xs[i]? = some x → behTo xs (i + 1) = behIn x i (behTo xs i) x.Before.length) := Lib.hid fun i x hx => by simp only [behTo]; rw [getD_some hx]
    have hIn0 : Hid (∀ x i bs, behIn x i bs 0 = bs) := Lib.hid fun _ _ _ => rfl
    have hIn1 : Hid (∀ x i bs j (bn : Nat), bAt x j = (bn : Int) → behIn x i bs (j + 1) = (behIn x i bs j).set i (orI ((behIn x i bs j).getD i 0) (orI ((behIn x i bs j).getD bn 0) (shlI bn)))) := Lib.hid fun x i bs j bn hb => by simp only [behIn, behVal]; rw [hb, Int.toNat_natCast]
    have hLen : Hid (∀ k, (behTo xs k).length = xs.length) := Lib.hid fun k => behTo_length xs k
    have hLen2 : Hid (∀ x i k j, (behIn x i (behTo xs k) j).length = xs.length) := Lib.hid fun x i k j => by rw [behIn_length, behTo_length]
    clear hq hc
    generalize hnn : xs.length = n at *
    have hN := Lib.hid hnn
    clear hnn
    unfold maxLen at hl
    go_enter Try.func38, Try.ntmps38
    go_wp2_with fail
    refine (hA.out).mono ?_
    rintro e w1 ⟨m, rfl, rfl⟩
    have hB1 := Lib.hid (below_drawn w m)
    generalize w.drewN m = w1 at *
    go_wp2_with (at_make; refine wpList_make_full _ rfl _ _ _ rfl w1.heap.size _ i0 (.int .i64 0) 1 Try.underlying30 hi hz0 hz1 _ _ _ _ n rfl rfl rfl rfl ?c1 ?c2 ?c3 ?_)
    case c1 => first | (rw [hz2]; omega) | omega
    case c2 => unfold maxLen; omega
    try case c3 => exact Nat.le_refl _
    intro w2 hown0 hg0
    have hB2 := Lib.hid (show Below w1.heap.size w1 w2 from (Below.refl _ _).grown hg0 (Nat.le_refl _) (fun k hk => by cases hk))
    have hO2 := Lib.hid (show w2.ownsRow w1.heap.size 2 1 (.slice (some ⟨w1.heap.size, 0, none⟩) n n) n ((behTo xs 0).map (Value.int .i64)) by rw [hStart.out]; exact zeros_own' hown0)
    clear hown0 hg0 hz0 hz1 hz2 hi
    have hsz := hB1.out.size
    go_wp2_with fail
    go_loopw [16] (fun i wr => ∃ k : Nat, k ≤ n ∧ i = .int .i64 k ∧ Hid (wr.ownsRow w1.heap.size 2 1 (.slice (some ⟨w1.heap.size, 0, none⟩) n n) n ((behTo xs k).map (Value.int .i64))) ∧ Hid (Below w1.heap.size w1 wr)) (fun i _ => n - (intOf i).toNat)
    case atStart => exact ⟨0, Nat.zero_le _, rfl, hO2, hB2⟩
    case round =>
      obtain ⟨k, hk, rfl, hO5, hB5⟩ := hrel
      by_cases hlt : k < n
      · obtain ⟨b, o, x, ab, cb, rfl, hb, hx, hfew, c2, hcells⟩ := hC.out k hlt
        have hCl := Lib.hid hcells
        have hX := Lib.hid hx
        have hBw := Lib.hid (below_on hB1.out (Nat.le_refl _) hB5.out)
        have hkI : (k : Int) < n := by omega
        rw [← hBw.out.cell (p := ⟨b, o + k * 4 + 2, none⟩) hb] at c2
        have hC2 := Lib.hid (show ∀ w', Below w.heap.size w w' → w'.cell? ⟨b, o + k * 4 + 2, none⟩ = some (.slice ab x.Before.length cb) from fun w' hb' => by rw [hb'.cell (p := ⟨b, o + k * 4 + 2, none⟩) hb, ← hBw.out.cell (p := ⟨b, o + k * 4 + 2, none⟩) hb]; exact c2)
        have hNx := Lib.hid (hNext.out k x hx)
        have hI0 := Lib.hid (hIn0.out x k (behTo xs k))
        clear hcells hx
        generalize hnb : x.Before.length = nb at *
        clear hnb
        go_wp2_with fail
        have hO6 := hO5.out
        rw [← hI0.out] at hO6
        have hO7 := Lib.hid hO6
        clear hO6 hO5
        go_loopw [25] (fun i wr => ∃ j : Nat, j ≤ nb ∧ i = .int .i64 j ∧ Hid (wr.ownsRow w1.heap.size 2 1 (.slice (some ⟨w1.heap.size, 0, none⟩) n n) n ((behIn x k (behTo xs k) j).map (Value.int .i64))) ∧ Hid (Below w1.heap.size w1 wr)) (fun i _ => nb - (intOf i).toNat)
        case atStart => exact ⟨0, Nat.zero_le _, rfl, hO7, hB5⟩
        case round =>
          obtain ⟨j, hj, rfl, hO8, hB8⟩ := hrel
          by_cases hjl : j < nb
          · obtain ⟨bb, ob, bn, rfl, hbb, hbn, hbe, f1⟩ := hCl.out j hjl
            have hBw8 := Lib.hid (below_on hB1.out (Nat.le_refl _) hB8.out)
            have e1 := hC2.out wr hBw8.out
            have e2 : wr.cell? ⟨bb, ob + j, none⟩ = some (.int .i64 (bn : Int)) := by rw [hBw8.out.cell (p := ⟨bb, ob + j, none⟩) hbb]; exact f1
            have hlen : (behIn x k (behTo xs k) j).length = n := hLen2.out x k k j
            have e3 : wr.cell? ⟨w1.heap.size, k, none⟩ = some (.int .i64 ((behIn x k (behTo xs k) j).getD k 0)) := by
              rw [hO8.out.cellAt k (by omega), List.getElem?_map, getD_get (by omega)]; rfl
            have e4 : wr.cell? ⟨w1.heap.size, bn, none⟩ = some (.int .i64 ((behIn x k (behTo xs k) j).getD bn 0)) := by
              rw [hO8.out.cellAt bn (by omega), List.getElem?_map, getD_get (by omega)]; rfl
            have hst1 := Lib.hid (hIn1.out x k (behTo xs k) j bn hbe)
            generalize hc0 : (behIn x k (behTo xs k) j).getD k 0 = c0 at *
            generalize hd0 : (behIn x k (behTo xs k) j).getD bn 0 = d0 at *
            have hsh : IntKind.i64.wrap (1 * 2 ^ bn) = shlI bn := rfl
            have hsh2 : IntKind.i64.wrap (2 ^ bn) = shlI bn := by unfold shlI; rw [Int.one_mul]
            have hor1 : bits .or .i64 d0 (shlI bn) = orI d0 (shlI bn) := rfl
            have hor2 : bits .or .i64 c0 (orI d0 (shlI bn)) = orI c0 (orI d0 (shlI bn)) := rfl
            have hi1 : (bn : Int) < n := by omega
            have hi2 : (j : Int) < nb := by omega
            have hi3 : (bn : Int) ≤ 64 := by omega
            have hf0 : wr.frozen? ⟨w1.heap.size, k, none⟩ = false := hO8.out.frozenAt k
            clear hc0 hd0 hlen f1
            go_wp2_with fail
            go_still_tail 13, (by kernel_rfl)
            change wpList _ _ _ _ _ wr.drew
            have hO9 := show wr.drew.ownsRow _ _ _ _ _ _ from hO8.out.drew
            have hB9 := Lib.hid (show Below w1.heap.size w1 wr.drew from hB8.out.drew)
            have e5 : wr.drew.cell? ⟨w1.heap.size, k, none⟩ = some (.int .i64 c0) := e3
            have hf1 : wr.drew.frozen? ⟨w1.heap.size, k, none⟩ = false := hf0
            generalize wr.drew = w5 at *
            have hst := hO9.stored k (.int .i64 (orI c0 (orI d0 (shlI bn))))
            rw [← List.map_set, ← hst1.out] at hst
            have hO10 := Lib.hid hst.1
            have hB10 := Lib.hid (hB9.out.setCell (p := ⟨w1.heap.size, k, none⟩) (Nat.le_refl _) (.int .i64 (orI c0 (orI d0 (shlI bn)))))
            clear hst hO9 hO8 hB8 e1 e2 e3 e4 hf0 hBw8
            go_wp2_with fail
            go_roundw
            case rel => exact ⟨j + 1, by omega, by go_num, hO10, hB10⟩
            case measure => simp [intOf]; omega
          · have hO9 := hO8.out
            rw [show j = nb by omega, ← hNx.out] at hO9
            have hO10 := Lib.hid hO9
            clear hO9 hO8
            go_wp2_with fail
            go_roundw
            case rel => exact ⟨k + 1, by omega, by go_num, hO10, hB8⟩
            case measure => simp [intOf]; omega
      · have hk2 : k = n := by omega
        subst hk2
        have hO7 := Lib.hid ((Own.new hO5.out (by unfold maxLen; omega)).mono hsz (Nat.le_refl _))
        have hB6 := Lib.hid (below_on hB1.out (Nat.le_refl _) hB5.out)
        clear hO5 hB5
        go_wp2_with fail
        exact hP.out _ _ hO7.out hB6.out
set_option maxHeartbeats 4000000 in
set_option maxRecDepth 100000 in
theorem implBehindOf_any (B : Nat) (v : Value) (xs : List TaskD) (w : World) (h : LstTask B w v xs) (hB : B ≤ w.heap.size) : Calls Try.prog 39 #[v] w (ListPost (behRes xs) (areTasks xs) w) := by
  have hA := Lib.hid (areTasks_any B v xs w h hB)
  have hL := Lib.hid h
  obtain ⟨a, cap, rfl, hl, _⟩ := h
  obtain ⟨i0, hi, hz0, hz1, hz2⟩ := info_parts infoI
  cases hq : areTasks xs
  · have hP := Lib.hid (fun w' hb => list_no (w := w) (w' := w') hq (behRes_no hq) hb)
    rw [hq] at hA hP
    generalize ListPost (behRes xs) _ w = POST at *
    clear hq
    go_enter Try.func39, Try.ntmps39
    go_wp2_with fail
    refine (hA.out).mono ?_
    rintro e w1 ⟨rfl, hb1⟩
    have hB1 := Lib.hid hb1
    clear hb1
    go_wp2_with fail
    exact hP.out _ hB1.out
  · have hP := Lib.hid (fun w' v ho hb => list_yes (w := w) (w' := w') (r := behRes xs) (v := v) hq (by rw [behRes_yes hq]; exact behTo_length xs _) ho hb)
    rw [behRes_yes hq] at hP
    rw [behRes_yes hq]
    rw [hq] at hA hP
    have hFt := Lib.hid (areTasks_fit hq)
    generalize ListPost (behTo xs xs.length) _ w = POST at *
    have hm : xs.length ≤ 16 := hFt.out.most
    obtain ⟨_, _, e1, _, _, _, hc⟩ := hL.out.at_
    injection e1 with e1 _ e2
    subst e1 e2
    have hC : Hid (∀ i, i < xs.length → ∃ (b o : Nat) (x : TaskD) (ab : Option Addr) (cb : Nat) (al : Option Addr) (nl cl : Nat), a = some ⟨b, o, none⟩ ∧ b < w.heap.size ∧ xs[i]? = some x ∧ x.Before.length ≤ 16 ∧ w.cell? ⟨b, o + i * 4 + 2, none⟩ = some (.slice ab x.Before.length cb) ∧
        w.cell? ⟨b, o + i * 4, none⟩ = some (.int .i64 x.Time) ∧ w.cell? ⟨b, o + i * 4 + 1, none⟩ = some (.int .i64 x.Needs) ∧ w.cell? ⟨b, o + i * 4 + 3, none⟩ = some (.slice al nl cl) ∧
        ∀ j, j < x.Before.length → ∃ bb ob bn : Nat, ab = some ⟨bb, ob, none⟩ ∧ bb < w.heap.size ∧ bn < i ∧ bAt x j = (bn : Int) ∧ w.cell? ⟨bb, ob + j, none⟩ = some (.int .i64 (bn : Int))) := Lib.hid fun i hi => by
      obtain ⟨b, o, x, vb, vl, rfl, hb, hx, c0, c1, c2, c3, l0, l1⟩ := hc i hi
      obtain ⟨ab, cb, rfl, _, _, _, hcb⟩ := l0.at_
      obtain ⟨al, cl, rfl, _⟩ := l1
      refine ⟨b, o, x, ab, cb, al, _, cl, rfl, by omega, hx, before_few hFt.out hx, c2, c0, c1, c3, fun j hj => ?_⟩
      obtain ⟨bb, ob, y, rfl, hbb, hy, cy⟩ := hcb j hj
      have hbj := hFt.out.before i x hx j hj
      have ey : bAt x j = y := getD_some hy
      rw [ey] at hbj
      obtain ⟨bn, rfl⟩ : ∃ bn : Nat, y = (bn : Int) := ⟨y.toNat, by omega⟩
      exact ⟨bb, ob, bn, rfl, by omega, by omega, ey, cy⟩
    have hStart : Hid (behTo xs 0 = List.replicate xs.length 0) := Lib.hid rfl
    have hNext : Hid (∀ i x, xs[i]? = some x → behTo xs (i + 1) = behIn x i (behTo xs i) x.Before.length) := Lib.hid fun i x hx => by simp only [behTo]; rw [getD_some hx]
    have hIn0 : Hid (∀ x i bs, behIn x i bs 0 = bs) := Lib.hid fun _ _ _ => rfl
    have hIn1 : Hid (∀ x i bs j (bn : Nat), bAt x j = (bn : Int) → behIn x i bs (j + 1) = (behIn x i bs j).set i (orI ((behIn x i bs j).getD i 0) (orI ((behIn x i bs j).getD bn 0) (shlI bn)))) := Lib.hid fun x i bs j bn hb => by simp only [behIn, behVal]; rw [hb, Int.toNat_natCast]
    have hLen : Hid (∀ k, (behTo xs k).length = xs.length) := Lib.hid fun k => behTo_length xs k
    have hLen2 : Hid (∀ x i k j, (behIn x i (behTo xs k) j).length = xs.length) := Lib.hid fun x i k j => by rw [behIn_length, behTo_length]
    clear hq hc
    generalize hnn : xs.length = n at *
    have hN := Lib.hid hnn
    clear hnn
    unfold maxLen at hl
    go_enter Try.func39, Try.ntmps39
    go_wp2_with fail
    refine (hA.out).mono ?_
    rintro e w1 ⟨rfl, hb1⟩
    have hB1 := Lib.hid hb1
    clear hb1
    go_wp2_with (at_make; refine wpList_make_full _ rfl _ _ _ rfl w1.heap.size _ i0 (.int .i64 0) 1 Try.underlying30 hi hz0 hz1 _ _ _ _ n rfl rfl rfl rfl ?c1 ?c2 ?c3 ?_)
    case c1 => first | (rw [hz2]; omega) | omega
    case c2 => unfold maxLen; omega
    try case c3 => exact Nat.le_refl _
    intro w2 hown0 hg0
    have hB2 := Lib.hid (show Below w1.heap.size w1 w2 from (Below.refl _ _).grown hg0 (Nat.le_refl _) (fun k hk => by cases hk))
    have hO2 := Lib.hid (show w2.ownsRow w1.heap.size 2 1 (.slice (some ⟨w1.heap.size, 0, none⟩) n n) n ((behTo xs 0).map (Value.int .i64)) by rw [hStart.out]; exact zeros_own' hown0)
    clear hown0 hg0 hz0 hz1 hz2 hi
    have hsz := hB1.out.size
    go_wp2_with fail
    go_loopw [17] (fun i wr => ∃ k : Nat, k ≤ n ∧ i = .int .i64 k ∧ Hid (wr.ownsRow w1.heap.size 2 1 (.slice (some ⟨w1.heap.size, 0, none⟩) n n) n ((behTo xs k).map (Value.int .i64))) ∧ Hid (Below w1.heap.size w1 wr)) (fun i _ => n - (intOf i).toNat)
    case atStart => exact ⟨0, Nat.zero_le _, rfl, hO2, hB2⟩
    case round =>
      obtain ⟨k, hk, rfl, hO5, hB5⟩ := hrel
      by_cases hlt : k < n
      · obtain ⟨b, o, x, ab, cb, al, nl, cl, rfl, hb, hx, hfew, c2, c0, c1, c3, hcells⟩ := hC.out k hlt
        have hCl := Lib.hid hcells
        have hX := Lib.hid hx
        have hBw := Lib.hid (below_on hB1.out (Nat.le_refl _) hB5.out)
        have hkI : (k : Int) < n := by omega
        rw [← hBw.out.cell (p := ⟨b, o + k * 4 + 2, none⟩) hb] at c2
        rw [← hBw.out.cell (p := ⟨b, o + k * 4, none⟩) hb] at c0
        rw [← hBw.out.cell (p := ⟨b, o + k * 4 + 1, none⟩) hb] at c1
        rw [← hBw.out.cell (p := ⟨b, o + k * 4 + 3, none⟩) hb] at c3
        have hNx := Lib.hid (hNext.out k x hx)
        have hI0 := Lib.hid (hIn0.out x k (behTo xs k))
        clear hcells hx
        generalize hnb : x.Before.length = nb at *
        clear hnb
        go_wp2_with fail
        generalize hw4 : World.alloc wr _ = w4
        have hB6 := Lib.hid (show Below w1.heap.size w1 w4 by rw [← hw4]; exact hB5.out.alloc hB5.out.size _)
        have hO6 := hO5.out
        rw [← hI0.out] at hO6
        have hO7 := Lib.hid (show w4.ownsRow _ _ _ _ _ _ by rw [← hw4]; exact hO6.alloc _)
        clear hO6 hO5 hB5 hw4 c0 c1 c2 c3
        go_loopw [25] (fun i wr => ∃ j : Nat, j ≤ nb ∧ i = .int .i64 j ∧ Hid (wr.ownsRow w1.heap.size 2 1 (.slice (some ⟨w1.heap.size, 0, none⟩) n n) n ((behIn x k (behTo xs k) j).map (Value.int .i64))) ∧ Hid (Below w1.heap.size w1 wr)) (fun i _ => nb - (intOf i).toNat)
        case atStart => exact ⟨0, Nat.zero_le _, rfl, hO7, hB6⟩
        case round =>
          obtain ⟨j, hj, rfl, hO8, hB8⟩ := hrel
          by_cases hjl : j < nb
          · obtain ⟨bb, ob, bn, rfl, hbb, hbn, hbe, f1⟩ := hCl.out j hjl
            have hBw8 := Lib.hid (below_on hB1.out (Nat.le_refl _) hB8.out)
            have e2 : wr.cell? ⟨bb, ob + j, none⟩ = some (.int .i64 (bn : Int)) := by rw [hBw8.out.cell (p := ⟨bb, ob + j, none⟩) hbb]; exact f1
            have hlen : (behIn x k (behTo xs k) j).length = n := hLen2.out x k k j
            have e3 : wr.cell? ⟨w1.heap.size, k, none⟩ = some (.int .i64 ((behIn x k (behTo xs k) j).getD k 0)) := by
              rw [hO8.out.cellAt k (by omega), List.getElem?_map, getD_get (by omega)]; rfl
            have e4 : wr.cell? ⟨w1.heap.size, bn, none⟩ = some (.int .i64 ((behIn x k (behTo xs k) j).getD bn 0)) := by
              rw [hO8.out.cellAt bn (by omega), List.getElem?_map, getD_get (by omega)]; rfl
            have hst1 := Lib.hid (hIn1.out x k (behTo xs k) j bn hbe)
            generalize hc0 : (behIn x k (behTo xs k) j).getD k 0 = c0 at *
            generalize hd0 : (behIn x k (behTo xs k) j).getD bn 0 = d0 at *
            have hsh : IntKind.i64.wrap (1 * 2 ^ bn) = shlI bn := rfl
            have hsh2 : IntKind.i64.wrap (2 ^ bn) = shlI bn := by unfold shlI; rw [Int.one_mul]
            have hor1 : bits .or .i64 d0 (shlI bn) = orI d0 (shlI bn) := rfl
            have hor2 : bits .or .i64 c0 (orI d0 (shlI bn)) = orI c0 (orI d0 (shlI bn)) := rfl
            have hi1 : (bn : Int) < n := by omega
            have hi2 : (j : Int) < nb := by omega
            have hi3 : (bn : Int) ≤ 64 := by omega
            have hf0 : wr.frozen? ⟨w1.heap.size, k, none⟩ = false := hO8.out.frozenAt k
            clear hc0 hd0 hlen f1
            go_wp2_with fail
            go_still_tail 12, (by kernel_rfl)
            change wpList _ _ _ _ _ wr.drew
            have hO9 := show wr.drew.ownsRow _ _ _ _ _ _ from hO8.out.drew
            have hB9 := Lib.hid (show Below w1.heap.size w1 wr.drew from hB8.out.drew)
            have e5 : wr.drew.cell? ⟨w1.heap.size, k, none⟩ = some (.int .i64 c0) := e3
            have hf1 : wr.drew.frozen? ⟨w1.heap.size, k, none⟩ = false := hf0
            generalize wr.drew = w5 at *
            have hst := hO9.stored k (.int .i64 (orI c0 (orI d0 (shlI bn))))
            rw [← List.map_set, ← hst1.out] at hst
            have hO10 := Lib.hid hst.1
            have hB10 := Lib.hid (hB9.out.setCell (p := ⟨w1.heap.size, k, none⟩) (Nat.le_refl _) (.int .i64 (orI c0 (orI d0 (shlI bn)))))
            clear hst hO9 hO8 hB8 e2 e3 e4 hf0 hBw8
            go_wp2_with fail
            go_roundw
            case rel => exact ⟨j + 1, by omega, by go_num, hO10, hB10⟩
            case measure => simp [intOf]; omega
          · have hO9 := hO8.out
            rw [show j = nb by omega, ← hNx.out] at hO9
            have hO10 := Lib.hid hO9
            clear hO9 hO8
            go_wp2_with fail
            go_roundw
            case rel => exact ⟨k + 1, by omega, by go_num, hO10, hB8⟩
            case measure => simp [intOf]; omega
      · have hk2 : k = n := by omega
        subst hk2
        have hO7 := Lib.hid ((Own.new hO5.out (by unfold maxLen; omega)).mono hsz (Nat.le_refl _))
        have hB6 := Lib.hid (below_on hB1.out (Nat.le_refl _) hB5.out)
        clear hO5 hB5
        go_wp2_with fail
        exact hP.out _ _ hO7.out hB6.out
theorem behindOf_both (xs : List TaskD) (_ : ∀ y ∈ xs, y.wf) : ∃ (r0 : List Int) (r1 : Bool), r0.length ≤ 1048576 ∧
    (∀ (B : Nat) (v : Value) (w : World), LstTask B w v xs → B ≤ w.heap.size → Calls Try.prog 38 #[v] w fun e w' => ∃ v', e = .returned (.tuple #[v', .bool r1]) ∧ Own w.heap.size w'.heap.size w' v' 2 1 r0.length (r0.map (Value.int .i64)) ∧ Below w.heap.size w w') ∧
    (∀ (B : Nat) (v : Value) (w : World), LstTask B w v xs → B ≤ w.heap.size → Calls Try.prog 39 #[v] w fun e w' => ∃ v', e = .returned (.tuple #[v', .bool r1]) ∧ Own w.heap.size w'.heap.size w' v' 2 1 r0.length (r0.map (Value.int .i64)) ∧ Below w.heap.size w w') :=
  ⟨behRes xs, areTasks xs, behRes_length xs, fun B v w h hB => specBehindOf_any B v xs w h hB, fun B v w h hB => implBehindOf_any B v xs w h hB⟩
end Go.Proofs.Ytlgojbbhjhifhaa
