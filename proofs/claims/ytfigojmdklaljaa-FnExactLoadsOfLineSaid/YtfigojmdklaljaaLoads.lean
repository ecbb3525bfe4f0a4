/- Contracts: the loads of stations. -/
import Derived.Test.YtfigojmdklaljaaLine
import Derived.Test.YtfigojmdklaljaaPost
import Derived.Test.YtfigojmdklaljaaMixPure
namespace Go.Proofs.Ytfigojmdklaljaa
open Go.RowKit Go.Lst

def loadsTo (ts st : List Int) (z : Nat) (k : Nat) : List Int := (List.range k).foldl (fun l i => l.set (st.getD i 0).toNat (l.getD (st.getD i 0).toNat 0 + ts.getD i 0)) (List.replicate z 0)
theorem loadsTo_step (ts st : List Int) (z k : Nat) : loadsTo ts st z (k + 1) = (loadsTo ts st z k).set (st.getD k 0).toNat ((loadsTo ts st z k).getD (st.getD k 0).toNat 0 + ts.getD k 0) := by
  unfold loadsTo
  rw [List.range_succ, List.foldl_append]
  rfl
theorem loadsTo_length (ts st : List Int) (z : Nat) : ∀ k, (loadsTo ts st z k).length = z
  | 0 => by simp [loadsTo]
  | k + 1 => by rw [loadsTo_step, List.length_set, loadsTo_length ts st z k]
def canLoads (ts st : List Int) : Bool := okLine ts && decide (st.length = ts.length) && allIn st 0 11
def stationsOf (st : List Int) (n : Nat) : Nat := (maxTo st (n - 1)).toNat + 1
def loadsRes (ts st : List Int) : List Int := if canLoads ts st then loadsTo ts st (stationsOf st ts.length) ts.length else []
theorem canLoads_of {ts st : List Int} (h : canLoads ts st = true) : okLine ts = true ∧ st.length = ts.length ∧ ∀ (i : Nat) (x : Int), st[i]? = some x → 0 ≤ x ∧ x ≤ 11 := by
  simp only [canLoads, Bool.and_eq_true, decide_eq_true_eq] at h
  exact ⟨h.1.1, h.1.2, fun i x hx => allIn_of h.2 hx⟩
theorem stations_max {ts st : List Int} (h : canLoads ts st = true) : 0 ≤ maxTo st (ts.length - 1) ∧ maxTo st (ts.length - 1) ≤ 11 ∧ maxTo st (ts.length - 1) + 1 = ((stationsOf st ts.length : Nat) : Int) ∧ stationsOf st ts.length ≤ 12 := by
  obtain ⟨h1, h2, h3⟩ := canLoads_of h
  have h4 := (okLine_of h1).1
  have := maxTo_bound h3 (ts.length - 1) (by omega)
  unfold stationsOf
  omega
theorem loadsRes_length (ts st : List Int) : (loadsRes ts st).length ≤ 1048576 := by
  unfold loadsRes
  split
  · rename_i h
    rw [loadsTo_length]
    have := stations_max h
    omega
  · simp
theorem loads_round {ts st : List Int} (h : canLoads ts st = true) {k : Nat} (hk : k < ts.length) {l : List Int} (hS : loadsTo ts st (stationsOf st ts.length) k = l) (hf : Small l (10000 * k)) :
    ∃ (j : Nat) (x f : Int), st[k]? = some (j : Int) ∧ j < stationsOf st ts.length ∧ ts[k]? = some x ∧ l.getD j 0 = f ∧ j < l.length ∧ 0 ≤ f ∧ f ≤ 10000 * k ∧ 1 ≤ x ∧ x ≤ 10000 ∧
      loadsTo ts st (stationsOf st ts.length) (k + 1) = l.set j (f + x) ∧ Small (l.set j (f + x)) (10000 * ((k + 1 : Nat) : Int)) := by
  obtain ⟨h1, h2, h3⟩ := canLoads_of h
  have e1 : st[k]? = some (st[k]'(by omega)) := List.getElem?_eq_getElem _
  have e2 : ts[k]? = some ts[k] := List.getElem?_eq_getElem _
  have h4 := h3 k _ e1
  have h5 := (okLine_of h1).2.2 k _ e2
  have h6 := maxTo_ge (xs := st) (k := ts.length - 1) (i := k) (by omega)
  rw [getD_of e1] at h6
  obtain ⟨j, hj⟩ := Int.eq_ofNat_of_zero_le h4.1
  rw [hj] at e1 h6
  have hl : l.length = stationsOf st ts.length := by rw [← hS, loadsTo_length]
  have hjz : j < stationsOf st ts.length := by unfold stationsOf; omega
  refine ⟨j, _, _, e1, hjz, e2, rfl, by omega, (hf j).1, (hf j).2, h5.1, h5.2, ?_, hf.set ⟨by have := hf j; omega, by have := hf j; omega⟩ (by omega)⟩
  rw [loadsTo_step, hS, getD_of e1, getD_of e2, Int.toNat_natCast]

set_option maxHeartbeats 4000000 in
theorem implLoads_any (B : Nat) (v1 v2 : Value) (ts st : List Int) (w : World) (h1 : LstI B w v1 ts) (h2 : LstI B w v2 st) (hB : B ≤ w.heap.size) :
    Calls Try.prog 22 #[v1, v2] w (ListPost (loadsRes ts st) (canLoads ts st) w) := by
  have hT := Lib.hid (areLineTimes_any B v1 ts w h1)
  have hA := Lib.hid (areWithin_any B v2 st 0 11 w h2.lst)
  obtain ⟨a1, cap1, rfl, hl1, _, _, hc1⟩ := h1.at_
  obtain ⟨a2, cap2, rfl, hl2, _, _, hc2⟩ := h2.at_
  cases hq : canLoads ts st
  · have hP := Lib.hid (list_no (r := loadsRes ts st) (ok := false) (w := w) (w' := w) (by unfold loadsRes; rw [hq]; rfl) rfl (Below.refl _ _))
    generalize ListPost (loadsRes ts st) false w = Q at *
    unfold canLoads at hq
    clear hc1 hc2 h1 h2
    cases hq1 : okLine ts
    · rw [hq1] at hT
      generalize ts.length = n at *
      generalize st.length = m at *
      unfold maxLen at hl1 hl2
      clear hq hq1
      go_enter Try.func22, Try.ntmps22
      go_wp2_with (first | (go_at_call 44; with_reducible refine (hT.out).mono ?_; rintro e w' ⟨rfl, rfl⟩) | (go_at_call 51; with_reducible refine (hA.out).mono ?_; rintro e w' ⟨rfl, rfl⟩))
      first | exact hP.out | (go_ret2; exact hP.out)
    · rw [hq1] at hT
      by_cases he : st.length = ts.length
      · have hq2 : allIn st 0 11 = false := by rw [hq1, decide_eq_true he] at hq; simpa using hq
        rw [hq2] at hA
        rw [he] at hA hl2 ⊢
        generalize ts.length = n at *
        unfold maxLen at hl1 hl2
        clear hq hq1 hq2 he
        go_enter Try.func22, Try.ntmps22
        go_wp2_with (first | (go_at_call 44; with_reducible refine (hT.out).mono ?_; rintro e w' ⟨rfl, rfl⟩) | (go_at_call 51; with_reducible refine (hA.out).mono ?_; rintro e w' ⟨rfl, rfl⟩))
        first | exact hP.out | (go_ret2; exact hP.out)
      · have hb : ((st.length : Int) != (ts.length : Int)) = true := by rw [bne_iff_ne]; omega
        have hb2 : (st.length != ts.length) = true := by rw [bne_iff_ne]; exact he
        generalize ts.length = n at *
        generalize st.length = m at *
        unfold maxLen at hl1 hl2
        clear hq hq1 he
        go_enter Try.func22, Try.ntmps22
        go_wp2_with (first | (go_at_call 44; with_reducible refine (hT.out).mono ?_; rintro e w' ⟨rfl, rfl⟩) | (go_at_call 51; with_reducible refine (hA.out).mono ?_; rintro e w' ⟨rfl, rfl⟩))
        first | exact hP.out | (go_ret2; exact hP.out)
  · obtain ⟨hq1, he, hin⟩ := canLoads_of hq
    have hq2 : allIn st 0 11 = true := by have := hq; simp only [canLoads, Bool.and_eq_true] at this; exact this.2
    rw [hq1] at hT
    rw [hq2] at hA
    have hM := Lib.hid (slicesMax_any B _ st w h2 (by have := (okLine_of hq1).1; omega))
    rw [he] at hA hM hl2 hc2 ⊢
    have hZ := Lib.hid (stations_max hq)
    have hK : Hid (∀ (k : Nat) (l : List Int), k < ts.length → loadsTo ts st (stationsOf st ts.length) k = l → Small l (10000 * k) → _) := Lib.hid fun k l (a : k < ts.length) b c => loads_round hq a (l := l) b c
    have hP : Hid (∀ w' (l : List Int), loadsTo ts st (stationsOf st ts.length) ts.length = l → w'.ownsRow w.heap.size 2 1 (.slice (some ⟨w.heap.size, 0, none⟩) (stationsOf st ts.length) (stationsOf st ts.length)) (stationsOf st ts.length) (l.map (Value.int .i64)) → Below w.heap.size w w' → ListPost (loadsRes ts st) true w (.returned (.tuple #[.slice (some ⟨w.heap.size, 0, none⟩) (stationsOf st ts.length) (stationsOf st ts.length), .bool true])) w') := Lib.hid fun w' l hS ho hb => by
      have hr : loadsRes ts st = l := by unfold loadsRes; rw [hq, if_pos rfl]; exact hS
      rw [hr]
      exact list_yes rfl (Nat.le_refl _) (by rw [← hS, loadsTo_length]) ho (by have := stations_max hq; omega) hb
    have n12 := (okLine_of hq1).2.1
    have n1 := (okLine_of hq1).1
    have hC1 := Lib.hid hc1
    have hC2 := Lib.hid hc2
    obtain ⟨i0, hi, hz0, hz1, hz2⟩ := info_parts infoI
    generalize ListPost (loadsRes ts st) true w = Q at *
    clear hc1 hc2 h1 h2 hq hq1 hq2 he hin
    generalize ts.length = n at *
    unfold maxLen at hl1 hl2
    go_enter Try.func22, Try.ntmps22
    go_wp2_with (first | (go_at_call 44; with_reducible refine (hT.out).mono ?_; rintro e w' ⟨rfl, rfl⟩) | (go_at_call 51; with_reducible refine (hA.out).mono ?_; rintro e w' ⟨rfl, rfl⟩))
    refine (hM.out).mono ?_
    rintro e w' ⟨rfl, rfl⟩
    obtain ⟨z0, z1, z2, z3⟩ := hZ.out
    generalize hz : stationsOf st n = Z at *
    clear hz
    generalize maxTo st (n - 1) = mx at *

    go_wp2_with (at_make; refine wpList_make_full _ rfl _ _ _ rfl w.heap.size _ i0 (.int .i64 0) 1 Try.underlying22 hi hz0 hz1 _ _ _ _ Z rfl rfl rfl rfl ?c1 ?c2 ?c3 ?_)
    case c1 => rw [hz2]; omega
    case c2 => unfold maxLen; omega
    case c3 => exact Nat.le_refl _
    intro w2 hown2 hg2
    have hB2 := Lib.hid ((Below.refl w.heap.size w).grown hg2 (Nat.le_refl _) (fun k hk => by cases hk))
    have hO2 := Lib.hid (zeros_row hown2)
    have hs2 : w.heap.size < w2.heap.size := (hown2.lt _ rfl).2
    clear hown2 hg2 hz0 hz1 hz2 hi z0 z1 z2
    have hWg := Lib.hid (rfl : w.heap.size = w.heap.size)
    generalize hgg : w.heap.size = g at *
    have hGG := Lib.hid hgg
    clear hgg hWg
    go_wp2_with fail
    go_loopw [30] (fun ii wr => ∃ (k : Nat) (l : List Int), k ≤ n ∧ ii = .int .i64 k ∧ Hid (loadsTo ts st Z k = l) ∧ Hid (Small l (10000 * k)) ∧ Hid (wr.ownsRow g 2 1 (.slice (some ⟨g, 0, none⟩) Z Z) Z (l.map (Value.int .i64))) ∧ Hid (Below g w wr)) (fun ii _ => n - (intOf ii).toNat)
    case atStart => exact ⟨0, _, Nat.zero_le _, rfl, Lib.hid rfl, Lib.hid (zeros_small Z), hO2, hB2⟩
    case round =>
      clear hB2 hO2 hs2
      obtain ⟨k, l, hk, rfl, hS, hSm, hO, hB⟩ := hrel
      by_cases hlt : k < n
      · obtain ⟨j, x, f, hj, hjZ, hx, hfj, hjl, f0, f1, x0, x1, hS2, hSm2⟩ := hK.out k l hlt hS.out hSm.out
        obtain ⟨b1, o1, x', rfl, hb1, hx', p0⟩ := hC1.out k hlt
        obtain rfl : x' = x := by rw [hx] at hx'; exact (Option.some.inj hx').symm
        obtain ⟨b2, o2, j', rfl, hb2, hj', q0⟩ := hC2.out k hlt
        obtain rfl : j' = (j : Int) := by rw [hj] at hj'; exact (Option.some.inj hj').symm
        rw [← hB.out.cell (p := ⟨b1, o1 + k, none⟩) (show b1 < g by have := hGG.out; omega)] at p0
        rw [← hB.out.cell (p := ⟨b2, o2 + k, none⟩) (show b2 < g by have := hGG.out; omega)] at q0
        have hd : wr.cell? ⟨g, j, none⟩ = some (.int .i64 f) := by rw [row_cell hO.out hjl, hfj]
        have hfr : wr.frozen? ⟨g, j, none⟩ = false := hO.out.frozenAt j
        have hw1 : IntKind.i64.wrap (f + x') = f + x' := IntWalk.i64_in _ (by omega)
        have hS3 := Lib.hid hS2
        have hSm3 := Lib.hid hSm2
        have hn12 : (k : Int) < 12 := by omega
        have hj1 : (j : Int) < Z := by omega
        clear hx hx' hj hj' hS2 hSm2 hfj
        go_wp2_with fail
        go_still_tail 10, (by kernel_rfl)
        change wpList _ _ _ _ _ wr.drew
        have hO3 := show wr.drew.ownsRow _ _ _ _ _ _ from hO.out.drew
        have hB3 := hB.out.drew
        have hd2 : wr.drew.cell? ⟨g, j, none⟩ = some (.int .i64 f) := hd
        have hfr2 : wr.drew.frozen? ⟨g, j, none⟩ = false := hfr
        generalize wr.drew = w5 at *
        have hst := row_set hO3 j (f + x')
        have hO4 := Lib.hid hst.1
        have hB4 := Lib.hid (hB3.setCell (p := ⟨g, j, none⟩) (Nat.le_refl _) (.int .i64 (f + x')))
        clear hst hO3 hB3 hO hB p0 q0 hd hfr hw1
        go_wp2_with fail
        go_roundw
        case rel => exact ⟨k + 1, _, by omega, by go_num, hS3, hSm3, hO4, hB4⟩
        case measure => simp [intOf]; omega
      · have hkn := Lib.hid (show k = n by omega)
        have hR := Lib.hid (hP.out wr l (by rw [← hkn.out]; exact hS.out) hO.out hB.out)
        clear hO hB hS hSm
        go_wp2_with fail
        first | exact hR.out | (go_ret2; exact hR.out)
set_option maxHeartbeats 4000000 in
theorem specLoads_any (B : Nat) (v1 v2 : Value) (ts st : List Int) (w : World) (h1 : LstI B w v1 ts) (h2 : LstI B w v2 st) (hB : B ≤ w.heap.size) :
    Calls Try.prog 21 #[v1, v2] w (ListPost (loadsRes ts st) (canLoads ts st) w) := by
  have hT := Lib.hid (l04Tasks_any B v1 ts w h1)
  have hG : Hid (1 ≤ st.length → _) := Lib.hid fun hp => l02Greatest_any B v2 st w h2 hp
  obtain ⟨a1, cap1, rfl, hl1, _, _, hc1⟩ := h1.at_
  obtain ⟨a2, cap2, rfl, hl2, _, _, hc2⟩ := h2.at_
  have hNo : Hid (canLoads ts st = false → ListPost (loadsRes ts st) (canLoads ts st) w (.returned (.tuple #[.slice none 0 0, .bool false])) w) := Lib.hid fun hq => by
    rw [hq]
    exact list_no (by unfold loadsRes; rw [hq]; rfl) rfl (Below.refl _ _)
  cases hq1 : okLine ts
  · have hP := Lib.hid (hNo.out (by unfold canLoads; rw [hq1]; rfl))
    generalize ListPost (loadsRes ts st) (canLoads ts st) w = Q at *
    rw [hq1] at hT
    clear hc1 hc2 h1 h2 hG hNo hq1
    generalize ts.length = n at *
    generalize st.length = m at *
    unfold maxLen at hl1 hl2
    go_enter Try.func21, Try.ntmps21
    go_wp2_with (go_at_call 46; with_reducible refine (hT.out).mono ?_; rintro e w' ⟨rfl, rfl⟩)
    first | exact hP.out | (go_ret2; exact hP.out)
  · rw [hq1] at hT
    by_cases he : st.length = ts.length
    · have hF : Hid (∀ (i : Nat) (x : Int), st[i]? = some x → inB x 0 11 = false → ListPost (loadsRes ts st) (canLoads ts st) w (.returned (.tuple #[.slice none 0 0, .bool false])) w) := Lib.hid fun i x hx hq => hNo.out (by
        unfold canLoads allIn
        rw [all_not hx hq, Bool.and_false])
      have n1 := (okLine_of hq1).1
      have hM := Lib.hid (hG.out (by omega))
      rw [he] at hM hl2 hc2 ⊢
      have hY : Hid (∀ k, k = ts.length → (∀ i x, i < k → st[i]? = some x → inB x 0 11 = true) → canLoads ts st = true) := Lib.hid fun k hk hp => by
        unfold canLoads allIn
        rw [all_upto fun i x hi hx => hp i x (by omega) hx, hq1, decide_eq_true he]; rfl
      have hZf : Hid (canLoads ts st = true → _) := Lib.hid fun hq => stations_max hq
      have hKf : Hid (canLoads ts st = true → ∀ (k : Nat) (l : List Int), k < ts.length → loadsTo ts st (stationsOf st ts.length) k = l → Small l (10000 * k) → _) := Lib.hid fun hq k l (a : k < ts.length) b c => loads_round hq a (l := l) b c
      have hPf : Hid (canLoads ts st = true → ∀ w' (l : List Int), loadsTo ts st (stationsOf st ts.length) ts.length = l → w'.ownsRow w.heap.size 2 1 (.slice (some ⟨w.heap.size, 0, none⟩) (stationsOf st ts.length) (stationsOf st ts.length)) (stationsOf st ts.length) (l.map (Value.int .i64)) → Below w.heap.size w w' → ListPost (loadsRes ts st) (canLoads ts st) w (.returned (.tuple #[.slice (some ⟨w.heap.size, 0, none⟩) (stationsOf st ts.length) (stationsOf st ts.length), .bool true])) w') := Lib.hid fun hq w' l hS ho hb => by
        have hr : loadsRes ts st = l := by unfold loadsRes; rw [hq, if_pos rfl]; exact hS
        rw [hr, hq]
        exact list_yes rfl (Nat.le_refl _) (by rw [← hS, loadsTo_length]) ho (by have := stations_max hq; omega) hb
      have n12 := (okLine_of hq1).2.1
      have hC1 := Lib.hid hc1
      have hC2 := Lib.hid hc2
      obtain ⟨i0, hi, hz0, hz1, hz2⟩ := info_parts infoI
      have hI := Lib.hid (And.intro hi (And.intro hz0 (And.intro hz1 hz2)))
      generalize ListPost (loadsRes ts st) (canLoads ts st) w = Q at *
      clear hc1 hc2 h1 h2 hq1 he hG hNo hi hz0 hz1 hz2
      generalize ts.length = n at *
      unfold maxLen at hl1 hl2
      go_enter Try.func21, Try.ntmps21
      go_wp2_with (go_at_call 46; with_reducible refine (hT.out).mono ?_; rintro e w' ⟨rfl, rfl⟩)
      go_loopw [6] (fun i wr => ∃ k : Nat, k ≤ n ∧ i = .int .i64 k ∧ Hid (∀ i x, i < k → st[i]? = some x → inB x 0 11 = true) ∧ w = wr) (fun i _ => n - (intOf i).toNat)
      case atStart => exact ⟨0, Nat.zero_le _, rfl, Lib.hid (fun i x hi _ => by omega), rfl⟩
      case round =>
        obtain ⟨k, hk, rfl, hPk, rfl⟩ := hrel
        by_cases hlt : k < n
        · obtain ⟨b, o, x, rfl, _, hx, hcell⟩ := hC2.out k hlt
          have hXx := Lib.hid hx
          clear hx
          cases hq : inB x 0 11
          · have hP := Lib.hid (hF.out k x hXx.out hq)
            go_wp2_with (go_at_call 47; with_reducible refine (l00In_any _ _ _ _).mono ?_; rw [hq]; rintro e w' ⟨rfl, rfl⟩)
            first | exact hP.out | (go_ret2; exact hP.out)
          · have hP2 : Hid (∀ i y, i < k + 1 → st[i]? = some y → inB y 0 11 = true) := Lib.hid fun i y hi hy => by
              by_cases h1 : i < k
              · exact hPk.out i y h1 hy
              · have : i = k := by omega
                subst this
                rw [hXx.out] at hy
                cases hy
                exact hq
            go_wp2_with (go_at_call 47; with_reducible refine (l00In_any _ _ _ _).mono ?_; rw [hq]; rintro e w' ⟨rfl, rfl⟩)
            go_roundw
            case rel => exact ⟨k + 1, by omega, by go_num, hP2, by trivial⟩
            case measure => simp [intOf]; omega
        · have hq := hY.out k (by omega) hPk.out
          have hZ := Lib.hid (hZf.out hq)
          have hK := Lib.hid (hKf.out hq)
          have hP := Lib.hid (hPf.out hq)
          obtain rfl : n = k := by omega
          obtain ⟨hi, hz0, hz1, hz2⟩ := hI.out
          clear hq hY hZf hKf hPf hPk hI hF hlt hk
          go_wp2_with fail
          with_reducible refine (hM.out).mono ?_
          rintro e w' ⟨rfl, rfl⟩
          obtain ⟨z0, z1, z2, z3⟩ := hZ.out
          generalize hz : stationsOf st n = Z at *
          clear hz
          generalize maxTo st (n - 1) = mx at *

          go_wp2_with (at_make; refine wpList_make_full _ rfl _ _ _ rfl w.heap.size _ i0 (.int .i64 0) 1 Try.underlying22 hi hz0 hz1 _ _ _ _ Z rfl rfl rfl rfl ?c1 ?c2 ?c3 ?_)
          case c1 => rw [hz2]; omega
          case c2 => unfold maxLen; omega
          case c3 => exact Nat.le_refl _
          intro w2 hown2 hg2
          have hB2 := Lib.hid ((Below.refl w.heap.size w).grown hg2 (Nat.le_refl _) (fun k hk => by cases hk))
          have hO2 := Lib.hid (zeros_row hown2)
          have hs2 : w.heap.size < w2.heap.size := (hown2.lt _ rfl).2
          clear hown2 hg2 hz0 hz1 hz2 hi z0 z1 z2
          have hWg := Lib.hid (rfl : w.heap.size = w.heap.size)
          generalize hgg : w.heap.size = g at *
          have hGG := Lib.hid hgg
          clear hgg hWg
          go_wp2_with fail
          go_loopw [8] (fun ii wr => ∃ (k : Nat) (l : List Int), k ≤ n ∧ ii = .int .i64 k ∧ Hid (loadsTo ts st Z k = l) ∧ Hid (Small l (10000 * k)) ∧ Hid (wr.ownsRow g 2 1 (.slice (some ⟨g, 0, none⟩) Z Z) Z (l.map (Value.int .i64))) ∧ Hid (Below g w wr)) (fun ii _ => n - (intOf ii).toNat)
          case atStart => exact ⟨0, _, Nat.zero_le _, rfl, Lib.hid rfl, Lib.hid (zeros_small Z), hO2, hB2⟩
          case round =>
            clear hB2 hO2 hs2
            obtain ⟨k, l, hk, rfl, hS, hSm, hO, hB⟩ := hrel
            by_cases hlt : k < n
            · obtain ⟨j, x, f, hj, hjZ, hx, hfj, hjl, f0, f1, x0, x1, hS2, hSm2⟩ := hK.out k l hlt hS.out hSm.out
              obtain ⟨b1, o1, x', rfl, hb1, hx', p0⟩ := hC1.out k hlt
              obtain rfl : x' = x := by rw [hx] at hx'; exact (Option.some.inj hx').symm
              obtain ⟨b2, o2, j', rfl, hb2, hj', q0⟩ := hC2.out k hlt
              obtain rfl : j' = (j : Int) := by rw [hj] at hj'; exact (Option.some.inj hj').symm
              rw [← hB.out.cell (p := ⟨b1, o1 + k, none⟩) (show b1 < g by have := hGG.out; omega)] at p0
              rw [← hB.out.cell (p := ⟨b2, o2 + k, none⟩) (show b2 < g by have := hGG.out; omega)] at q0
              have hd : wr.cell? ⟨g, j, none⟩ = some (.int .i64 f) := by rw [row_cell hO.out hjl, hfj]
              have hfr : wr.frozen? ⟨g, j, none⟩ = false := hO.out.frozenAt j
              have hw1 : IntKind.i64.wrap (f + x') = f + x' := IntWalk.i64_in _ (by omega)
              have hS3 := Lib.hid hS2
              have hSm3 := Lib.hid hSm2
              have hn12 : (k : Int) < 12 := by omega
              have hj1 : (j : Int) < Z := by omega
              clear hx hx' hj hj' hS2 hSm2 hfj
              go_wp2_with fail
              go_still_tail 13, (by kernel_rfl)
              change wpList _ _ _ _ _ wr.drew
              have hO3 := show wr.drew.ownsRow _ _ _ _ _ _ from hO.out.drew
              have hB3 := hB.out.drew
              have hd2 : wr.drew.cell? ⟨g, j, none⟩ = some (.int .i64 f) := hd
              have hfr2 : wr.drew.frozen? ⟨g, j, none⟩ = false := hfr
              generalize wr.drew = w5 at *
              have hst := row_set hO3 j (f + x')
              have hO4 := Lib.hid hst.1
              have hB4 := Lib.hid (hB3.setCell (p := ⟨g, j, none⟩) (Nat.le_refl _) (.int .i64 (f + x')))
              clear hst hO3 hB3 hO hB p0 q0 hd hfr hw1
              go_wp2_with fail
              go_roundw
              case rel => exact ⟨k + 1, _, by omega, by go_num, hS3, hSm3, hO4, hB4⟩
              case measure => simp [intOf]; omega
            · have hkn := Lib.hid (show k = n by omega)
              have hR := Lib.hid (hP.out wr l (by rw [← hkn.out]; exact hS.out) hO.out hB.out)
              clear hO hB hS hSm
              go_wp2_with fail
              first | exact hR.out | (go_ret2; exact hR.out)
    · have hP := Lib.hid (hNo.out (by unfold canLoads; rw [decide_eq_false he, Bool.and_false]; rfl))
      have hb : ((st.length : Int) != (ts.length : Int)) = true := by rw [bne_iff_ne]; omega
      have hb2 : (st.length != ts.length) = true := by rw [bne_iff_ne]; exact he
      generalize ListPost (loadsRes ts st) (canLoads ts st) w = Q at *
      clear hc1 hc2 h1 h2 hG hNo hq1 he
      generalize ts.length = n at *
      generalize st.length = m at *
      unfold maxLen at hl1 hl2
      go_enter Try.func21, Try.ntmps21
      go_wp2_with (go_at_call 46; with_reducible refine (hT.out).mono ?_; rintro e w' ⟨rfl, rfl⟩)
      first | exact hP.out | (go_ret2; exact hP.out)
theorem loadsOfLine_both (ts st : List Int) (_ : ∀ x ∈ ts, (Lit.int .i64 x).wf = true) (_ : ∀ x ∈ st, (Lit.int .i64 x).wf = true) : ∃ (r0 : List Int) (r1 : Bool), r0.length ≤ 1048576 ∧
    (∀ (B : Nat) (v1 v2 : Value) (w : World), LstI B w v1 ts → LstI B w v2 st → B ≤ w.heap.size → Calls Try.prog 21 #[v1, v2] w fun e w' => ∃ v', e = .returned (.tuple #[v', .bool r1]) ∧ Own w.heap.size w'.heap.size w' v' 2 1 r0.length (r0.map (Value.int .i64)) ∧ Below w.heap.size w w') ∧
    (∀ (B : Nat) (v1 v2 : Value) (w : World), LstI B w v1 ts → LstI B w v2 st → B ≤ w.heap.size → Calls Try.prog 22 #[v1, v2] w fun e w' => ∃ v', e = .returned (.tuple #[v', .bool r1]) ∧ Own w.heap.size w'.heap.size w' v' 2 1 r0.length (r0.map (Value.int .i64)) ∧ Below w.heap.size w w') :=
  ⟨loadsRes ts st, canLoads ts st, loadsRes_length ts st, fun B v1 v2 w h1 h2 hB => specLoads_any B v1 v2 ts st w h1 h2 hB, fun B v1 v2 w h1 h2 hB => implLoads_any B v1 v2 ts st w h1 h2 hB⟩
end Go.Proofs.Ytfigojmdklaljaa
