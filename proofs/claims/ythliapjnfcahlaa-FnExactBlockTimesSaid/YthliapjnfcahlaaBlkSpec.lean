/- Contracts: the times of blocks, in the model. -/
import Derived.Test.YthliapjnfcahlaaBlkYes
namespace Go.Proofs.Ythliapjnfcahlaa
open Go.RowKit Go.Lst

/-- What the model's walk asks of the times, as far as it has seen the heads. -/
theorem blk_facts2 {rs hs : List Int} (h1 : okRuns rs = true) (h3 : hs.length ≤ 12) : ∃ BL GO : Nat → Nat → Int, (∀ j, blkRow rs hs j = fillI (BL (j + 1)) rs.length) ∧ (∀ k, BL 0 k = 0) ∧ (∀ i x, hs[i]? = some x → GO i 0 = x) ∧ (∀ i k, GO i (k + 1) = BL (i + 1) k) ∧
    ∀ i k y, i < hs.length → (∀ j x, j < i + 1 → hs[j]? = some x → inB x 0 100000 = true) → rs[k]? = some y → max (GO i k) (BL i k) + y = BL (i + 1) k ∧ (0 ≤ GO i k ∧ GO i k ≤ 200000) ∧ (0 ≤ BL i k ∧ BL i k ≤ 200000) ∧ 0 ≤ y ∧ y ≤ 1000 := by
  obtain ⟨g1, g2, g3⟩ := okRuns_of h1
  refine ⟨blk (fun k => rs.getD k 0) (fun k => hs.getD k 0), fun i k => blkGo (hs.getD i 0) (blk (fun k => rs.getD k 0) (fun k => hs.getD k 0) i) (fun k => rs.getD k 0) k, fun j => rfl, fun k => rfl, fun i x hx => getD_of hx, fun i k => rfl, fun i k y hi h4 hy => ?_⟩
  have hk : k < rs.length := (List.getElem?_eq_some_iff.1 hy).1
  have e := getD_of hy
  have hb := blk_in2 (rn := fun k => rs.getD k 0) (hs := fun k => hs.getD k 0) (n := rs.length) (m := i + 1) (fun k hk => g3 k _ (by rw [List.getElem?_eq_getElem hk, List.getD_eq_getElem?_getD, List.getElem?_eq_getElem hk]; rfl)) (fun j hj => inB_true (h4 j (hs.getD j 0) hj (by rw [List.getElem?_eq_getElem (by omega), List.getD_eq_getElem?_getD, List.getElem?_eq_getElem (by omega)]; rfl))) g2 (by omega) (Nat.lt_succ_self i) hk
  refine ⟨?_, by rw [← e]; exact hb⟩
  rw [blk_step]
  show _ = max _ _ + rs.getD k 0
  rw [e]
theorem blk_read {RW : Nat → List Int} {BL : Nat → Nat → Int} {n j k : Nat} (hR : ∀ j, RW j = fillI (BL (j + 1)) n) (hk : k < n) (ys : List Int) : (cat RW (j + 1) ++ ys)[j * n + k]? = some (BL (j + 1) k) := by
  have hl : ∀ j, (RW j).length = n := fun j => by rw [hR]; exact fillI_length _ _
  have h1 := cat_length hl (j + 1)
  have h2 : (j + 1) * n = j * n + n := Nat.succ_mul j n
  rw [List.getElem?_append_left (by omega), cat_get hl hk (j + 1) (Nat.lt_succ_self j), hR, fillI_get hk]

set_option maxHeartbeats 8000000 in
set_option maxRecDepth 100000 in
theorem specBlk_any (B : Nat) (v1 v2 : Value) (rs hs : List Int) (w : World) (h1 : LstI B w v1 rs) (h2 : LstI B w v2 hs) (hB : B ≤ w.heap.size) :
    Calls Try.prog 44 #[v1, v2] w (ListPost (blkRes rs hs) (canBlk rs hs) w) := by
  have hA1 := Lib.hid (l05Runs_any B v1 rs w h1)
  have hA2 := Lib.hid (l05Nodes_any hs.length w)
  have hNo : Hid (∀ w', canBlk rs hs = false → Below w.heap.size w w' → ListPost (blkRes rs hs) (canBlk rs hs) w (.returned (.tuple #[.slice none 0 0, .bool false])) w') := Lib.hid fun w' hq hb => by
    rw [hq]; exact list_no (by unfold blkRes; rw [hq]; rfl) rfl hb
  have hYes : Hid (∀ w' v', canBlk rs hs = true → w'.ownsRow w.heap.size 2 1 v' (cat (blkRow rs hs) hs.length).length ((cat (blkRow rs hs) hs.length).map (Value.int .i64)) → Below w.heap.size w w' → ListPost (blkRes rs hs) (canBlk rs hs) w (.returned (.tuple #[v', .bool true])) w') := Lib.hid fun w' v' hq ho hb => by
    have hres : blkRes rs hs = cat (blkRow rs hs) hs.length := by unfold blkRes; rw [if_pos hq]
    have hl := blkRes_length rs hs
    rw [hres] at hl
    rw [hq, hres]
    exact list_yes rfl (Nat.le_refl _) rfl ho hl hb
  have hCan : canBlk rs hs = (okRuns rs && inB hs.length 1 12 && allIn hs 0 100000) := rfl
  obtain ⟨a1, cap1, rfl, hl1, _, _, hc1⟩ := h1.at_
  obtain ⟨a2, cap2, rfl, hl2, _, _, hc2⟩ := h2.at_
  clear h1 h2
  cases q1 : okRuns rs
  · rw [q1] at hA1 hCan
    have hN := Lib.hid (hNo.out w hCan (Below.refl _ _))
    clear hNo hYes hCan q1 hc1 hc2
    generalize ListPost (blkRes rs hs) (canBlk rs hs) w = Q at *
    generalize rs.length = n at *
    generalize hs.length = m at *
    unfold maxLen at hl1 hl2
    go_enter Try.func44, Try.ntmps44
    go_wp2_with (go_at_call 80; (with_reducible refine (hA1.out).mono ?_); rintro e w' ⟨rfl, rfl⟩)
    first | exact hN.out | (go_ret2; exact hN.out)
  · cases q2 : inB (hs.length : Int) 1 12
    · rw [q1] at hA1
      rw [q1, q2] at hCan
      rw [q2] at hA2
      have hN := Lib.hid (hNo.out w hCan (Below.refl _ _))
      clear hNo hYes hCan q1 q2 hc1 hc2
      generalize ListPost (blkRes rs hs) (canBlk rs hs) w = Q at *
      generalize rs.length = n at *
      generalize hs.length = m at *
      unfold maxLen at hl1 hl2
      go_enter Try.func44, Try.ntmps44
      go_wp2_with (first | (go_at_call 80; (with_reducible refine (hA1.out).mono ?_); rintro e w' ⟨rfl, rfl⟩) | (go_at_call 81; (with_reducible refine (hA2.out).mono ?_); rintro e w' ⟨rfl, rfl⟩))
      first | exact hN.out | (go_ret2; exact hN.out)
    · obtain ⟨m1', m12'⟩ := inB_true q2
      have m12 : hs.length ≤ 12 := by omega
      obtain ⟨n1, n12, _⟩ := okRuns_of q1
      obtain ⟨BL, GO, fRow, fZ, fH, fG, fS⟩ := blk_facts2 q1 m12
      rw [q1] at hA1
      rw [q1, q2, Bool.true_and, Bool.true_and] at hCan
      rw [q2] at hA2
      have hBad : Hid (∀ i x, hs[i]? = some x → inB x 0 100000 = false → canBlk rs hs = false) := Lib.hid fun i x hx hq => hCan.trans (all_not hx hq)
      have hGood : Hid ((∀ i x, i < hs.length → hs[i]? = some x → inB x 0 100000 = true) → canBlk rs hs = true) := Lib.hid fun hp => hCan.trans (all_upto fun i x hi hx => hp i x hi hx)
      have hLen : ∀ j, (blkRow rs hs j).length = rs.length := fun j => fillI_length _ _
      have hCl := Lib.hid (cat_length hLen)
      have hRd := Lib.hid (fun j k ys hk => blk_read (RW := blkRow rs hs) (BL := BL) (n := rs.length) (j := j) (k := k) fRow hk ys)
      have hRow := Lib.hid fRow
      have hZ := Lib.hid fZ
      have hH := Lib.hid fH
      have hG := Lib.hid fG
      have hS := Lib.hid fS
      have hC1 := Lib.hid hc1
      have hC2 := Lib.hid hc2
      clear q1 q2 hCan hLen fRow fZ fH fG fS hc1 hc2 m1' m12'
      generalize ListPost (blkRes rs hs) (canBlk rs hs) w = Q at *
      generalize blkRow rs hs = RW at *
      generalize canBlk rs hs = cb at *
      generalize rs.length = n at *
      generalize hs.length = m at *
      unfold maxLen at hl1 hl2
      obtain ⟨i0, hi, hz0, hz1, hz2⟩ := info_parts infoI
      have hO0 := Lib.hid (show (w.alloc (Obj.cells #[] 2)).ownsRow w.heap.size 2 1 (.slice (some ⟨w.heap.size, 0, none⟩) 0 0) 0 [] from World.ownsRow_lit w #[] 0 (Nat.le_refl _) (Nat.zero_le _) rfl)
      have hB0 := Lib.hid (below_alloc (Below.refl w.heap.size w) (.cells #[] 2))
      generalize hgg : w.heap.size = g at *
      have hGG := Lib.hid hgg
      have hBg := Lib.hid hB
      clear hB
      go_enter Try.func44, Try.ntmps44
      go_wp2_with (first | (go_at_call 80; (with_reducible refine (hA1.out).mono ?_); rintro e w' ⟨rfl, rfl⟩) | (go_at_call 81; (with_reducible refine (hA2.out).mono ?_); rintro e w' ⟨rfl, rfl⟩))
      clear hA1 hA2 hgg
      go_loopw [7, 25] (fun ov iv wr => ∃ (i N : Nat) (os : List Int) (ov1 : Value), ov1 = ov ∧ i ≤ m ∧ iv = .int .i64 i ∧ Hid (∀ j x, j < i → hs[j]? = some x → inB x 0 100000 = true) ∧ Hid (N = i * n) ∧ Hid (os = cat RW i) ∧ Hid (wr.ownsRow g 2 1 ov N (os.map (Value.int .i64))) ∧ Hid (Below g w wr)) (fun _ iv _ => m - (intOf iv).toNat)
      case atStart => exact ⟨0, 0, [], _, rfl, Nat.zero_le _, rfl, Lib.hid (fun j x hj _ => by omega), Lib.hid (Nat.zero_mul n).symm, Lib.hid rfl, hO0, hB0⟩
      case round =>
        clear hO0 hB0
        obtain ⟨i, N, os, ov, rfl, hi2, rfl, hP, hN, hos, hO, hBb⟩ := hrel
        by_cases hlt : i < m
        · obtain ⟨b2, o2, x, rfl, hb2, hx, p2⟩ := hC2.out i hlt
          rw [← hBb.out.cell (p := ⟨b2, o2 + i, none⟩) (show b2 < g by have := hBg.out; omega)] at p2
          have him : (i : Int) < (m : Int) := by omega
          cases hq : inB x 0 100000
          · have hF := Lib.hid (hNo.out wr (hBad.out i x hx hq) hBb.out)
            clear hx
            go_wp2_with (go_at_call 72; refine (l00In_any _ _ _ _).mono ?_; rintro e w' ⟨rfl, rfl⟩)
            first | exact hF.out | (go_ret2; exact hF.out)
          · have hP2 : Hid (∀ j y, j < i + 1 → hs[j]? = some y → inB y 0 100000 = true) := Lib.hid fun j y hj hy => by
              by_cases hji : j < i
              · exact hP.out j y hji hy
              · obtain rfl : j = i := by omega
                rw [hx] at hy
                cases hy
                exact hq
            have hx0 := Lib.hid (hH.out i x hx)
            have hSi := Lib.hid (fun k y hy => hS.out i k y hlt hP2.out hy)
            have hGi := Lib.hid (hG.out i)
            have hRi := Lib.hid (hRow.out i)
            have hNi := Nat.mul_le_mul (show i ≤ 12 by omega) n12
            rw [← hN.out] at hNi
            have hOs : Hid (os = cat RW i ++ fillI (BL (i + 1)) 0) := Lib.hid (by rw [hos.out]; exact (List.append_nil _).symm)
            clear hx hos
            go_wp2_with (go_at_call 72; refine (l00In_any _ _ _ _).mono ?_; rintro e w' ⟨rfl, rfl⟩)
            go_loopw [7, 9, 40] (fun ov nv kv wq => ∃ (k : Nat) (z : Int) (r : List Int) (ov1 : Value), ov1 = ov ∧ k ≤ n ∧ kv = .int .i64 k ∧ nv = .int .i64 z ∧ Hid (z = GO i k) ∧ Hid (r = cat RW i ++ fillI (BL (i + 1)) k) ∧ Hid (wq.ownsRow g 2 1 ov (N + k) (r.map (Value.int .i64))) ∧ Hid (Below g w wq)) (fun _ _ kv _ => n - (intOf kv).toNat)
            case atStart => exact ⟨0, x, os, _, rfl, Nat.zero_le _, rfl, rfl, Lib.hid hx0.out.symm, hOs, hO, hBb⟩
            case round =>
              clear hO hBb hx0 hOs p2
              obtain ⟨k, z, r, ov, rfl, hk, rfl, rfl, hz, hr, hO, hBb⟩ := hrel
              by_cases hlk : k < n
              · obtain ⟨b1, o1, y, rfl, hb1, hy, p1⟩ := hC1.out k hlk
                rw [← hBb.out.cell (p := ⟨b1, o1 + k, none⟩) (show b1 < g by have := hBg.out; omega)] at p1
                obtain ⟨s1, s2, s3, s4, s5⟩ := hSi.out k y hy
                have hg1 := hGi.out k
                rw [← hz.out] at s1 s2
                have hgs : g ≤ wr.heap.size := by have := hBb.out.size; rw [hGG.out] at this; exact this
                generalize hp : BL i k = p at *
                generalize hqq : BL (i + 1) k = q at *
                have hr4 := Lib.hid (show r ++ [q] = cat RW i ++ fillI (BL (i + 1)) (k + 1) by rw [hr.out, fillI_succ, hqq, List.append_assoc])
                have hz4 := Lib.hid hg1
                generalize hM : N + k = M at *
                have hMh := Lib.hid (show M + 1 = N + (k + 1) by omega)
                have hkn : (k : Int) < (n : Int) := by omega
                have hM200 : M ≤ 200 := by omega
                by_cases h0 : i = 0
                · have d0 : decide ((0 : Int) < (i : Int)) = false := decide_eq_false (by omega)
                  have d1 : decide (0 < i) = false := decide_eq_false (by omega)
                  have hp0 : p = 0 := by rw [← hp, h0]; exact hZ.out k
                  have hw1 : IntKind.i64.wrap (z + y) = q := by
                    rw [IntWalk.i64_in _ (by omega)]; omega
                  clear hy s1 s2 s3 s4 s5 hg1 hz hr hp hqq h0 hp0 hM
                  go_wp2_with (at_builtin; refine wpList_append_own _ rfl _ _ _ rfl g 2 i0 (.int .i64 0) 1 8 Try.underlying38 hi hz0 hz1 hz2 rfl (by decide) _ M _ rfl (hO.out.alloc _) ⟨wr.heap.size, 0, none⟩ 1 1 [.int .i64 q] rfl rfl (news1 wr _ _) (one_int q) (by unfold maxLen; omega) (by omega) (grow_le hgs _) ?_; intro v6 w6 hown6 hgrow6 hnil6; have hB6 := Lib.hid (below_app hBb.out hO.out hgrow6 hgs (Nat.le_refl _)); have hO6 := Lib.hid (show w6.ownsRow g 2 1 v6 (N + (k + 1)) ((r ++ [q]).map (Value.int .i64)) by rw [← hMh.out, List.map_append]; exact hown6); clear hown6 hgrow6 hnil6)
                  go_roundw
                  case rel => exact ⟨k + 1, q, _, _, rfl, by omega, by go_num, rfl, Lib.hid hz4.out.symm, hr4, hO6, hB6⟩
                  case measure => simp [intOf]; omega
                · obtain ⟨j, hj⟩ : ∃ j, i = j + 1 := ⟨i - 1, by omega⟩
                  have hrd := hRd.out j k (fillI (BL (i + 1)) k) hlk
                  rw [← hj, ← hr.out, hp] at hrd
                  have hjn : N = j * n + n := by rw [hN.out, hj]; exact Nat.succ_mul j n
                  generalize hJ : j * n = J at *
                  have hlr := (List.getElem?_eq_some_iff.1 hrd).1
                  obtain ⟨go, co, rfl, hgo⟩ := row_openG hO.out (show 1 ≤ M by omega)
                  have hd := row_cell hO.out hlr
                  rw [getD_of hrd] at hd
                  have d0 : decide ((0 : Int) < (i : Int)) = true := decide_eq_true (by omega)
                  have d1 : decide (0 < i) = true := decide_eq_true (by omega)
                  have e1 : (i : Int) - 1 = (j : Int) := by omega
                  have e2 : IntKind.i64.wrap ((i : Int) - 1) = (j : Int) := by rw [e1]; exact IntWalk.i64_in _ (by omega)
                  have e3 : IntKind.i64.wrap ((j : Int) * (n : Int)) = (J : Int) := by rw [← Int.natCast_mul, hJ]; exact IntWalk.i64_in _ (by omega)
                  have e4 : IntKind.i64.wrap ((J : Int) + (k : Int)) = (J : Int) + (k : Int) := IntWalk.i64_in _ (by omega)
                  have e5 : 0 ≤ (J : Int) + (k : Int) := by omega
                  have e6 : ((J : Int) + (k : Int)).toNat = J + k := by omega
                  have e7 : (J : Int) + (k : Int) < (M : Int) := by omega
                  have hw1 : IntKind.i64.wrap (max z p + y) = q := by
                    rw [IntWalk.i64_in _ (by omega)]; exact s1
                  clear hy s1 s2 s3 s4 s5 hg1 hz hr hp hqq h0 hM hj hrd hjn hJ hlr hgo hNi
                  go_wp2_with (first | (go_at_call 77; (with_reducible refine (l00Max_any _ _ _).mono ?_); rintro e w' ⟨rfl, rfl⟩) | (at_builtin; refine wpList_append_own _ rfl _ _ _ rfl g 2 i0 (.int .i64 0) 1 8 Try.underlying38 hi hz0 hz1 hz2 rfl (by decide) _ M _ rfl (hO.out.alloc _) ⟨wr.heap.size, 0, none⟩ 1 1 [.int .i64 q] rfl rfl (news1 wr _ _) (one_int q) (by unfold maxLen; omega) (by omega) (grow_le hgs _) ?_; intro v6 w6 hown6 hgrow6 hnil6; have hB6 := Lib.hid (below_app hBb.out hO.out hgrow6 hgs (Nat.le_refl _)); have hO6 := Lib.hid (show w6.ownsRow g 2 1 v6 (N + (k + 1)) ((r ++ [q]).map (Value.int .i64)) by rw [← hMh.out, List.map_append]; exact hown6); clear hown6 hgrow6 hnil6))
                  go_roundw
                  case rel => exact ⟨k + 1, q, _, _, rfl, by omega, by go_num, rfl, Lib.hid hz4.out.symm, hr4, hO6, hB6⟩
                  case measure => simp [intOf]; omega
              · obtain rfl : n = k := by omega
                have hr4 := Lib.hid (show r = cat RW (i + 1) by rw [hr.out, ← hRi.out]; rfl)
                have hN4 := Lib.hid (show N + n = (i + 1) * n by rw [hN.out]; exact (Nat.succ_mul i n).symm)
                have hO4 := Lib.hid hO.out
                have hB4 := Lib.hid hBb.out
                clear hO hBb hr hz hNi
                generalize N + n = N' at *
                go_wp2_with fail
                go_roundw
                case rel => exact ⟨i + 1, N', r, _, rfl, by omega, by go_num, hP2, hN4, hr4, hO4, hB4⟩
                case measure => simp [intOf]; omega
        · obtain rfl : m = i := by omega
          have hF := Lib.hid (hYes.out wr ov (hGood.out hP.out) (by have := hO.out; rw [hCl.out, ← hos.out, ← hN.out]; exact this) hBb.out)
          clear hO hBb hos hN hP
          go_wp2_with fail
          first | exact hF.out | (go_ret2; exact hF.out)
theorem blockTimes_both (rs hs : List Int) (_ : ∀ x ∈ rs, (Lit.int .i64 x).wf = true) (_ : ∀ x ∈ hs, (Lit.int .i64 x).wf = true) : ∃ (r0 : List Int) (r1 : Bool), r0.length ≤ 1048576 ∧
    (∀ (B : Nat) (v1 v2 : Value) (w : World), LstI B w v1 rs → LstI B w v2 hs → B ≤ w.heap.size → Calls Try.prog 44 #[v1, v2] w fun e w' => ∃ v', e = .returned (.tuple #[v', .bool r1]) ∧ Own w.heap.size w'.heap.size w' v' 2 1 r0.length (r0.map (Value.int .i64)) ∧ Below w.heap.size w w') ∧
    (∀ (B : Nat) (v1 v2 : Value) (w : World), LstI B w v1 rs → LstI B w v2 hs → B ≤ w.heap.size → Calls Try.prog 45 #[v1, v2] w fun e w' => ∃ v', e = .returned (.tuple #[v', .bool r1]) ∧ Own w.heap.size w'.heap.size w' v' 2 1 r0.length (r0.map (Value.int .i64)) ∧ Below w.heap.size w w') :=
  ⟨blkRes rs hs, canBlk rs hs, blkRes_length rs hs, fun B v1 v2 w h1 h2 hB => specBlk_any B v1 v2 rs hs w h1 h2 hB, fun B v1 v2 w h1 h2 hB => by
    cases hq : canBlk rs hs
    · exact implBlk_no B v1 v2 rs hs w h1 h2 hq
    · exact implBlk_yes B v1 v2 rs hs w h1 h2 hB hq⟩
end Go.Proofs.Ythliapjnfcahlaa
