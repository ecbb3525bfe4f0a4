/- Contracts: how many work in each slot, the model's. -/
import Derived.Test.YtpolhjkjgbfdhaaCover
namespace Go.Proofs.Ytpolhjkjgbfdhaa
open Go.RowKit Go.Lst

set_option maxHeartbeats 8000000 in
set_option maxRecDepth 100000 in
theorem specCover_any (B : Nat) (v1 v2 : Value) (xs : List ByteArray) (cs : List Int) (w : World) (h1 : LstS B w v1 xs) (h2 : LstI B w v2 cs) (hB : B ≤ w.heap.size) (hw : ∀ x ∈ xs, x.size ≤ maxLen) :
    Calls Try.prog 26 #[v1, v2] w (ListPost (covRes xs cs) (covOk xs cs) w) := by
  have hT := Lib.hid (l06Texts_any B v1 xs w h1 hw)
  have hNo : Hid (covOk xs cs = false → ∀ w', Below w.heap.size w w' → ListPost (covRes xs cs) (covOk xs cs) w (.returned (.tuple #[.slice none 0 0, .bool false])) w') := Lib.hid fun h w' hb => list_no (covRes_no h) h hb
  obtain ⟨a1, cap1, rfl, hl1, hc1⟩ := h1.lst
  obtain ⟨a2, cap2, rfl, hl2, _, _, hc2⟩ := h2.at_
  rw [List.length_map] at hl1 hT ⊢
  by_cases q1 : textsB xs = false
  · rw [q1] at hT
    have hR := Lib.hid (fun m => hNo.out (covOk_1 q1) (w.drewN m) (below_drawn w m))
    generalize ListPost (covRes xs cs) (covOk xs cs) w = Q at *
    clear h1 h2 hc1 hc2 hNo q1 hw
    generalize xs.length = n at *
    generalize cs.length = m at *
    unfold maxLen at hl1 hl2
    go_enter Try.func26, Try.ntmps26
    go_wp2_with (go_at_call 57; (with_reducible refine (hT.out).mono ?_); rintro e w1 ⟨j1, rfl, rfl⟩)
    first | exact hR.out _ | (go_ret2; exact hR.out _)
  have q2 : textsB xs = true := by cases h : textsB xs; exact absurd h q1; rfl
  rw [q2] at hT
  by_cases hlen : cs.length = xs.length
  case neg =>
    have hR := Lib.hid (fun m => hNo.out (covOk_2 hlen) (w.drewN m) (below_drawn w m))
    have hbn : ((cs.length : Int) != (xs.length : Int)) = true := by rw [bne_iff_ne]; omega
    generalize ListPost (covRes xs cs) (covOk xs cs) w = Q at *
    clear h1 h2 hc1 hc2 hNo q1 hw q2 hlen
    generalize xs.length = n at *
    generalize cs.length = m at *
    unfold maxLen at hl1 hl2
    go_enter Try.func26, Try.ntmps26
    go_wp2_with (go_at_call 57; (with_reducible refine (hT.out).mono ?_); rintro e w1 ⟨j1, rfl, rfl⟩)
    first | exact hR.out _ | (go_ret2; exact hR.out _)
  obtain ⟨⟨n1, n64⟩, f, hf, ⟨f1, f24⟩, hAll⟩ := textsB_of q2
  have hbn : ((cs.length : Int) != (xs.length : Int)) = false := by rw [bne_eq_false_iff_eq, hlen]
  have hX : Hid (∀ k, k < xs.length → ∃ b o x, a1 = some ⟨b, o, none⟩ ∧ b < B ∧ xs[k]? = some x ∧ x.size = f.size ∧ w.cell? ⟨b, o + k, none⟩ = some (.string x)) := Lib.hid fun k hk => by
    obtain ⟨b, o, ha, hb0, hb⟩ := hc1 (by intro h0; have := congrArg List.length h0; simp at this; rw [this] at hk; simp at hk)
    have e1 : xs[k]? = some xs[k] := List.getElem?_eq_getElem _
    exact ⟨b, o, xs[k], ha, hb0, e1, (hAll k _ e1).1, hb k _ (by rw [List.getElem?_map, e1]; rfl)⟩
  have hC2 := Lib.hid hc2
  have hBad : Hid (∀ (j : Nat) (c : Int), cs[j]? = some c → inB c 0 1000 = false → covOk xs cs = false) := Lib.hid fun j c hc h => covOk_3 hc h
  have hYes : Hid (∀ (w' : World) (v : Value), (∀ j x, j < xs.length → cs[j]? = some x → inB x 0 1000 = true) → w'.ownsRow w.heap.size 2 1 v f.size ((fillI (covAt xs cs xs.length) f.size).map (Value.int .i64)) → Below w.heap.size w w' → ListPost (covRes xs cs) (covOk xs cs) w (.returned (.tuple #[v, .bool true])) w') := Lib.hid fun w' v hp ho hb => by
    have hok := covOk_4 q2 hlen (by rw [hlen]; exact hp)
    have hr : covRes xs cs = fillI (covAt xs cs xs.length) f.size := by unfold covRes; rw [hok, List.getD_eq_getElem?_getD, hf]; rfl
    rw [hr]
    exact list_yes hok (Nat.le_refl _) (fillI_length _ _) ho (by omega) hb
  have hSt := Lib.hid (cov_start xs cs)
  have hEn := Lib.hid (cov_end xs cs)
  have hSet : Hid (∀ i k L, k < L → (fillI (covMid xs cs i k) L).set k (covAt xs cs (i + 1) k) = fillI (covMid xs cs i (k + 1)) L) := Lib.hid fun i k L hk => cov_set xs cs hk
  have hSm : Hid (∀ i k L, covAt xs cs (i + 1) k = covAt xs cs i k → fillI (covMid xs cs i (k + 1)) L = fillI (covMid xs cs i k) L) := Lib.hid fun i k L h => cov_same xs cs h
  have hAtC : Hid (∀ i k L, k < L → (fillI (covMid xs cs i k) L).getD k 0 = covAt xs cs i k) := Lib.hid fun i k L hk => cov_at xs cs hk
  have hCw : Hid (∀ i k x c, xs[i]? = some x → cs[i]? = some c → (x.data.toList.getD k 0).toNat = 119 → covAt xs cs (i + 1) k = covAt xs cs i k + c) := Lib.hid fun i k x c => cov_w
  have hCn : Hid (∀ i k x, xs[i]? = some x → ¬ (x.data.toList.getD k 0).toNat = 119 → covAt xs cs (i + 1) k = covAt xs cs i k) := Lib.hid fun i k x => cov_n
  have hIn : Hid (∀ i k, (∀ j x, j < i → cs[j]? = some x → inB x 0 1000 = true) → 0 ≤ covAt xs cs i k ∧ covAt xs cs i k ≤ 1000 * i) := Lib.hid fun i k h => cov_in h
  have hZ : Hid (fillI (covAt xs cs 0) f.size = List.replicate f.size 0) := Lib.hid (by have h : fillI (covAt xs cs 0) f.size = (List.range f.size).map (fun _ => (0 : Int)) := rfl; rw [h, List.map_const', List.length_range])
  have hFs : Hid (∀ F : Nat → Int, (fillI F f.size).length = f.size) := Lib.hid fun F => fillI_length F _
  obtain ⟨i0, hi, hz0, hz1, hz2⟩ := info_parts infoI
  generalize ListPost (covRes xs cs) (covOk xs cs) w = Q at *
  obtain ⟨b, o, f', rfl, hbB, hf', hfs, c0⟩ := hX.out 0 (by omega)
  obtain rfl : f = f' := Option.some.inj (hf.symm.trans hf')
  rw [Nat.add_zero] at c0
  clear h1 h2 hc1 hc2 q1 hw q2 hAll hf hf'
  generalize covAt xs cs = CA at *
  generalize covMid xs cs = CM at *
  rw [hlen] at *
  clear hlen
  generalize xs.length = n at *
  unfold maxLen at hl1
  go_enter Try.func26, Try.ntmps26
  go_wp2_with (first | (go_at_call 57; (with_reducible refine (hT.out).mono ?_); rintro e w1 ⟨j1, rfl, rfl⟩) | (at_make; refine wpList_make_full _ rfl _ _ _ rfl w.heap.size _ i0 (.int .i64 0) 1 Try.underlying25 hi hz0 hz1 _ _ _ _ f.size rfl rfl rfl rfl ?c1 ?c2 ?c3 ?_))
  case c1 => rw [hz2]; omega
  case c2 => unfold maxLen; omega
  case c3 => exact Nat.le_refl _
  intro w2 hown2 hg2
  have hB2 := Lib.hid ((below_drawn w j1).grown hg2 (Nat.le_refl _) (fun k hk => by cases hk))
  have hO2 := Lib.hid (show w2.ownsRow w.heap.size 2 1 (.slice (some ⟨w.heap.size, 0, none⟩) f.size f.size) f.size ((fillI (CA 0) f.size).map (Value.int .i64)) by rw [hZ.out]; exact zeros_row hown2)
  clear hown2 hg2 hZ hT c0 hfs
  go_wp2_with fail
  go_loopw [7] (fun iv wr => ∃ i : Nat, i ≤ n ∧ iv = .int .i64 i ∧ Hid (∀ j x, j < i → cs[j]? = some x → inB x 0 1000 = true) ∧ Hid (wr.ownsRow w.heap.size 2 1 (.slice (some ⟨w.heap.size, 0, none⟩) f.size f.size) f.size ((fillI (CA i) f.size).map (Value.int .i64))) ∧ Hid (Below w.heap.size w wr)) (fun iv _ => n - (intOf iv).toNat)
  case atStart => exact ⟨0, Nat.zero_le _, rfl, Lib.hid (fun j x hj => by omega), hO2, hB2⟩
  case round =>
    clear hO2 hB2
    obtain ⟨i, hi0, rfl, hP, hO, hB7⟩ := hrel
    generalize wr = wo at *
    by_cases hlt : i < n
    · obtain ⟨b1, o1, x, hbo, hbx, hx, hxL, cx⟩ := hX.out i hlt
      cases hbo
      obtain ⟨b3, o3, c, rfl, hb3, hc, cc⟩ := hC2.out i hlt
      have hXx := Lib.hid hx
      have hCc := Lib.hid hc
      have hbw : b < w.heap.size := by omega
      have hb3w : b3 < w.heap.size := by omega
      have hXc := Lib.hid cx
      have hCd := Lib.hid cc
      rw [← hB7.out.cell (p := ⟨b3, o3 + i, none⟩) hb3w] at cc
      clear hx hc cx
      cases hq : inB c 0 1000
      · have hR := Lib.hid (hNo.out (hBad.out i c hCc.out hq) wo hB7.out)
        go_wp2_with (go_at_call 51; refine (l00In_is _ _ _ ‹_› _).mono ?_; rintro e w' ⟨rfl, rfl⟩)
        first | exact hR.out | (go_ret2; exact hR.out)
      · have hcb := inB_true hq
        have hP2 : Hid (∀ j y, j < i + 1 → cs[j]? = some y → inB y 0 1000 = true) := Lib.hid fun j y hj hy => by
          by_cases h1 : j < i
          · exact hP.out j y h1 hy
          · obtain rfl : j = i := by omega
            rw [hCc.out] at hy
            cases hy
            exact hq
        have hO3 := Lib.hid (show wo.ownsRow w.heap.size 2 1 (.slice (some ⟨w.heap.size, 0, none⟩) f.size f.size) f.size ((fillI (CM i 0) f.size).map (Value.int .i64)) by rw [hSt.out]; exact hO.out)
        go_wp2_with (go_at_call 51; refine (l00In_is _ _ _ ‹_› _).mono ?_; rintro e w' ⟨rfl, rfl⟩)
        clear cc hO
        go_loopw [8] (fun kv wr => ∃ k : Nat, k ≤ f.size ∧ kv = .int .i64 k ∧ Hid (wr.ownsRow w.heap.size 2 1 (.slice (some ⟨w.heap.size, 0, none⟩) f.size f.size) f.size ((fillI (CM i k) f.size).map (Value.int .i64))) ∧ Hid (Below w.heap.size w wr)) (fun kv _ => f.size - (intOf kv).toNat)
        case atStart => exact ⟨0, Nat.zero_le _, rfl, hO3, hB7⟩
        case round =>
          clear hO3 hB7
          obtain ⟨k, hk0, rfl, hO, hB7⟩ := hrel
          by_cases hlk : k < f.size
          · have hkx : k < x.size := by omega
            have hgd := byte_getD x k hkx
            have cx := hXc.out
            have cc := hCd.out
            rw [← hB7.out.cell (p := ⟨b, o + i, none⟩) hbw] at cx
            rw [← hB7.out.cell (p := ⟨b3, o3 + i, none⟩) hb3w] at cc
            by_cases h119 : (x[k]'hkx).toNat = 119
            · have b1 : (((x[k]'hkx).toNat : Int) == 119) = true := by rw [h119]; rfl
              have hv := hCw.out i k x c hXx.out hCc.out (by rw [hgd]; exact h119)
              have hin := hIn.out i k hP.out
              have hd : wr.cell? ⟨w.heap.size, k, none⟩ = some (.int .i64 (CA i k)) := by rw [row_cell hO.out (by rw [hFs.out]; exact hlk), hAtC.out i k _ hlk]
              have hfr : wr.frozen? ⟨w.heap.size, k, none⟩ = false := hO.out.frozenAt k
              have hst := row_set hO.out k (CA (i + 1) k)
              rw [hSet.out i k _ hlk, hv] at hst
              have hw1 : IntKind.i64.wrap (CA i k + c) = CA i k + c := IntWalk.i64_in _ (by omega)
              have hO4 := Lib.hid hst.1
              have hB4 := Lib.hid (hB7.out.setCell (p := ⟨w.heap.size, k, none⟩) (Nat.le_refl _) (.int .i64 (CA i k + c)))
              clear hst hO hB7 hv hgd h119
              generalize CA i k = z at *
              go_wp2_with fail
              go_region
              go_wp2_with fail
              go_roundw
              case rel => exact ⟨k + 1, by omega, by go_num, hO4, Lib.hid (Below.drew hB4.out)⟩
              case measure => simp [intOf]; omega
            · have b1 : (((x[k]'hkx).toNat : Int) == 119) = false := by rw [beq_eq_false_iff_ne]; omega
              have hO4 := Lib.hid (show wr.ownsRow w.heap.size 2 1 (.slice (some ⟨w.heap.size, 0, none⟩) f.size f.size) f.size ((fillI (CM i (k + 1)) f.size).map (Value.int .i64)) by rw [hSm.out i k _ (hCn.out i k x hXx.out (by rw [hgd]; exact h119))]; exact hO.out)
              clear hO hgd h119
              go_wp2_with fail
              go_roundw
              case rel => exact ⟨k + 1, by omega, by go_num, hO4, hB7⟩
              case measure => simp [intOf]; omega
          · have hke : k = f.size := by omega
            have hO5 := Lib.hid (show wr.ownsRow w.heap.size 2 1 (.slice (some ⟨w.heap.size, 0, none⟩) f.size f.size) f.size ((fillI (CA (i + 1)) f.size).map (Value.int .i64)) by rw [← hEn.out i f.size, ← hke]; have := hO.out; rw [← hke] at this; exact this)
            clear hO
            go_wp2_with fail
            go_roundw
            case rel => exact ⟨i + 1, by omega, by go_num, hP2, hO5, hB7⟩
            case measure => simp [intOf]; omega
    · obtain rfl : n = i := by omega
      have hR := Lib.hid (hYes.out wo _ hP.out hO.out hB7.out)
      clear hO hB7
      go_wp2_with fail
      first | exact hR.out | (go_ret2; exact hR.out)
end Go.Proofs.Ytpolhjkjgbfdhaa
