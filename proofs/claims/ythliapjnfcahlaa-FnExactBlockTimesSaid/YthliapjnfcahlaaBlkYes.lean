/- Contracts: the times of blocks, in the program, where there are any. -/
import Derived.Test.YthliapjnfcahlaaBlkImpl
namespace Go.Proofs.Ythliapjnfcahlaa
open Go.RowKit Go.Lst

/-- What both walks ask of the times. -/
theorem blk_facts {rs hs : List Int} (hq : canBlk rs hs = true) : ∃ BL GO : Nat → Nat → Int, (∀ j, blkRow rs hs j = fillI (BL (j + 1)) rs.length) ∧ BL 0 = (fun _ => 0) ∧ (∀ i x, hs[i]? = some x → GO i 0 = x) ∧ (∀ i k, GO i (k + 1) = BL (i + 1) k) ∧
    ∀ i k y, i < hs.length → rs[k]? = some y → max (GO i k) (BL i k) + y = BL (i + 1) k ∧ (0 ≤ GO i k ∧ GO i k ≤ 200000) ∧ (0 ≤ BL i k ∧ BL i k ≤ 200000) ∧ 0 ≤ y ∧ y ≤ 1000 := by
  obtain ⟨h1, h2, h3, h4⟩ := canBlk_of hq
  obtain ⟨g1, g2, g3⟩ := okRuns_of h1
  refine ⟨blk (fun k => rs.getD k 0) (fun k => hs.getD k 0), fun i k => blkGo (hs.getD i 0) (blk (fun k => rs.getD k 0) (fun k => hs.getD k 0) i) (fun k => rs.getD k 0) k, fun j => rfl, rfl, fun i x hx => getD_of hx, fun i k => rfl, fun i k y hi hy => ?_⟩
  have hk : k < rs.length := (List.getElem?_eq_some_iff.1 hy).1
  have e := getD_of hy
  have hb := blk_in2 (rn := fun k => rs.getD k 0) (hs := fun k => hs.getD k 0) (n := rs.length) (m := hs.length) (fun k hk => g3 k _ (by rw [List.getElem?_eq_getElem hk, List.getD_eq_getElem?_getD, List.getElem?_eq_getElem hk]; rfl)) (fun i hi => allIn_of h4 (show hs[i]? = some (hs.getD i 0) by rw [List.getElem?_eq_getElem hi, List.getD_eq_getElem?_getD, List.getElem?_eq_getElem hi]; rfl)) g2 h3 hi hk
  refine ⟨?_, by rw [← e]; exact hb⟩
  rw [blk_step]
  show _ = max _ _ + rs.getD k 0
  rw [e]

set_option maxHeartbeats 8000000 in
set_option maxRecDepth 100000 in
theorem implBlk_yes (B : Nat) (v1 v2 : Value) (rs hs : List Int) (w : World) (h1 : LstI B w v1 rs) (h2 : LstI B w v2 hs) (hB : B ≤ w.heap.size) (hq : canBlk rs hs = true) :
    Calls Try.prog 45 #[v1, v2] w (ListPost (blkRes rs hs) true w) := by
  obtain ⟨q1, m1, m12, q2⟩ := canBlk_of hq
  obtain ⟨n1, n12, _⟩ := okRuns_of q1
  obtain ⟨BL, GO, fRow, fZ, fH, fG, fS⟩ := blk_facts hq
  have hA1 := Lib.hid (areRuns_any B v1 rs w h1)
  have hA2 := Lib.hid (areWithin_any B v2 hs 0 100000 w h2.lst)
  rw [q1] at hA1
  rw [q2] at hA2
  have hRes : blkRes rs hs = cat (blkRow rs hs) hs.length := by unfold blkRes; rw [if_pos hq]
  have hLen : ∀ j, (blkRow rs hs j).length = rs.length := fun j => fillI_length _ _
  have hCl := cat_length hLen hs.length
  have hMn := Nat.mul_le_mul m12 n12
  have hP : Hid (∀ w1 w2 v', Below w.heap.size w w1 → w2.ownsRow w1.heap.size 2 1 v' (cat (blkRow rs hs) hs.length).length ((cat (blkRow rs hs) hs.length).map (Value.int .i64)) → Below w1.heap.size w1 w2 → ListPost (blkRes rs hs) true w (.returned (.tuple #[v', .bool true])) w2) := Lib.hid fun w1 w2 v' hb1 ho hb2 => by
    rw [hRes]
    exact list_yes rfl hb1.size rfl ho (by omega) (below_on hb1 (Nat.le_refl _) hb2)
  have hCE := Lib.hid (fun b cap w1 hb hrow => cellsOf_any b hs.length cap (blkRow rs hs) w1 hb m1 (by omega) hrow (fun i _ => by rw [hLen]; omega))
  have hLenH := Lib.hid hLen
  have hRow := Lib.hid fRow
  have hH := Lib.hid fH
  have hG := Lib.hid fG
  have hS := Lib.hid fS
  have hZ := Lib.hid (show (List.replicate rs.length (0 : Int)) = fillI (BL 0) rs.length by rw [fZ]; exact zeros_fill _)
  obtain ⟨a1, cap1, rfl, hl1, _, _, hc1⟩ := h1.at_
  obtain ⟨a2, cap2, rfl, hl2, _, _, hc2⟩ := h2.at_
  have hC1 := Lib.hid hc1
  have hC2 := Lib.hid hc2
  clear h1 h2 hq q1 q2 hRes hLen hCl hMn fRow fH fG fS fZ hc1 hc2
  generalize ListPost (blkRes rs hs) true w = Q at *
  generalize blkRow rs hs = RW at *
  generalize rs.length = n at *
  generalize hs.length = m at *
  unfold maxLen at hl1 hl2
  have d1 : decide ((m : Int) < 1) = false := decide_eq_false (by omega)
  have d2 : decide ((12 : Int) < (m : Int)) = false := decide_eq_false (by omega)
  obtain ⟨i0, hi, hz0, hz1, hz2⟩ := info_parts infoI
  obtain ⟨i1, hi1, hy0, hy1, hy2⟩ := info_parts infoR
  go_enter Try.func45, Try.ntmps45
  go_wp2_with (first | (go_at_call 82; (with_reducible refine (hA1.out).mono ?_); rintro e w' ⟨rfl, rfl⟩) | (go_at_call 57; (with_reducible refine (hA2.out).mono ?_); rintro e w' ⟨rfl, rfl⟩) | (at_make; refine wpList_make_full _ rfl _ _ _ rfl w.heap.size _ i0 (.int .i64 0) 1 Try.underlying38 hi hz0 hz1 _ _ _ _ n rfl rfl rfl rfl ?c1 ?c2 ?c3 ?_))
  case c1 => rw [hz2]; omega
  case c2 => unfold maxLen; omega
  case c3 => exact Nat.le_refl _
  intro w2 hown2 hg2
  have hB2 := Lib.hid ((Below.refl w.heap.size w).grown hg2 (Nat.le_refl _) (fun k hk => by cases hk))
  have hO2 := Lib.hid (zeros_row hown2)
  have hSz2 := Lib.hid (hO2.out.lt w.heap.size rfl).2
  clear hown2 hg2 hz0 hz1 hz2 hi
  generalize hgg : w.heap.size = g at *
  have hGG := Lib.hid hgg
  have hBg := Lib.hid hB
  clear hgg hA1 hA2 hB
  go_wp2_with fail
  go_loopw [7, 35] (fun tv iv wr => ∃ (i : Nat) (l : List Int) (cs : List Value) (tv1 : Value), tv1 = tv ∧ i ≤ m ∧ iv = .int .i64 i ∧ Hid (l = fillI (BL i) n) ∧ Hid (wr.ownsRow g 2 1 (.slice (some ⟨g, 0, none⟩) n n) n (l.map (Value.int .i64))) ∧ Hid (Below g w wr) ∧ Hid (g < wr.heap.size) ∧ Hid (wr.ownsRow (g + 1) 38 1 tv i cs) ∧ Hid (Rows (g + 1) n RW wr cs i)) (fun _ iv _ => m - (intOf iv).toNat)
  case atStart => exact ⟨0, _, [], _, rfl, Nat.zero_le _, rfl, hZ, hO2, hB2, hSz2, Lib.hid ⟨by simp, .inl ⟨rfl, rfl⟩⟩, Lib.hid ⟨rfl, fun j hj => by omega⟩⟩
  case round =>
    clear hO2 hB2 hSz2 hZ
    obtain ⟨i, l, cs, tv, rfl, hi, rfl, hS1, hO, hBb, hSz, hT, hR⟩ := hrel
    by_cases hlt : i < m
    · obtain ⟨b2, o2, x, rfl, hb2, hx, p2⟩ := hC2.out i hlt
      rw [← hBb.out.cell (p := ⟨b2, o2 + i, none⟩) (show b2 < g by have := hBg.out; omega)] at p2
      have hx0 := Lib.hid (hH.out i x hx)
      have hSi := Lib.hid (fun k y hy => hS.out i k y hlt hy)
      have hGi := Lib.hid (hG.out i)
      have hRi := Lib.hid (hRow.out i)
      have him : (i : Int) < (m : Int) := by omega
      clear hx
      go_wp2_with fail
      go_loopw [9, 41] (fun nv kv wq => ∃ (k : Nat) (z : Int) (r : List Int), k ≤ n ∧ kv = .int .i64 k ∧ nv = .int .i64 z ∧ Hid (z = GO i k) ∧ Hid (r = row2 (BL (i + 1)) (BL i) k n) ∧ Hid (wq.ownsRow g 2 1 (.slice (some ⟨g, 0, none⟩) n n) n (r.map (Value.int .i64))) ∧ Hid (Below g w wq) ∧ Hid (g < wq.heap.size) ∧ Hid (wq.ownsRow (g + 1) 38 1 tv i cs) ∧ Hid (Rows (g + 1) n RW wq cs i)) (fun _ kv _ => n - (intOf kv).toNat)
      case atStart => exact ⟨0, x, l, Nat.zero_le _, rfl, rfl, Lib.hid hx0.out.symm, Lib.hid (by rw [row2_zero]; exact hS1.out), hO, hBb, hSz, hT, hR⟩
      case round =>
        clear hO hBb hSz hT hR hS1 hx0
        obtain ⟨k, z, r, hk, rfl, rfl, hz, hr, hO, hBb, hSz, hT, hR⟩ := hrel
        by_cases hlk : k < n
        · obtain ⟨b1, o1, y, rfl, hb1, hy, p1⟩ := hC1.out k hlk
          rw [← hBb.out.cell (p := ⟨b1, o1 + k, none⟩) (show b1 < g by have := hBg.out; omega)] at p1
          obtain ⟨s1, s2, s3, s4, s5⟩ := hSi.out k y hy
          have hg1 := hGi.out k
          rw [← hz.out] at s1 s2
          have hset := row2_set (BL (i + 1)) (BL i) hlk
          have hget := row2_get (BL (i + 1)) (BL i) hlk
          have hrl := row2_length (BL (i + 1)) (BL i) k n
          rw [← hr.out] at hset hget hrl
          have hd := row_cell hO.out (k := k) (by omega)
          rw [getD_of hget] at hd
          have hfr : wr.frozen? ⟨g, k, none⟩ = false := hO.out.frozenAt k
          generalize hp : BL i k = p at *
          generalize hq : BL (i + 1) k = q at *
          have hw1 : IntKind.i64.wrap ((if z < p then p else z) + y) = q := by
            rw [mx_eq, IntWalk.i64_in _ (by omega)]; exact s1
          have hst := row_set hO.out k q
          have hO4 := Lib.hid hst.1
          have hB4 := Lib.hid (hBb.out.setCell (p := ⟨g, k, none⟩) (Nat.le_refl _) (.int .i64 q))
          have hT4 := Lib.hid (ownsRow_setCell_below hT.out (a := ⟨g, k, none⟩) (Nat.lt_succ_self g) (.int .i64 q))
          have hR4 := Lib.hid (hR.out.put (a := ⟨g, k, none⟩) (Nat.lt_succ_self g) (.int .i64 q))
          have hSz4 := Lib.hid (Nat.lt_of_lt_of_le hSz.out hst.2.size)
          have hr4 := Lib.hid hset
          have hz4 := Lib.hid hg1
          clear hy s1 s2 s3 s4 s5 hg1 hset hget hrl hst hO hBb hSz hT hR hr hz hp hq
          go_wp2_with fail
          go_roundw
          case rel => exact ⟨k + 1, _, _, by omega, by go_num, rfl, Lib.hid hz4.out.symm, hr4, hO4, hB4, hSz4, hT4, hR4⟩
          case measure => simp [intOf]; omega
        · obtain rfl : n = k := by omega
          have hrr : r = RW i := by rw [hr.out, row2_all, hRi.out]
          subst hrr
          have hcl := cloneG_any g 0 n n (RW i) wr hSz.out (hLenH.out i) n1 (by omega) (fun j x hx => by
            have hj : j < n := by rw [← hLenH.out i]; exact (List.getElem?_eq_some_iff.1 hx).1
            rw [Nat.zero_add, hO.out.cellAt j (by omega), List.getElem?_map, hx]; rfl)
          have hCL := Lib.hid hcl
          have hl4 := Lib.hid (show RW i = fillI (BL (i + 1)) n from hRi.out)
          clear hcl
          go_wp2_with (first | (go_at_call 83; (with_reducible refine (hCL.out).mono ?_); rintro e w3 ⟨g3, c3, rfl, hg3, ho3, hb3⟩; have hT3 := Lib.hid (ownsRow_kept hT.out hb3); have hR3 := Lib.hid ((hR.out.kept hb3).more (ownsRow_mono ho3 hSz.out)); have hOf3 := Lib.hid (ownsRow_kept hO.out hb3); have hBb3 := Lib.hid (below_on hBb.out (Nat.le_of_eq hGG.out.symm) hb3); have hSz3 := Lib.hid (show g + 1 ≤ w3.heap.size from Nat.le_trans hSz.out hb3.size); clear ho3 hb3 hg3 hT hR hO hBb hSz) | (at_builtin; refine wpList_append_own _ rfl _ _ _ rfl (g + 1) 38 i1 (.slice none 0 0) 1 24 Try.underlying93 hi1 hy0 hy1 hy2 rfl (by decide) _ i cs rfl (hT3.out.alloc _) ⟨w3.heap.size, 0, none⟩ 1 1 [.slice (some ⟨g3, 0, none⟩) n c3] rfl rfl (news1 w3 _ _) (one_slice _ _ _) (by unfold maxLen; omega) (by omega) (grow_le hSz3.out _) ?_; intro v6 w6 hown6 hgrow6 hnil6; have hB6 := Lib.hid (below_app hBb3.out hT3.out hgrow6 (Nat.le_of_succ_le hSz3.out) (Nat.le_succ g)); have hT6 := Lib.hid hown6; have hR6 := Lib.hid ((hR3.out.alloc _).beside (hT3.out.alloc _) hgrow6); have hO6 := Lib.hid ((hOf3.out.alloc _).kept hgrow6 (.inr fun he => by have := (hT3.out.lt g he.symm).1; omega)); have hSz6 := Lib.hid (show g < w6.heap.size from Nat.le_trans (grow_le hSz3.out _) hgrow6.size); clear hown6 hgrow6 hnil6 hT3 hR3 hOf3 hBb3 hSz3))
          go_roundw
          case rel => exact ⟨i + 1, RW i, _, _, rfl, by omega, by go_num, hl4, hO6, hB6, hSz6, hT6, hR6⟩
          case measure => simp [intOf]; omega
    · obtain rfl : m = i := by omega
      obtain ⟨gt, ct, rfl, hgt⟩ := row_openG hT.out m1
      have hCells := Lib.hid (hCE.out gt ct wr (hT.out.lt gt rfl).2 (hR.out.cells hLenH.out hT.out rfl))
      have hBb2 := Lib.hid hBb.out
      clear hgt hT hR hO hBb hSz hCE hS1
      go_wp2_with (go_at_call 84; (with_reducible refine (hCells.out).mono ?_); rintro e w5 ⟨v', rfl, ho5, hb5⟩; have hF := Lib.hid (hP.out wr w5 v' hBb2.out ho5 hb5); clear ho5 hb5)
      first | exact hF.out | (go_ret2; exact hF.out)
end Go.Proofs.Ythliapjnfcahlaa
