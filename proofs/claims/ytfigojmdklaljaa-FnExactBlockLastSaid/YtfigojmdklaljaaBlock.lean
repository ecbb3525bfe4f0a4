/- Contracts: the last end of jobs without room between machines. -/
import Derived.Test.YtfigojmdklaljaaFlowSpec
import Derived.Test.YtfigojmdklaljaaFlowImpl
import Derived.Test.YtfigojmdklaljaaMake
namespace Go.Proofs.Ytfigojmdklaljaa
open Go.RowKit Go.Lst Go.Plan

/-- When a job, whose times begin at the place p, leaves the machine before the q-th one, which have been left at lf by the job before. -/
def blk (ts lf : List Int) (p : Nat) : Nat → Int
  | 0 => lf.getD 0 0
  | q + 1 => max (blk ts lf p q + ts.getD (p + q) 0) (lf.getD (q + 1) 0)
def blkL (ts lf : List Int) (p k : Nat) : List Int := (List.range k).map fun i => blk ts lf p (i + 1)
theorem blkL_length (ts lf : List Int) (p k : Nat) : (blkL ts lf p k).length = k := by simp [blkL]
theorem blkL_succ (ts lf : List Int) (p k : Nat) : blkL ts lf p (k + 1) = blkL ts lf p k ++ [blk ts lf p (k + 1)] := by unfold blkL; rw [List.range_succ, List.map_append]; rfl
theorem blkL_getD (ts lf : List Int) (p k i : Nat) (h : i < k) : (blkL ts lf p k).getD i 0 = blk ts lf p (i + 1) := by
  unfold blkL
  rw [List.getD_eq_getElem?_getD, List.getElem?_map, List.getElem?_range h]; rfl
def blkIn (ts lf : List Int) (p k : Nat) : List Int := splice lf 0 (blkL ts lf p k)
theorem blkIn_length (ts lf : List Int) (p k : Nat) (h : k ≤ lf.length) : (blkIn ts lf p k).length = lf.length := length_splice _ _ _ (by rw [blkL_length]; omega)
theorem blkIn_zero (ts lf : List Int) (p : Nat) : blkIn ts lf p 0 = lf := by simp [blkIn, blkL, splice]
theorem blkIn_step (ts lf : List Int) (p k : Nat) (h : k < lf.length) : (blkIn ts lf p k).set k (blk ts lf p (k + 1)) = blkIn ts lf p (k + 1) := by
  have := splice_step (L := lf) (p := 0) (y := blk ts lf p (k + 1)) (blkL_length ts lf p k) (by omega)
  rw [Nat.zero_add] at this
  unfold blkIn
  rw [this, blkL_succ]
theorem blkIn_at (ts lf : List Int) (p k i : Nat) (h : k ≤ lf.length) (hi : k ≤ i) : (blkIn ts lf p k).getD i 0 = lf.getD i 0 := by
  unfold blkIn
  rw [splice_getD (by rw [blkL_length]; omega), if_neg (by rw [blkL_length]; omega)]
theorem blkIn_full (ts lf : List Int) (p m : Nat) (h : lf.length = m) : blkIn ts lf p m = blkL ts lf p m := by
  unfold blkIn splice
  rw [blkL_length, Nat.zero_add, List.drop_of_length_le (by omega)]
  simp
def blockTo (ts o : List Int) (m : Nat) : Nat → List Int
  | 0 => List.replicate m 0
  | k + 1 => blkL ts (blockTo ts o m k) ((o.getD k 0).toNat * m) m
theorem blockTo_length (ts o : List Int) (m : Nat) : ∀ k, (blockTo ts o m k).length = m
  | 0 => by simp [blockTo]
  | k + 1 => by unfold blockTo; exact blkL_length _ _ _ _
theorem blk_bound {ts lf : List Int} {p m : Nat} {X : Int} (ht : ∀ (i : Nat) (x : Int), ts[i]? = some x → 1 ≤ x ∧ x ≤ 10000) (hp : p + m ≤ ts.length) (hf : Small lf X) : ∀ k, k ≤ m → 0 ≤ blk ts lf p k ∧ blk ts lf p k ≤ X + 10000 * k
  | 0, _ => by
    have := hf 0
    unfold blk; omega
  | k + 1, hk => by
    have ih := blk_bound ht hp hf k (by omega)
    have h1 := hf (k + 1)
    have h2 := all_at ht (k := p + k) (by omega)
    unfold blk
    omega
theorem block_round {ts o : List Int} {m n : Nat} (hl : ts.length = n * m) (ho : isOrd o n = true) {k : Nat} (hk : k < n) :
    ∃ j p : Nat, o[k]? = some (j : Int) ∧ j < n ∧ p = j * m ∧ p + m ≤ ts.length ∧ blockTo ts o m (k + 1) = blkL ts (blockTo ts o m k) p m := by
  have hol := isOrd_len ho
  have e1 : o[k]? = some (o[k]'(by omega)) := List.getElem?_eq_getElem _
  obtain ⟨h2, h3⟩ := isOrd_get ho e1
  obtain ⟨j, hj⟩ := Int.eq_ofNat_of_zero_le h2
  rw [hj] at e1 h3
  have := row_fit (m := m) (show j < n by omega)
  refine ⟨j, j * m, e1, by omega, rfl, by omega, ?_⟩
  show blkL ts (blockTo ts o m k) ((o.getD k 0).toNat * m) m = _
  rw [getD_of e1, Int.toNat_natCast]
theorem block_small {ts o : List Int} {m n : Nat} (ht : ∀ (i : Nat) (x : Int), ts[i]? = some x → 1 ≤ x ∧ x ≤ 10000) (hl : ts.length = n * m) (hm : m ≤ 8) (ho : isOrd o n = true) : ∀ k, k ≤ n → Small (blockTo ts o m k) (80000 * k)
  | 0, _ => zeros_small m
  | k + 1, hk => by
    have h1 := block_small ht hl hm ho k (by omega)
    obtain ⟨j, p, hj, hjn, hp, hpl, hs⟩ := block_round hl ho (k := k) (by omega)
    rw [hs]
    intro i
    by_cases hi : i < m
    · have := blk_bound ht hpl h1 (i + 1) (by omega)
      rw [blkL_getD _ _ _ _ _ hi]
      omega
    · rw [List.getD_eq_getElem?_getD, List.getElem?_eq_none (by rw [blkL_length]; omega)]
      show (0 : Int) ≤ 0 ∧ (0 : Int) ≤ _
      omega
def blockEnd (ts o : List Int) (m n : Nat) : Int := (blockTo ts o m n).getD (m - 1) 0
def blockRes (ts o : List Int) (M : Int) : Int := if canFlow ts o M then blockEnd ts o M.toNat (ts.length / M.toNat) else 0
theorem blockRes_yes {ts o : List Int} {m n : Nat} (h : canFlow ts o m = true) (hd : ts.length / m = n) : blockRes ts o m = blockEnd ts o m n := by
  unfold blockRes; rw [h, if_pos rfl, Int.toNat_natCast, hd]
/-- A list with a 0 behind it. -/
theorem behind_get (xs : List Int) (i : Nat) (hi : i ≤ xs.length) : (xs ++ [0]).getD i 0 = xs.getD i 0 := by
  simp only [List.getD_eq_getElem?_getD]
  by_cases h : i < xs.length
  · rw [List.getElem?_append_left h]
  · have e : i = xs.length := by omega
    rw [List.getElem?_append_right (by omega), List.getElem?_eq_none (l := xs) (by omega), e, Nat.sub_self]; rfl
theorem behind_set (xs : List Int) (i : Nat) (y : Int) (hi : i < xs.length) : (xs ++ [0]).set i y = xs.set i y ++ [0] := List.set_append_left _ _ hi
set_option maxHeartbeats 4000000 in
set_option maxRecDepth 100000 in
theorem implBlockLast_any (B : Nat) (v1 v2 : Value) (ts o : List Int) (M : Int) (w : World) (h1 : LstI B w v1 ts) (h2 : LstI B w v2 o) (hB : B ≤ w.heap.size) (hwf : ∀ x ∈ o, (Lit.int .i64 x).wf = true) :
    Calls Try.prog 42 #[v1, .int .i64 M, v2] w (NumPost (blockRes ts o M) (canFlow ts o M) w) := by
  have hNo : Hid (canFlow ts o M = false → ∀ w', Below w.heap.size w w' → (NumPost (blockRes ts o M) (canFlow ts o M) w) (.returned (.tuple #[.int .i64 0, .bool false])) w') := Lib.hid fun hq w' hb => num_no (by unfold blockRes; rw [hq]; rfl) hq hb
  cases hq : canShop ts M
  · have hP := Lib.hid (hNo.out (by unfold canFlow; rw [hq]; rfl))
    have hS := Lib.hid (shopOf_no B v1 ts M w h1 hB hq)
    generalize NumPost (blockRes ts o M) (canFlow ts o M) w = Q at *
    clear h1 h2 hq hNo
    go_enter Try.func42, Try.ntmps42
    go_wp2_with fail
    with_reducible refine (hS.out).mono ?_
    rintro e w5 ⟨rfl, hb5⟩
    have hB5 := Lib.hid hb5
    clear hb5
    go_wp2_with fail
    exact hP.out _ (hB5.out.alloc hB5.out.size _)
  · obtain ⟨m, n, rfl, hm1, hm8, hn1, hn24, hlen, ht⟩ := canShop_of hq
    have hL1 : 1 ≤ ts.length := by rw [hlen]; exact Nat.mul_pos hn1 hm1
    obtain ⟨a1, cap1, rfl, _⟩ := id h1
    obtain ⟨b1, o1, rfl, _⟩ := lstI_block h1 (by omega)
    rw [hlen] at h1 ⊢
    have hS := Lib.hid (shopOf_yes B b1 o1 cap1 m n ts w h1 hB hm1 hm8 hn1 hn24 hq)
    have hI : Hid (∀ (w5 w6 : World) (s : Value), Shop w5.heap.size w5 s ts (sameWay m ts.length) m n → Below w.heap.size w w5 → Below w5.heap.size w5 w6 → Calls Try.prog 64 #[s, v2] w6 fun e w' => e = .returned (.bool (isOrd o n)) ∧ Below w6.heap.size w6 w') := Lib.hid fun w5 w6 s hS5 hb5 hb6 =>
      shopIsOrder_any w5.heap.size s v2 ts _ o m n w6 (hS5.below hb6 (Nat.le_refl _)) (((h2.below hb5 hB).mono (Nat.le_trans hB hb5.size)).below hb6 (Nat.le_refl _)) hb6.size hn1 hn24 hwf
    have hcf : canFlow ts o m = isOrd o n := by unfold canFlow; rw [hq, Int.toNat_natCast, hlen, Nat.mul_div_cancel n (by omega)]; rfl
    cases hq2 : isOrd o n
    · have hP := Lib.hid (hNo.out (hcf.trans hq2))
      rw [hq2] at hI
      generalize NumPost (blockRes ts o m) (canFlow ts o m) w = Q at *
      clear h1 h2 hq hq2 hcf hNo hlen
      go_enter Try.func42, Try.ntmps42
      go_wp2_with fail
      with_reducible refine (hS.out).mono ?_
      rintro e w5 ⟨s, rfl, hs5, hb5⟩
      have hS5 := Lib.hid hs5
      have hB5 := Lib.hid hb5
      obtain ⟨b', o', cap', vr, vt, rfl, _, hr', ht'⟩ := hs5
      obtain ⟨ar, cr, rfl, _⟩ := hr'
      obtain ⟨at', ct, rfl, _⟩ := ht'
      clear hb5
      generalize hLL0 : n * m = L at *
      have hLL := Lib.hid hLL0
      clear hLL0
      go_wp2_with fail
      with_reducible refine (hI.out w5 _ _ hS5.out hB5.out (below_alloc (Below.refl _ _) _)).mono ?_
      rintro e w7 ⟨rfl, hb7⟩
      have hB7 := Lib.hid (below_on (hB5.out.alloc hB5.out.size _) (Nat.le_refl _) hb7)
      clear hb7
      go_wp2_with fail
      exact hP.out _ hB7.out
    · have hC := hcf.trans hq2
      have hol := isOrd_len hq2
      have hol2 : o.length = n := by omega
      have hd : ts.length / m = n := by rw [hlen]; exact Nat.mul_div_cancel n (by omega)
      have hP : Hid (∀ w', Below w.heap.size w w' → NumPost (blockRes ts o m) (canFlow ts o m) w (.returned (.tuple #[.int .i64 (blockEnd ts o m n), .bool true])) w') := Lib.hid fun w' hb => num_yes (blockRes_yes hC hd) hC hb
      obtain ⟨a2, cap2, rfl, hl2, _, _, hc2⟩ := h2.at_
      rw [hol2] at hI hc2 hl2 ⊢
      have hC2 := Lib.hid hc2
      have hK : Hid (∀ k, k < n → _) := Lib.hid fun k (hk : k < n) => block_round hlen hq2 hk
      have hSm : Hid (∀ k, k ≤ n → Small (blockTo ts o m k) (80000 * k)) := Lib.hid fun k hk => block_small ht hlen hm8 hq2 k hk
      have hLf := Lib.hid (blockTo_length ts o m)
      have hRb : Hid (∀ (lf : List Int) (p : Nat) (X : Int), p + m ≤ ts.length → Small lf X → ∀ q, q ≤ m → 0 ≤ blk ts lf p q ∧ blk ts lf p q ≤ X + 10000 * q) := Lib.hid fun lf p X a b q c => blk_bound ht a b q c
      have hAt : Hid (∀ q, q < ts.length → 1 ≤ ts.getD q 0 ∧ ts.getD q 0 ≤ 10000) := Lib.hid fun q hq => all_at ht hq
      have hLt := Lib.hid hlen
      have hEnd : Hid (blockEnd ts o m n = (blockTo ts o m n).getD (m - 1) 0) := Lib.hid rfl
      clear hc2 hol hol2 hd
      rw [hq2] at hI
      generalize NumPost (blockRes ts o m) (canFlow ts o m) w = Q at *
      clear h1 h2 hq hq2 hcf hNo hC hlen
      go_enter Try.func42, Try.ntmps42
      go_wp2_with fail
      with_reducible refine (hS.out).mono ?_
      rintro e w5 ⟨s, rfl, hs5, hb5⟩
      have hS5 := Lib.hid hs5
      have hB5 := Lib.hid hb5
      obtain ⟨b', o', cap', vr, vt, rfl, ht5, hr', ht'⟩ := hs5
      have hT5 := Lib.hid ht5
      have hR5 := Lib.hid hr'
      obtain ⟨ar, cr, rfl, _⟩ := hr'
      obtain ⟨at', ct, rfl, _⟩ := ht'
      clear hb5 ht5
      generalize hLL0 : n * m = L at *
      have hLL := Lib.hid hLL0
      clear hLL0
      go_wp2_with fail
      have hb6 := Lib.hid (below_alloc (Below.refl w5.heap.size w5) (.cells #[.int .i64 m, .slice (some ⟨b', o', none⟩) L cap', .slice ar n cr, .slice at' (sameWay m ts.length).length ct] 52))
      have hx6 := Lib.hid (Whole.made w5 52 #[.int .i64 m, .slice (some ⟨b', o', none⟩) L cap', .slice ar n cr, .slice at' (sameWay m ts.length).length ct] rfl)
      with_reducible refine (hI.out w5 _ _ hS5.out hB5.out hb6.out).mono ?_
      rintro e w7 ⟨rfl, hb7⟩
      have hB7 := Lib.hid (below_on hb6.out (Nat.le_refl _) hb7)
      have hx7 := Lib.hid (hx6.out.kept hb7)
      clear hb7 hx6 hb6
      generalize hgx : w5.heap.size = gx at *
      have hGX := Lib.hid hgx
      clear hgx
      have c0 := hx7.out.at_ (i := 0) rfl
      have c1 := hx7.out.at_ (i := 1) rfl
      have c2 := hx7.out.at_ (i := 2) rfl
      have c3 := hx7.out.at_ (i := 3) rfl
      obtain ⟨_, cr', hvr, _, _, _, _, hrr⟩ := hR5.out
      injection hvr with q1 q2 q3
      subst q1 q3
      obtain ⟨b3, o3, rfl, hb3, hrc⟩ := hrr (by omega)
      have hRow : Hid (∀ j, j < n → w7.cell? ⟨b3, o3 + j, none⟩ = some (.slice (some ⟨b', o' + j * m, none⟩) m m)) := Lib.hid fun j hj => by
        rw [hB7.out.cell (p := ⟨b3, o3 + j, none⟩) hb3]
        exact hrc j _ (rowsL_get b' o' m n j hj)
      have hTc : Hid (∀ q, q < ts.length → b' < gx ∧ w7.cell? ⟨b', o' + q, none⟩ = some (.int .i64 (ts.getD q 0))) := Lib.hid fun q hq => by
        obtain ⟨_, _, hv1, _, _, _, hc1⟩ := hT5.out.at_
        injection hv1 with e1 e2 e3
        subst e1
        obtain ⟨b, o', x, hh, hbl, hx, hcc⟩ := hc1 q hq
        injection hh with hh; injection hh with q1 q2 q3
        subst q1 q2
        refine ⟨hbl, ?_⟩
        rw [hB7.out.cell (p := ⟨_, _ + q, none⟩) hbl, hcc, getD_of hx]
      have hBw := Lib.hid (hB5.out.trans (hB7.out.mono (by rw [← hGX.out]; exact hB5.out.size)))
      have hsB := Lib.hid (show B ≤ w7.heap.size from Nat.le_trans hB hBw.out.size)
      have hC7 : Hid (∀ k, k < n → ∃ b2 o2 x, a2 = some ⟨b2, o2, none⟩ ∧ b2 < w7.heap.size ∧ o[k]? = some x ∧ w7.cell? ⟨b2, o2 + k, none⟩ = some (.int .i64 x)) := Lib.hid fun k hk => by
        obtain ⟨b2, o2, x, ha, hb, hx, hcc⟩ := hC2.out k hk
        have hs5 := hB5.out.size
        refine ⟨b2, o2, x, ha, by have := hBw.out.size; omega, hx, ?_⟩
        rw [hBw.out.cell (p := ⟨b2, o2 + k, none⟩) (by show b2 < w.heap.size; omega)]
        exact hcc
      have hg7 := hx7.out.size
      obtain ⟨i0, hi, hz0, hz1, hz2⟩ := info_parts infoI
      have hmk : ∀ w : World, (Instr.makeSlice 22 (.int .i64 ((m : Int) + 1)) (.int .i64 ((m : Int) + 1))).run Try.prog w = .ok (.slice (some ⟨w.heap.size, 0, none⟩) (m + 1) (m + 1)) (w.alloc (.cells (madeCells (Value.int .i64 0).cells (m + 1)) 2)) := make_ints 22 i0 Try.underlying22 hi hz0 hz1 hz2 (m + 1) (by omega)
      have hmr := Lib.hid (made_row w7 (m + 1) (by omega))
      unfold maxLen at hl2
      clear hrr hrc c1 c2 c3
      go_wp2_with fail
      have hF1 := Lib.hid (show (w7.alloc (.cells (madeCells #[Value.int .i64 0] (m + 1)) 2)).ownsRow w7.heap.size 2 1 (.slice (some ⟨w7.heap.size, 0, none⟩) (m + 1) (m + 1)) (m + 1) ((blockTo ts o m 0 ++ [0]).map (Value.int .i64)) by
        rw [show blockTo ts o m 0 ++ [0] = List.replicate (m + 1) (0 : Int) from List.replicate_succ'.symm]; exact hmr.out)
      have hB8 := Lib.hid (show Below w7.heap.size w7 (w7.alloc (.cells (madeCells #[Value.int .i64 0] (m + 1)) 2)) from below_alloc (Below.refl _ _) _)
      clear hmr hmk hz0 hz1 hz2 hi c0
      generalize w7.alloc _ = w8 at *
      generalize hgl : w7.heap.size = gl at *
      have hGL := Lib.hid hgl
      clear hgl
      go_loopw [36] (fun iv wr => ∃ (k : Nat), k ≤ n ∧ iv = .int .i64 k ∧ Hid (wr.ownsRow gl 2 1 (.slice (some ⟨gl, 0, none⟩) (m + 1) (m + 1)) (m + 1) ((blockTo ts o m k ++ [0]).map (Value.int .i64))) ∧ Hid (Below gl w7 wr)) (fun iv _ => n - (intOf iv).toNat)
      case atStart => exact ⟨0, Nat.zero_le _, rfl, hF1, hB8⟩
      case round =>
        clear hF1 hB8
        obtain ⟨k, hk, rfl, hF, hBr⟩ := hrel
        by_cases hlt : k < n
        · obtain ⟨j, p, hj, hjn, hp, hpL, hS⟩ := hK.out k hlt
          have hsm := hSm.out k hk
          have hlf := hLf.out k
          have hS2 := Lib.hid hS
          obtain ⟨b2, o2, x2, rfl, hb2, hx2, q0⟩ := hC7.out k hlt
          obtain rfl : x2 = (j : Int) := by rw [hj] at hx2; exact (Option.some.inj hx2).symm
          rw [← hBr.out.cell (p := ⟨b2, o2 + k, none⟩) hb2] at q0
          have r0 := hRow.out j hjn
          rw [← hp] at r0
          rw [← hBr.out.cell (p := ⟨b3, o3 + j, none⟩) (show b3 < gl by omega)] at r0
          have c2 := (hx7.out.below hBr.out hg7).at_ (i := 2) rfl
          have hz0 : wr.cell? ⟨gl, 0, none⟩ = some (.int .i64 (blk ts (blockTo ts o m k) p 0)) := by
            rw [row_cell hF.out (by simp), behind_get _ _ (by omega)]; rfl
          have hjI : (j : Int) < (n : Int) := by omega
          generalize hlfv : blockTo ts o m k = lf at *
          clear hj hx2 hp hS hlfv
          have hF0 := Lib.hid (show wr.ownsRow gl 2 1 (.slice (some ⟨gl, 0, none⟩) (m + 1) (m + 1)) (m + 1) ((blkIn ts lf p 0 ++ [0]).map (Value.int .i64)) by rw [blkIn_zero]; exact hF.out)
          clear hF
          go_wp2_with fail
          clear hz0 q0 r0 c2
          go_loopw [13, 49] (fun nv iv wr => ∃ (q : Nat), q ≤ m ∧ iv = .int .i64 q ∧ nv = .int .i64 (blk ts lf p q) ∧ Hid (wr.ownsRow gl 2 1 (.slice (some ⟨gl, 0, none⟩) (m + 1) (m + 1)) (m + 1) ((blkIn ts lf p q ++ [0]).map (Value.int .i64))) ∧ Hid (Below gl w7 wr)) (fun _ iv _ => m - (intOf iv).toNat)
          case atStart => exact ⟨0, Nat.zero_le _, rfl, rfl, hF0, hBr⟩
          case round =>
            clear hF0 hBr
            obtain ⟨q, hq, rfl, rfl, hF, hBr⟩ := hrel
            by_cases hqm : q < m
            · obtain ⟨r0, r1⟩ := hRb.out lf p _ (by omega) hsm q (by omega)
              obtain ⟨x0, x1⟩ := hAt.out (p + q) (by omega)
              have hfq := hsm (q + 1)
              obtain ⟨hbl, p0⟩ := hTc.out (p + q) (by omega)
              rw [← hBr.out.cell (p := ⟨b', o' + (p + q), none⟩) (show b' < gl by omega), ← Nat.add_assoc] at p0
              have hfc : wr.cell? ⟨gl, q + 1, none⟩ = some (.int .i64 (lf.getD (q + 1) 0)) := by
                rw [row_cell hF.out (by rw [List.length_append, blkIn_length _ _ _ _ (by omega)]; simp; omega), behind_get _ _ (by rw [blkIn_length _ _ _ _ (by omega)]; omega), blkIn_at _ _ _ _ _ (by omega) (by omega)]
              have hfd : wr.cell? ⟨gl, q, none⟩ = some (.int .i64 ((blkIn ts lf p q ++ [0]).getD q 0)) := row_cell hF.out (by rw [List.length_append, blkIn_length _ _ _ _ (by omega)]; simp; omega)
              have hff : wr.frozen? ⟨gl, q, none⟩ = false := hF.out.frozenAt q
              have hR : Hid (max (blk ts lf p q + ts.getD (p + q) 0) (lf.getD (q + 1) 0) = blk ts lf p (q + 1)) := Lib.hid rfl
              generalize (blkIn ts lf p q ++ [0]).getD q 0 = dv at *
              generalize hfv : lf.getD (q + 1) 0 = fv at *
              generalize hxv : ts.getD (p + q) 0 = xv at *
              generalize hrv : blk ts lf p q = rv at *
              generalize hrn : blk ts lf p (q + 1) = rn at *
              have hRN := Lib.hid hrn
              have hst1 := row_set hF.out q rn
              have hF5 := Lib.hid (show (wr.setCell ⟨gl, q, none⟩ (.int .i64 rn)).ownsRow gl 2 1 (.slice (some ⟨gl, 0, none⟩) (m + 1) (m + 1)) (m + 1) ((blkIn ts lf p (q + 1) ++ [0]).map (Value.int .i64)) by
                rw [← blkIn_step _ _ _ _ (by omega), hRN.out, ← behind_set _ _ _ (by rw [blkIn_length _ _ _ _ (by omega)]; omega)]; exact hst1.1)
              have hB9 := Lib.hid (hBr.out.grown hst1.2 (by have := hBr.out.size; have := hGL.out; omega) (fun q hq => by cases hq; exact Nat.le_refl _))
              have hw5 : IntKind.i64.wrap (rv + xv) = rv + xv := IntWalk.i64_in _ (by omega)
              have hw6 : IntKind.i64.wrap ((q : Int) + 1) = (q : Int) + 1 := IntWalk.i64_in _ (by omega)
              have hw7 : ((q : Int) + 1).toNat = q + 1 := by omega
              have hw8 : (q : Int) + 1 < (m : Int) + 1 := by omega
              clear hfv hxv hrv hrn hst1 hF hBr
              go_wp2_with fail
              all_goals
                simp only [mx_eq, hR.out]
                go_roundw
                case rel => exact ⟨q + 1, by omega, by go_num, by rw [hRN.out], hF5, hB9⟩
                case measure => simp [intOf]; omega
            · obtain rfl : m = q := by omega
              have hF5 := Lib.hid (show wr.ownsRow gl 2 1 (.slice (some ⟨gl, 0, none⟩) (m + 1) (m + 1)) (m + 1) ((blockTo ts o m (k + 1) ++ [0]).map (Value.int .i64)) by rw [hS2.out, ← blkIn_full _ _ _ _ hlf]; exact hF.out)
              clear hF
              go_wp2_with fail
              go_roundw
              case rel => exact ⟨k + 1, by omega, by go_num, hF5, hBr⟩
              case measure => simp [intOf]; omega
        · obtain rfl : n = k := by omega
          have c0 := (hx7.out.below hBr.out hg7).at_ (i := 0) rfl
          have hfc : wr.cell? ⟨gl, m - 1, none⟩ = some (.int .i64 (blockEnd ts o m n)) := by
            rw [hEnd.out, row_cell hF.out (by rw [List.length_append, hLf.out]; simp; omega), behind_get _ _ (by rw [hLf.out]; omega)]
          have hR := Lib.hid (hP.out wr (hBw.out.trans (hBr.out.mono (by rw [← hGL.out]; exact hBw.out.size))))
          have hw1 : IntKind.i64.wrap ((m : Int) - 1) = (m : Int) - 1 := IntWalk.i64_in _ (by omega)
          have hw2 : 0 ≤ (m : Int) - 1 := by omega
          have hw3 : ((m : Int) - 1).toNat = m - 1 := by omega
          have hw4 : (m : Int) - 1 < (m : Int) + 1 := by omega
          generalize blockEnd ts o m n = be at *
          clear hF hBr
          go_wp2_with fail
          exact hR.out
set_option maxHeartbeats 4000000 in
set_option maxRecDepth 100000 in
theorem specBlockLast_any (B : Nat) (v1 v2 : Value) (ts o : List Int) (M : Int) (w : World) (h1 : LstI B w v1 ts) (h2 : LstI B w v2 o) (hB : B ≤ w.heap.size) :
    Calls Try.prog 41 #[v1, .int .i64 M, v2] w (NumPost (blockRes ts o M) (canFlow ts o M) w) := by
  have hT := Lib.hid (l04Flow_any B v1 v2 ts o M w h1 h2)
  rcases (show canFlow ts o M = false ∨ canFlow ts o M = true by cases canFlow ts o M <;> simp) with hq | hq
  · have hP := Lib.hid (fun mm => num_no (x := blockRes ts o M) (ok := canFlow ts o M) (w := w) (w' := w.drewN mm) (by unfold blockRes; rw [hq]; rfl) hq (below_drawn w mm))
    rw [hq] at hT
    generalize NumPost (blockRes ts o M) (canFlow ts o M) w = Q at *
    clear h1 h2 hq
    go_enter Try.func41, Try.ntmps41
    go_wp2_with (go_at_call 61; (with_reducible refine (hT.out).mono ?_); rintro e w' ⟨nd, rfl, rfl⟩)
    first | exact hP.out _ | (go_ret2; exact hP.out _)
  · obtain ⟨m, n, rfl, hm1, hm8, hn1, hn24, hlen, hd, ht, ho⟩ := canFlow_of hq
    have hol := isOrd_len ho
    have hol2 : o.length = n := by omega
    have hmn := mul_le24 hn24 hm8
    rw [hq] at hT
    have hP : Hid (∀ w', Below w.heap.size w w' → NumPost (blockRes ts o m) (canFlow ts o m) w (.returned (.tuple #[.int .i64 (blockEnd ts o m n), .bool true])) w') := Lib.hid fun w' hb => num_yes (blockRes_yes hq hd) hq hb
    have hK : Hid (∀ k, k < n → _) := Lib.hid fun k (hk : k < n) => block_round hlen ho hk
    have hSm : Hid (∀ k, k ≤ n → Small (blockTo ts o m k) (80000 * k)) := Lib.hid fun k hk => block_small ht hlen hm8 ho k hk
    have hLf := Lib.hid (blockTo_length ts o m)
    have hRb : Hid (∀ (lf : List Int) (p : Nat) (X : Int), p + m ≤ ts.length → Small lf X → ∀ q, q ≤ m → 0 ≤ blk ts lf p q ∧ blk ts lf p q ≤ X + 10000 * q) := Lib.hid fun lf p X a b q c => blk_bound ht a b q c
    have hAt : Hid (∀ q, q < ts.length → 1 ≤ ts.getD q 0 ∧ ts.getD q 0 ≤ 10000) := Lib.hid fun q hq => all_at ht hq
    have hEnd : Hid (blockEnd ts o m n = (blockTo ts o m n).getD (m - 1) 0) := Lib.hid rfl
    have hZ : Hid (blockTo ts o m 0 = List.replicate m (0 : Int)) := Lib.hid rfl
    obtain ⟨a1, cap1, rfl, hl1, _, _, hc1⟩ := h1.at_
    obtain ⟨a2, cap2, rfl, hl2, _, _, hc2⟩ := h2.at_
    rw [hol2] at hT hc2 hl2 ⊢
    have hC1 := Lib.hid hc1
    have hC2 := Lib.hid hc2
    have hL192 : ts.length ≤ 192 := by omega
    obtain ⟨i0, hi, hz0, hz1, hz2⟩ := info_parts infoI
    have hmk : ∀ w : World, (Instr.makeSlice 22 (.int .i64 (m : Int)) (.int .i64 (m : Int))).run Try.prog w = .ok (.slice (some ⟨w.heap.size, 0, none⟩) m m) (w.alloc (.cells (madeCells (Value.int .i64 0).cells m) 2)) := make_ints 22 i0 Try.underlying22 hi hz0 hz1 hz2 m (by omega)
    generalize NumPost (blockRes ts o m) (canFlow ts o m) w = Q at *
    clear h1 h2 hq hc1 hc2 hlen hd ht ho hol hol2 hmn
    generalize ts.length = L at *
    unfold maxLen at hl1 hl2
    go_enter Try.func41, Try.ntmps41
    go_wp2_with fail
    with_reducible refine (hT.out).mono ?_
    rintro e w' ⟨nd0, rfl, rfl⟩
    have hB0 := Lib.hid (below_drawn w nd0)
    have hgs : (w.drewN nd0).heap.size = w.heap.size := rfl
    generalize w.drewN nd0 = wd at *
    clear hT
    have hmr := Lib.hid (made_row wd m (by omega))
    go_wp2_with fail
    have hF1 := Lib.hid (show (wd.alloc (.cells (madeCells #[Value.int .i64 0] m) 2)).ownsRow wd.heap.size 2 1 (.slice (some ⟨wd.heap.size, 0, none⟩) m m) m ((blockTo ts o m 0).map (Value.int .i64)) by rw [hZ.out]; exact hmr.out)
    have hB8 := Lib.hid (show Below w.heap.size w (wd.alloc (.cells (madeCells #[Value.int .i64 0] m) 2)) from hB0.out.alloc (by rw [hgs]; exact Nat.le_refl _) _)
    clear hmr hmk hz0 hz1 hz2 hi hB0
    generalize wd.alloc _ = w8 at *
    generalize wd.heap.size = gl at *
    subst hgs
    generalize hga : w.heap.size = ga at *
    have hGA := Lib.hid hga
    clear hga
    go_loopw [9] (fun iv wr => ∃ (k : Nat), k ≤ n ∧ iv = .int .i64 k ∧ Hid (wr.ownsRow ga 2 1 (.slice (some ⟨ga, 0, none⟩) m m) m ((blockTo ts o m k).map (Value.int .i64))) ∧ Hid (Below ga w wr)) (fun iv _ => n - (intOf iv).toNat)
    case atStart => exact ⟨0, Nat.zero_le _, rfl, hF1, hB8⟩
    case round =>
      clear hF1 hB8
      obtain ⟨k, hk, rfl, hF, hBr⟩ := hrel
      by_cases hlt : k < n
      · obtain ⟨j, p, hj, hjn, hp, hpL, hS⟩ := hK.out k hlt
        have hsm := hSm.out k hk
        have hlf := hLf.out k
        have hS2 := Lib.hid hS
        have hJ := Lib.hid hj
        have hPJ : IntKind.i64.wrap ((j : Int) * (m : Int)) = (p : Int) := by
          rw [hp, Int.natCast_mul]
          exact IntWalk.i64_in _ (by have := mul_le24 (show j ≤ 24 by omega) hm8; rw [← Int.natCast_mul]; omega)
        have hz0 : wr.cell? ⟨ga, 0, none⟩ = some (.int .i64 (blk ts (blockTo ts o m k) p 0)) := by
          rw [row_cell hF.out (by rw [hlf]; omega)]; rfl
        generalize hlfv : blockTo ts o m k = lf at *
        clear hj hp hS hlfv
        have hF0 := Lib.hid (show wr.ownsRow ga 2 1 (.slice (some ⟨ga, 0, none⟩) m m) m ((blkIn ts lf p 0).map (Value.int .i64)) by rw [blkIn_zero]; exact hF.out)
        clear hF
        go_wp2_with fail
        clear hz0
        go_loopw [10, 11] (fun nv iv wr => ∃ (q : Nat), q ≤ m ∧ iv = .int .i64 q ∧ nv = .int .i64 (blk ts lf p q) ∧ Hid (wr.ownsRow ga 2 1 (.slice (some ⟨ga, 0, none⟩) m m) m ((blkIn ts lf p q).map (Value.int .i64))) ∧ Hid (Below ga w wr)) (fun _ iv _ => m - (intOf iv).toNat)
        case atStart => exact ⟨0, Nat.zero_le _, rfl, rfl, hF0, hBr⟩
        case round =>
          clear hF0 hBr
          obtain ⟨q, hq, rfl, rfl, hF, hBr⟩ := hrel
          by_cases hqm : q < m
          · obtain ⟨r0, r1⟩ := hRb.out lf p _ (by omega) hsm q (by omega)
            obtain ⟨x0, x1⟩ := hAt.out (p + q) (by omega)
            have hfq := hsm (q + 1)
            obtain ⟨b1, o1, x, rfl, hb1, hx, p0⟩ := hC1.out (p + q) (by omega)
            obtain rfl : x = ts.getD (p + q) 0 := (getD_of hx).symm
            obtain ⟨b2, o2, j', rfl, hb2, hj', q0⟩ := hC2.out k hlt
            obtain rfl : j' = (j : Int) := by rw [hJ.out] at hj'; exact (Option.some.inj hj').symm
            have hba : b1 < ga ∧ b2 < ga := by have := hGA.out; omega
            rw [← hBr.out.cell (p := ⟨b1, o1 + (p + q), none⟩) hba.1] at p0
            rw [← hBr.out.cell (p := ⟨b2, o2 + k, none⟩) hba.2] at q0
            have hfd : wr.cell? ⟨ga, q, none⟩ = some (.int .i64 ((blkIn ts lf p q).getD q 0)) := row_cell hF.out (by rw [blkIn_length _ _ _ _ (by omega)]; omega)
            have hff : wr.frozen? ⟨ga, q, none⟩ = false := hF.out.frozenAt q
            have hR : Hid (max (blk ts lf p q + ts.getD (p + q) 0) (lf.getD (q + 1) 0) = blk ts lf p (q + 1)) := Lib.hid rfl
            have hfc : q + 1 < m → wr.cell? ⟨ga, q + 1, none⟩ = some (.int .i64 (lf.getD (q + 1) 0)) := fun hql => by
              rw [row_cell hF.out (by rw [blkIn_length _ _ _ _ (by omega)]; omega), blkIn_at _ _ _ _ _ (by omega) (by omega)]
            have hfz : ¬ q + 1 < m → lf.getD (q + 1) 0 = 0 := fun hql => by
              rw [List.getD_eq_getElem?_getD, List.getElem?_eq_none (by omega)]; rfl
            have hFS : Hid (∀ w4, w4.ownsRow ga 2 1 (.slice (some ⟨ga, 0, none⟩) m m) m ((blkIn ts lf p q).map (Value.int .i64)) → Below ga w w4 → (w4.setCell ⟨ga, q, none⟩ (.int .i64 (blk ts lf p (q + 1)))).ownsRow ga 2 1 (.slice (some ⟨ga, 0, none⟩) m m) m ((blkIn ts lf p (q + 1)).map (Value.int .i64)) ∧ Below ga w (w4.setCell ⟨ga, q, none⟩ (.int .i64 (blk ts lf p (q + 1))))) := Lib.hid fun w4 hF hb => by
              have hst1 := row_set hF q (blk ts lf p (q + 1))
              rw [blkIn_step _ _ _ _ (by omega)] at hst1
              exact ⟨hst1.1, hb.grown hst1.2 (by rw [← hGA.out]; exact hb.size) (fun q hq => by cases hq; exact Nat.le_refl _)⟩
            clear hx hj'
            generalize (blkIn ts lf p q).getD q 0 = dv at *
            generalize hfv : lf.getD (q + 1) 0 = fv at *
            generalize hxv : ts.getD (p + q) 0 = xv at *
            generalize hrv : blk ts lf p q = rv at *
            generalize hrn : blk ts lf p (q + 1) = rn at *
            have hRN := Lib.hid hrn
            have hw1 : IntKind.i64.wrap ((p : Int) + (q : Int)) = (p : Int) + (q : Int) := IntWalk.i64_in _ (by omega)
            have hw2 : 0 ≤ (p : Int) + (q : Int) := by omega
            have hw3 : ((p : Int) + (q : Int)).toNat = p + q := by omega
            have hw4 : (p : Int) + (q : Int) < (L : Int) := by omega
            have hw5 : IntKind.i64.wrap (rv + xv) = rv + xv := IntWalk.i64_in _ (by omega)
            have hw6 : IntKind.i64.wrap ((q : Int) + 1) = (q : Int) + 1 := IntWalk.i64_in _ (by omega)
            have hw7 : ((q : Int) + 1).toNat = q + 1 := by omega
            clear hfv hxv hrv hrn
            by_cases hql : q + 1 < m
            · have hfc := hfc hql
              have hw8 : (q : Int) + 1 < (m : Int) := by omega
              clear hfz
              go_wp2_with fail
              with_reducible refine (l00Max_any _ _ _).mono ?_
              rw [hR.out]
              rintro e w' ⟨rfl, rfl⟩
              obtain ⟨f1, f2⟩ := hFS.out _ hF.out hBr.out
              have hF5 := Lib.hid f1
              have hB5 := Lib.hid f2
              clear f1 f2 hF hBr hFS p0 q0 hfc
              go_wp2_with fail
              go_roundw
              case rel => exact ⟨q + 1, by omega, by go_num, by rw [hRN.out], hF5, hB5⟩
              case measure => simp [intOf]; omega
            · have hfz := hfz hql
              have hw8 : ¬ (q : Int) + 1 < (m : Int) := by omega
              have hw9 : rn = rv + xv := by have := hR.out; omega
              obtain ⟨f1, f2⟩ := hFS.out _ hF.out hBr.out
              have hF5 := Lib.hid f1
              have hB5 := Lib.hid f2
              clear f1 f2 hF hBr hFS hfc
              subst hw9
              go_wp2_with fail
              go_roundw
              case rel => exact ⟨q + 1, by omega, by go_num, by rw [hRN.out], hF5, hB5⟩
              case measure => simp [intOf]; omega
          · obtain rfl : m = q := by omega
            have hF5 := Lib.hid (show wr.ownsRow ga 2 1 (.slice (some ⟨ga, 0, none⟩) m m) m ((blockTo ts o m (k + 1)).map (Value.int .i64)) by rw [hS2.out, ← blkIn_full _ _ _ _ hlf]; exact hF.out)
            clear hF
            go_wp2_with fail
            go_roundw
            case rel => exact ⟨k + 1, by omega, by go_num, hF5, hBr⟩
            case measure => simp [intOf]; omega
      · obtain rfl : n = k := by omega
        have hfc : wr.cell? ⟨ga, m - 1, none⟩ = some (.int .i64 (blockEnd ts o m n)) := by
          rw [hEnd.out, row_cell hF.out (by rw [hLf.out]; omega)]
        have hR := Lib.hid (hP.out wr hBr.out)
        have hw1 : IntKind.i64.wrap ((m : Int) - 1) = (m : Int) - 1 := IntWalk.i64_in _ (by omega)
        have hw2 : 0 ≤ (m : Int) - 1 := by omega
        have hw3 : ((m : Int) - 1).toNat = m - 1 := by omega
        have hw4 : (m : Int) - 1 < (m : Int) := by omega
        generalize blockEnd ts o m n = be at *
        clear hF hBr
        go_wp2_with fail
        first | exact hR.out | (go_ret2; exact hR.out)
theorem blockLast_both (ts : List Int) (M : Int) (o : List Int) (_ : ∀ x ∈ ts, (Lit.int .i64 x).wf = true) (_ : (Lit.int .i64 M).wf = true) (hw : ∀ x ∈ o, (Lit.int .i64 x).wf = true) : ∃ (r0 : Int) (r1 : Bool),
    (∀ (B : Nat) (v1 v2 : Value) (w : World), LstI B w v1 ts → LstI B w v2 o → B ≤ w.heap.size → Calls Try.prog 41 #[v1, .int .i64 M, v2] w fun e w' => e = .returned (.tuple #[.int .i64 r0, .bool r1]) ∧ Below w.heap.size w w') ∧
    (∀ (B : Nat) (v1 v2 : Value) (w : World), LstI B w v1 ts → LstI B w v2 o → B ≤ w.heap.size → Calls Try.prog 42 #[v1, .int .i64 M, v2] w fun e w' => e = .returned (.tuple #[.int .i64 r0, .bool r1]) ∧ Below w.heap.size w w') :=
  ⟨blockRes ts o M, canFlow ts o M, fun B v1 v2 w h1 h2 hB => specBlockLast_any B v1 v2 ts o M w h1 h2 hB, fun B v1 v2 w h1 h2 hB => implBlockLast_any B v1 v2 ts o M w h1 h2 hB hw⟩
end Go.Proofs.Ytfigojmdklaljaa
