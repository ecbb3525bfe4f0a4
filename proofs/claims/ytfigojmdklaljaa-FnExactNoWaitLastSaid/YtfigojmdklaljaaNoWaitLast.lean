/- Contracts: the last end of jobs that may not wait. -/
import Derived.Test.YtfigojmdklaljaaGap
import Derived.Test.YtfigojmdklaljaaFlowSpec
import Derived.Test.YtfigojmdklaljaaFlowImpl
import Derived.Test.YtfigojmdklaljaaBoundSpec
namespace Go.Proofs.Ytfigojmdklaljaa
open Go.RowKit Go.Lst Go.Plan

/-- The sum of the first k gaps of an order. -/
def waitTo (ts o : List Int) (m : Nat) : Nat → Int
  | 0 => 0
  | k + 1 => waitTo ts o m k + gapAt ts m (o.getD k 0).toNat (o.getD (k + 1) 0).toNat
def waitEnd (ts o : List Int) (m n : Nat) : Int := waitTo ts o m (n - 1) + jobSum ts m (o.getD (n - 1) 0).toNat
def waitRes (ts o : List Int) (M : Int) : Int := if canFlow ts o M then waitEnd ts o M.toNat (ts.length / M.toNat) else 0
theorem waitRes_yes {ts o : List Int} {m n : Nat} (h : canFlow ts o m = true) (hd : ts.length / m = n) : waitRes ts o m = waitEnd ts o m n := by
  unfold waitRes; rw [h, if_pos rfl, Int.toNat_natCast, hd]
theorem ord_at {o : List Int} {n k : Nat} (ho : isOrd o n = true) (hk : k < n) : ∃ j : Nat, o[k]? = some (j : Int) ∧ j < n := by
  have hol := isOrd_len ho
  have e1 : o[k]? = some (o[k]'(by omega)) := List.getElem?_eq_getElem _
  obtain ⟨h2, h3⟩ := isOrd_get ho e1
  obtain ⟨j, hj⟩ := Int.eq_ofNat_of_zero_le h2
  rw [hj] at e1 h3
  exact ⟨j, e1, by omega⟩
theorem gapAt_bound {ts : List Int} {m n i k : Nat} (hm8 : m ≤ 8) (ht : ∀ (i : Nat) (x : Int), ts[i]? = some x → 1 ≤ x ∧ x ≤ 10000) (hl : ts.length = n * m) (hi : i < n) (hk : k < n) : 0 ≤ gapAt ts m i k ∧ gapAt ts m i k ≤ 80000 := by
  have := gapL_bound (row_times ht hl hi) (row_times ht hl hk) m (Nat.le_refl _)
  unfold gapAt
  omega
theorem waitTo_bound {ts o : List Int} {m n : Nat} (hm8 : m ≤ 8) (ht : ∀ (i : Nat) (x : Int), ts[i]? = some x → 1 ≤ x ∧ x ≤ 10000) (hl : ts.length = n * m) (ho : isOrd o n = true) : ∀ k, k + 1 ≤ n → 0 ≤ waitTo ts o m k ∧ waitTo ts o m k ≤ 80000 * k
  | 0, _ => by unfold waitTo; omega
  | k + 1, hk => by
    have ih := waitTo_bound hm8 ht hl ho k (by omega)
    obtain ⟨i, hi, hin⟩ := ord_at ho (show k < n by omega)
    obtain ⟨j, hj, hjn⟩ := ord_at ho (show k + 1 < n by omega)
    have := gapAt_bound hm8 ht hl hin hjn
    unfold waitTo
    rw [getD_of hi, getD_of hj, Int.toNat_natCast, Int.toNat_natCast]
    omega
theorem waitTo_step {ts o : List Int} {m k i j : Nat} (hi : o[k]? = some (i : Int)) (hj : o[k + 1]? = some (j : Int)) : waitTo ts o m (k + 1) = waitTo ts o m k + gapAt ts m i j := by
  show waitTo ts o m k + gapAt ts m (o.getD k 0).toNat (o.getD (k + 1) 0).toNat = _
  rw [getD_of hi, getD_of hj, Int.toNat_natCast, Int.toNat_natCast]
theorem waitEnd_eq {ts o : List Int} {m n j : Nat} (hj : o[n - 1]? = some (j : Int)) : waitEnd ts o m n = waitTo ts o m (n - 1) + jobSum ts m j := by
  unfold waitEnd
  rw [getD_of hj, Int.toNat_natCast]
set_option maxHeartbeats 4000000 in
set_option maxRecDepth 100000 in
theorem implNoWaitLast_any (B : Nat) (v1 v2 : Value) (ts o : List Int) (M : Int) (w : World) (h1 : LstI B w v1 ts) (h2 : LstI B w v2 o) (hB : B ≤ w.heap.size) (hwf : ∀ x ∈ o, (Lit.int .i64 x).wf = true) :
    Calls Try.prog 40 #[v1, .int .i64 M, v2] w (NumPost (waitRes ts o M) (canFlow ts o M) w) := by
  have hNo : Hid (canFlow ts o M = false → ∀ w', Below w.heap.size w w' → (NumPost (waitRes ts o M) (canFlow ts o M) w) (.returned (.tuple #[.int .i64 0, .bool false])) w') := Lib.hid fun hq w' hb => num_no (by unfold waitRes; rw [hq]; rfl) hq hb
  cases hq : canShop ts M
  · have hP := Lib.hid (hNo.out (by unfold canFlow; rw [hq]; rfl))
    have hS := Lib.hid (shopOf_no B v1 ts M w h1 hB hq)
    generalize NumPost (waitRes ts o M) (canFlow ts o M) w = Q at *
    clear h1 h2 hq hNo
    go_enter Try.func40, Try.ntmps40
    go_wp2_with fail
    with_reducible refine (hS.out).mono ?_
    rintro e w5 ⟨rfl, hb5⟩
    have hB5 := Lib.hid hb5
    clear hb5
    go_wp2_with fail
    exact hP.out _ (hB5.out.alloc hB5.out.size _)
  · obtain ⟨m, n, rfl, hm1, hm8, hn1, hn24, hlen, ht⟩ := canShop_of hq
    have hL1 : 1 ≤ ts.length := by rw [hlen]; exact Nat.mul_pos hn1 hm1
    obtain ⟨a1, cap1, rfl, _⟩ := id h1
    obtain ⟨b1, o1, rfl, _⟩ := lstI_block h1 (by omega)
    rw [hlen] at h1 ⊢
    have hS := Lib.hid (shopOf_yes B b1 o1 cap1 m n ts w h1 hB hm1 hm8 hn1 hn24 hq)
    have hI : Hid (∀ (w5 w6 : World) (s : Value), Shop w5.heap.size w5 s ts (sameWay m ts.length) m n → Below w.heap.size w w5 → Below w5.heap.size w5 w6 → Calls Try.prog 64 #[s, v2] w6 fun e w' => e = .returned (.bool (isOrd o n)) ∧ Below w6.heap.size w6 w') := Lib.hid fun w5 w6 s hS5 hb5 hb6 =>
      shopIsOrder_any w5.heap.size s v2 ts _ o m n w6 (hS5.below hb6 (Nat.le_refl _)) (((h2.below hb5 hB).mono (Nat.le_trans hB hb5.size)).below hb6 (Nat.le_refl _)) hb6.size hn1 hn24 hwf
    have hcf : canFlow ts o m = isOrd o n := by unfold canFlow; rw [hq, Int.toNat_natCast, hlen, Nat.mul_div_cancel n (by omega)]; rfl
    cases hq2 : isOrd o n
    · have hP := Lib.hid (hNo.out (hcf.trans hq2))
      rw [hq2] at hI
      generalize NumPost (waitRes ts o m) (canFlow ts o m) w = Q at *
      clear h1 h2 hq hq2 hcf hNo hlen
      go_enter Try.func40, Try.ntmps40
      go_wp2_with fail
      with_reducible refine (hS.out).mono ?_
      rintro e w5 ⟨s, rfl, hs5, hb5⟩
      have hS5 := Lib.hid hs5
      have hB5 := Lib.hid hb5
      obtain ⟨b', o', cap', vr, vt, rfl, _, hr', ht'⟩ := hs5
      obtain ⟨ar, cr, rfl, _⟩ := hr'
      obtain ⟨at', ct, rfl, _⟩ := ht'
      clear hb5
      generalize hLL0 : n * m = L at *
      have hLL := Lib.hid hLL0
      clear hLL0
      go_wp2_with fail
      with_reducible refine (hI.out w5 _ _ hS5.out hB5.out (below_alloc (Below.refl _ _) _)).mono ?_
      rintro e w7 ⟨rfl, hb7⟩
      have hB7 := Lib.hid (below_on (hB5.out.alloc hB5.out.size _) (Nat.le_refl _) hb7)
      clear hb7
      go_wp2_with fail
      exact hP.out _ hB7.out
    · have hC := hcf.trans hq2
      have hol := isOrd_len hq2
      have hol2 : o.length = n := by omega
      have hd : ts.length / m = n := by rw [hlen]; exact Nat.mul_div_cancel n (by omega)
      have hP : Hid (∀ w', Below w.heap.size w w' → NumPost (waitRes ts o m) (canFlow ts o m) w (.returned (.tuple #[.int .i64 (waitEnd ts o m n), .bool true])) w') := Lib.hid fun w' hb => num_yes (waitRes_yes hC hd) hC hb
      obtain ⟨a2, cap2, rfl, hl2, _, _, hc2⟩ := h2.at_
      rw [hol2] at hI hc2 hl2 ⊢
      have hOrd : Hid (∀ k, k < n → ∃ j b2 o2 : Nat, o[k]? = some (j : Int) ∧ j < n ∧ a2 = some ⟨b2, o2, none⟩ ∧ b2 < B ∧ w.cell? ⟨b2, o2 + k, none⟩ = some (.int .i64 (j : Int))) := Lib.hid fun k hk => by
        obtain ⟨j, hj, hjn⟩ := ord_at hq2 hk
        obtain ⟨b2, o2, x, ha, hb, hx, hcc⟩ := hc2 k hk
        obtain rfl : x = (j : Int) := by rw [hj] at hx; exact (Option.some.inj hx).symm
        exact ⟨j, b2, o2, hj, hjn, ha, hb, hcc⟩
      have hLt := Lib.hid hlen
      have hTt : Hid (∀ (i : Nat) (x : Int), ts[i]? = some x → 1 ≤ x ∧ x ≤ 10000) := Lib.hid ht
      have hWb : Hid (∀ k, k + 1 ≤ n → 0 ≤ waitTo ts o m k ∧ waitTo ts o m k ≤ 80000 * k) := Lib.hid fun k hk => waitTo_bound hm8 ht hlen hq2 k hk
      have hWs : Hid (∀ k i j, o[k]? = some ((i : Nat) : Int) → o[k + 1]? = some ((j : Nat) : Int) → waitTo ts o m (k + 1) = waitTo ts o m k + gapAt ts m i j) := Lib.hid fun k i j hi hj => waitTo_step hi hj
      have hWe : Hid (∀ j, o[n - 1]? = some ((j : Nat) : Int) → waitEnd ts o m n = waitTo ts o m (n - 1) + jobSum ts m j) := Lib.hid fun j hj => waitEnd_eq hj
      have hGb : Hid (∀ i k, i < n → k < n → 0 ≤ gapAt ts m i k ∧ gapAt ts m i k ≤ 80000) := Lib.hid fun i k hi hk => gapAt_bound hm8 ht hlen hi hk
      have hJb : Hid (∀ i, i < n → 0 ≤ jobSum ts m i ∧ jobSum ts m i ≤ 80000) := Lib.hid fun i hi => by
        have := partOf_bound ht hlen hi m (Nat.le_refl _)
        unfold jobSum
        omega
      clear hc2 hol hol2 hd
      rw [hq2] at hI
      generalize NumPost (waitRes ts o m) (canFlow ts o m) w = Q at *
      clear h1 h2 hq hq2 hcf hNo hC hlen
      go_enter Try.func40, Try.ntmps40
      go_wp2_with fail
      with_reducible refine (hS.out).mono ?_
      rintro e w5 ⟨s, rfl, hs5, hb5⟩
      have hS5 := Lib.hid hs5
      have hB5 := Lib.hid hb5
      obtain ⟨b', o', cap', vr, vt, rfl, ht5, hr', ht'⟩ := hs5
      have hT5 := Lib.hid ht5
      have hR5 := Lib.hid hr'
      obtain ⟨ar, cr, rfl, _⟩ := hr'
      obtain ⟨at', ct, rfl, _⟩ := ht'
      clear hb5 ht5
      generalize hLL0 : n * m = L at *
      have hLL := Lib.hid hLL0
      clear hLL0
      go_wp2_with fail
      have hb6 := Lib.hid (below_alloc (Below.refl w5.heap.size w5) (.cells #[.int .i64 m, .slice (some ⟨b', o', none⟩) L cap', .slice ar n cr, .slice at' (sameWay m ts.length).length ct] 52))
      have hx6 := Lib.hid (Whole.made w5 52 #[.int .i64 m, .slice (some ⟨b', o', none⟩) L cap', .slice ar n cr, .slice at' (sameWay m ts.length).length ct] rfl)
      with_reducible refine (hI.out w5 _ _ hS5.out hB5.out hb6.out).mono ?_
      rintro e w7 ⟨rfl, hb7⟩
      have hB7 := Lib.hid (below_on hb6.out (Nat.le_refl _) hb7)
      have hx7 := Lib.hid (hx6.out.kept hb7)
      clear hb7 hx6 hb6
      generalize hgx : w5.heap.size = gx at *
      have hGX := Lib.hid hgx
      clear hgx
      have c0 := hx7.out.at_ (i := 0) rfl
      have c1 := hx7.out.at_ (i := 1) rfl
      have c2 := hx7.out.at_ (i := 2) rfl
      have c3 := hx7.out.at_ (i := 3) rfl
      obtain ⟨_, cr', hvr, _, _, _, _, hrr⟩ := hR5.out
      injection hvr with q1 q2 q3
      subst q1 q3
      obtain ⟨b3, o3, rfl, hb3, hrc⟩ := hrr (by omega)
      have hRow : Hid (∀ j, j < n → w7.cell? ⟨b3, o3 + j, none⟩ = some (.slice (some ⟨b', o' + j * m, none⟩) m m)) := Lib.hid fun j hj => by
        rw [hB7.out.cell (p := ⟨b3, o3 + j, none⟩) hb3]
        exact hrc j _ (rowsL_get b' o' m n j hj)
      have hPart : Hid (∀ j, j < n → LstI gx w7 (.slice (some ⟨b', o' + j * m, none⟩) m m) (rowOf ts m j)) := Lib.hid fun j hj =>
        lstI_part (hT5.out.below hB7.out (by first | exact Nat.le_refl _ | (rw [hGX.out]; exact Nat.le_refl _))) (j * m) m m (by rw [← hLL.out]; exact row_fit hj) (Nat.le_refl _) (by unfold maxLen; omega)
      have hGap : Hid (∀ (nn j k : Nat), j < n → k < n → Calls Try.prog 71 #[.slice (some ⟨b', o' + j * m, none⟩) m m, .slice (some ⟨b', o' + k * m, none⟩) m m] (w7.drewN nn) fun e w' => e = .returned (.int .i64 (gapAt ts m j k)) ∧ w7.drewN nn = w') := Lib.hid fun nn j k hj hk =>
        gapOf_any gx _ _ (rowOf ts m j) (rowOf ts m k) m (w7.drewN nn) ((hPart.out j hj).drewN nn) ((hPart.out k hk).drewN nn) (rowOf_length (hLt.out.trans hLL.out.symm) hj) (rowOf_length (hLt.out.trans hLL.out.symm) hk) hm8 (row_times hTt.out (hLt.out.trans hLL.out.symm) hj) (row_times hTt.out (hLt.out.trans hLL.out.symm) hk)
      have hSum : Hid (∀ (nn j : Nat), j < n → Calls Try.prog 49 #[.slice (some ⟨b', o' + j * m, none⟩) m m] (w7.drewN nn) fun e w' => e = .returned (.int .i64 (jobSum ts m j)) ∧ w7.drewN nn = w') := Lib.hid fun nn j hj => by
        have hl := rowOf_length (hLt.out.trans hLL.out.symm) hj
        have h1 := sumOf_any gx _ (rowOf ts m j) (w7.drewN nn) ((hPart.out j hj).drewN nn) (fun k hk => by
          have := partOf_bound hTt.out (hLt.out.trans hLL.out.symm) hj k (by omega)
          unfold partOf at this
          omega) (fun q x hx => by
          have hq : q < m := by have := (List.getElem?_eq_some_iff.1 hx).1; omega
          have h2 := row_times hTt.out (hLt.out.trans hLL.out.symm) hj q hq
          rw [getD_of hx] at h2
          omega)
        rw [hl] at h1
        exact h1
      have hOr7 : Hid (∀ k, k < n → ∃ j b2 o2 : Nat, o[k]? = some (j : Int) ∧ j < n ∧ a2 = some ⟨b2, o2, none⟩ ∧ w7.cell? ⟨b2, o2 + k, none⟩ = some (.int .i64 (j : Int))) := Lib.hid fun k hk => by
        obtain ⟨j, b2, o2, hj, hjn, ha, hb, hcc⟩ := hOrd.out k hk
        have hs5 := hB5.out.size
        refine ⟨j, b2, o2, hj, hjn, ha, ?_⟩
        rw [hB7.out.cell (p := ⟨b2, o2 + k, none⟩) (by show b2 < gx; rw [← hGX.out]; omega), hB5.out.cell (p := ⟨b2, o2 + k, none⟩) (by show b2 < w.heap.size; omega)]
        exact hcc
      have hBw := Lib.hid (hB5.out.trans (hB7.out.mono (by rw [← hGX.out]; exact hB5.out.size)))
      unfold maxLen at hl2
      clear hrr hrc hPart c0 c1 c2 c3
      go_wp2_with fail
      go_loopw [10, 11] (fun bv pv wr => ∃ (p nd : Nat), 1 ≤ p ∧ p ≤ n ∧ pv = .int .i64 p ∧ bv = .int .i64 (waitTo ts o m (p - 1)) ∧ wr = w7.drewN nd) (fun _ pv _ => n - (intOf pv).toNat)
      case atStart => exact ⟨1, 0, Nat.le_refl _, hn1, rfl, rfl, rfl⟩
      case round =>
        obtain ⟨p, nd, hp1, hp, rfl, rfl, rfl⟩ := hrel
        have c2 := hx7.out.at_ (i := 2) rfl
        rw [← World.cell?_drewN (n := nd)] at c2
        by_cases hlt : p < n
        · obtain ⟨i, b2, o2, hi, hin, rfl, p0⟩ := hOr7.out (p - 1) (by omega)
          obtain ⟨j, b2', o2', hj, hjn, hjj, q0⟩ := hOr7.out p hlt
          injection hjj with hjj; injection hjj with e1 e2 _
          subst e1 e2
          have r0 := hRow.out i hin
          have s0 := hRow.out j hjn
          rw [← World.cell?_drewN (n := nd)] at p0 q0 r0 s0
          have hg := Lib.hid (fun nn => hGap.out nn i j hin hjn)
          have hst := Lib.hid (show waitTo ts o m p = waitTo ts o m (p - 1) + gapAt ts m i j by
            have := hWs.out (p - 1) i j hi (by rw [show p - 1 + 1 = p by omega]; exact hj)
            rw [show p - 1 + 1 = p by omega] at this
            exact this)
          obtain ⟨y0, y1⟩ := hWb.out (p - 1) (by omega)
          obtain ⟨g0, g1⟩ := hGb.out i j hin hjn
          generalize waitTo ts o m (p - 1) = wv at *
          generalize gapAt ts m i j = gv at *
          generalize i * m = pi at *
          generalize j * m = pj at *
          clear hi hj
          have hw1 : IntKind.i64.wrap ((p : Int) - 1) = (p : Int) - 1 := IntWalk.i64_in _ (by omega)
          have hw2 : 0 ≤ (p : Int) - 1 := by omega
          have hw3 : ((p : Int) - 1).toNat = p - 1 := by omega
          have hw4 : (p : Int) - 1 < (n : Int) := by omega
          have hw5 : IntKind.i64.wrap (wv + gv) = wv + gv := IntWalk.i64_in _ (by omega)
          have hw6 : (i : Int) < (n : Int) := by omega
          have hw7 : (j : Int) < (n : Int) := by omega
          generalize hwo : w7.drewN nd = wo at *
          have hWo := Lib.hid hwo
          have hg' : Hid (∀ nn, Calls Try.prog 71 #[.slice (some ⟨b', o' + pi, none⟩) m m, .slice (some ⟨b', o' + pj, none⟩) m m] (wo.drewN nn) fun e w' => e = .returned (.int .i64 gv) ∧ wo.drewN nn = w') := Lib.hid fun nn => by
            rw [← hwo, World.drewN_drewN]; exact hg.out _
          clear hwo hg
          go_wp2_with fail
          go_quiet ((go_at_call 71; exact Ret.quiet (Ret.same (hg'.out _))))
          go_wp2_with fail
          go_roundw
          case rel => exact ⟨p + 1, _, by omega, by omega, by go_num, by rw [Nat.add_sub_cancel, hst.out], by rw [← hWo.out, World.drewN_drewN]⟩
          case measure => simp [intOf]; omega
        · obtain rfl : n = p := by omega
          obtain ⟨j, b2, o2, hj, hjn, rfl, q0⟩ := hOr7.out (n - 1) (by omega)
          have s0 := hRow.out j hjn
          rw [← World.cell?_drewN (n := nd)] at q0 s0
          have hsm := Lib.hid (fun nn => hSum.out nn j hjn)
          have hen := Lib.hid (hWe.out j hj)
          obtain ⟨y0, y1⟩ := hWb.out (n - 1) (by omega)
          obtain ⟨g0, g1⟩ := hJb.out j hjn
          generalize waitTo ts o m (n - 1) = wv at *
          generalize jobSum ts m j = gv at *
          generalize j * m = pj at *
          clear hj
          have hw1 : IntKind.i64.wrap ((n : Int) - 1) = (n : Int) - 1 := IntWalk.i64_in _ (by omega)
          have hw2 : 0 ≤ (n : Int) - 1 := by omega
          have hw3 : ((n : Int) - 1).toNat = n - 1 := by omega
          have hw4 : (n : Int) - 1 < (n : Int) := by omega
          have hw5 : IntKind.i64.wrap (wv + gv) = wv + gv := IntWalk.i64_in _ (by omega)
          have hw7 : (j : Int) < (n : Int) := by omega
          have hR : Hid (∀ nn, Q (.returned (.tuple #[.int .i64 (wv + gv), .bool true])) ((w7.drewN nd).drewN nn)) := Lib.hid fun nn => by
            rw [← hen.out, World.drewN_drewN]
            exact hP.out _ (Lst.Below.drewN hBw.out _)
          generalize hwo : w7.drewN nd = wo at *
          have hg' : Hid (∀ nn, Calls Try.prog 49 #[.slice (some ⟨b', o' + pj, none⟩) m m] (wo.drewN nn) fun e w' => e = .returned (.int .i64 gv) ∧ wo.drewN nn = w') := Lib.hid fun nn => by
            rw [← hwo, World.drewN_drewN]; exact hsm.out _
          clear hwo hsm
          go_wp2_with fail
          go_quiet ((go_at_call 49; exact Ret.quiet (Ret.same (hg'.out _))))
          go_wp2_with fail
          exact hR.out _
set_option maxHeartbeats 4000000 in
set_option maxRecDepth 100000 in
theorem specNoWaitLast_any (B : Nat) (v1 v2 : Value) (ts o : List Int) (M : Int) (w : World) (h1 : LstI B w v1 ts) (h2 : LstI B w v2 o) (hB : B ≤ w.heap.size) :
    Calls Try.prog 39 #[v1, .int .i64 M, v2] w (NumPost (waitRes ts o M) (canFlow ts o M) w) := by
  have hT := Lib.hid (l04Flow_any B v1 v2 ts o M w h1 h2)
  rcases (show canFlow ts o M = false ∨ canFlow ts o M = true by cases canFlow ts o M <;> simp) with hq | hq
  · have hP := Lib.hid (fun mm => num_no (x := waitRes ts o M) (ok := canFlow ts o M) (w := w) (w' := w.drewN mm) (by unfold waitRes; rw [hq]; rfl) hq (below_drawn w mm))
    rw [hq] at hT
    generalize NumPost (waitRes ts o M) (canFlow ts o M) w = Q at *
    clear h1 h2 hq
    go_enter Try.func39, Try.ntmps39
    go_wp2_with (go_at_call 61; (with_reducible refine (hT.out).mono ?_); rintro e w' ⟨nd, rfl, rfl⟩)
    first | exact hP.out _ | (go_ret2; exact hP.out _)
  · obtain ⟨m, n, rfl, hm1, hm8, hn1, hn24, hlen, hd, ht, ho⟩ := canFlow_of hq
    have hL1 : 1 ≤ ts.length := by rw [hlen]; exact Nat.mul_pos hn1 hm1
    have hol := isOrd_len ho
    have hol2 : o.length = n := by omega
    rw [hq] at hT
    obtain ⟨a1, cap1, rfl, _⟩ := id h1
    obtain ⟨b1, o1, rfl, _⟩ := lstI_block h1 (by omega)
    rw [hlen] at h1 hT ⊢
    obtain ⟨a2, cap2, rfl, hl2, _, _, hc2⟩ := h2.at_
    rw [hol2] at hT hc2 hl2 ⊢
    have hOrd : Hid (∀ k, k < n → ∃ j b2 o2 : Nat, o[k]? = some (j : Int) ∧ j < n ∧ a2 = some ⟨b2, o2, none⟩ ∧ w.cell? ⟨b2, o2 + k, none⟩ = some (.int .i64 (j : Int))) := Lib.hid fun k hk => by
      obtain ⟨j, hj, hjn⟩ := ord_at ho hk
      obtain ⟨b2, o2, x, ha, hb, hx, hcc⟩ := hc2 k hk
      obtain rfl : x = (j : Int) := by rw [hj] at hx; exact (Option.some.inj hx).symm
      exact ⟨j, b2, o2, hj, hjn, ha, hcc⟩
    have hGap : Hid (∀ (nn j k : Nat), j < n → k < n → Calls Try.prog 70 #[.slice (some ⟨b1, o1, none⟩) (n * m) cap1, .int .i64 m, .int .i64 (j : Int), .int .i64 (k : Int)] (w.drewN nn) fun e w' => e = .returned (.int .i64 (gapAt ts m j k)) ∧ w.drewN nn = w') := Lib.hid fun nn j k hj hk =>
      l04Gap_any B b1 o1 cap1 ts m n j k (w.drewN nn) (h1.drewN nn) hm8 hn24 hlen ht hj hk
    have hJob : Hid (∀ (nn i : Nat), i < n → Calls Try.prog 72 #[.slice (some ⟨b1, o1, none⟩) (n * m) cap1, .int .i64 m, .int .i64 (i : Int)] (w.drewN nn) fun e w'' => e = .returned (.int .i64 (jobSum ts m i)) ∧ w.drewN nn = w'') := Lib.hid fun nn i hi =>
      l04Job_any B b1 o1 cap1 ts m n i (w.drewN nn) (h1.drewN nn) hm1 hm8 hn24 hlen ht hi
    have hP : Hid (∀ mm, NumPost (waitRes ts o m) (canFlow ts o m) w (.returned (.tuple #[.int .i64 (waitEnd ts o m n), .bool true])) (w.drewN mm)) := Lib.hid fun mm => num_yes (waitRes_yes hq hd) hq (below_drawn w mm)
    have hWb : Hid (∀ k, k + 1 ≤ n → 0 ≤ waitTo ts o m k ∧ waitTo ts o m k ≤ 80000 * k) := Lib.hid fun k hk => waitTo_bound hm8 ht hlen ho k hk
    have hWs : Hid (∀ k i j, o[k]? = some ((i : Nat) : Int) → o[k + 1]? = some ((j : Nat) : Int) → waitTo ts o m (k + 1) = waitTo ts o m k + gapAt ts m i j) := Lib.hid fun k i j hi hj => waitTo_step hi hj
    have hWe : Hid (∀ j, o[n - 1]? = some ((j : Nat) : Int) → waitEnd ts o m n = waitTo ts o m (n - 1) + jobSum ts m j) := Lib.hid fun j hj => waitEnd_eq hj
    have hGb : Hid (∀ i k, i < n → k < n → 0 ≤ gapAt ts m i k ∧ gapAt ts m i k ≤ 80000) := Lib.hid fun i k hi hk => gapAt_bound hm8 ht hlen hi hk
    have hJb : Hid (∀ i, i < n → 0 ≤ jobSum ts m i ∧ jobSum ts m i ≤ 80000) := Lib.hid fun i hi => by
      have := partOf_bound ht hlen hi m (Nat.le_refl _)
      unfold jobSum
      omega
    generalize NumPost (waitRes ts o m) (canFlow ts o m) w = Q at *
    clear h1 h2 hq hlen hd ht hc2 hol hol2 ho
    generalize n * m = L at *
    unfold maxLen at hl2
    obtain ⟨jl, b2, o2, hjl, hjn, rfl, q0⟩ := hOrd.out (n - 1) (by omega)
    have hen := Lib.hid (hWe.out jl hjl)
    obtain ⟨z0, z1⟩ := hJb.out jl hjn
    have hJl := Lib.hid (fun nn => hJob.out nn jl hjn)
    generalize jobSum ts m jl = js at *
    clear hjl
    have hv1 : IntKind.i64.wrap ((n : Int) - 1) = (n : Int) - 1 := IntWalk.i64_in _ (by omega)
    have hv2 : 0 ≤ (n : Int) - 1 := by omega
    have hv3 : ((n : Int) - 1).toNat = n - 1 := by omega
    have hv4 : (n : Int) - 1 < (n : Int) := by omega
    go_enter Try.func39, Try.ntmps39
    go_wp2_with fail
    with_reducible refine (hT.out).mono ?_
    rintro e w' ⟨nd0, rfl, rfl⟩
    rw [← World.cell?_drewN (n := nd0)] at q0
    go_wp2_with (go_at_call 72; (with_reducible refine (hJl.out _).mono ?_); rintro e w' ⟨rfl, rfl⟩)
    clear hv1 hv2 hv3 hv4 q0
    go_loopw [8, 9] (fun bv pv wr => ∃ (p nd : Nat), 1 ≤ p ∧ p ≤ n ∧ pv = .int .i64 p ∧ bv = .int .i64 (js + waitTo ts o m (p - 1)) ∧ wr = w.drewN nd) (fun _ pv _ => n - (intOf pv).toNat)
    case atStart => exact ⟨1, nd0, Nat.le_refl _, hn1, rfl, by show _ = Value.int .i64 (js + 0); rw [Int.add_zero], rfl⟩
    case round =>
      obtain ⟨p, nd, hp1, hp, rfl, rfl, rfl⟩ := hrel
      by_cases hlt : p < n
      · obtain ⟨i, bx, ox, hi, hin, hii, p0⟩ := hOrd.out (p - 1) (by omega)
        injection hii with hii; injection hii with e1 e2 _
        subst e1 e2
        obtain ⟨j, b2', o2', hj, hjn, hjj, q0⟩ := hOrd.out p hlt
        injection hjj with hjj; injection hjj with e1 e2 _
        subst e1 e2
        rw [← World.cell?_drewN (n := nd)] at p0 q0
        have hg := Lib.hid (fun nn => hGap.out nn i j hin hjn)
        have hst := Lib.hid (show waitTo ts o m p = waitTo ts o m (p - 1) + gapAt ts m i j by
          have := hWs.out (p - 1) i j hi (by rw [show p - 1 + 1 = p by omega]; exact hj)
          rw [show p - 1 + 1 = p by omega] at this
          exact this)
        obtain ⟨y0, y1⟩ := hWb.out (p - 1) (by omega)
        obtain ⟨g0, g1⟩ := hGb.out i j hin hjn
        generalize waitTo ts o m (p - 1) = wv at *
        generalize gapAt ts m i j = gv at *
        clear hi hj
        have hw1 : IntKind.i64.wrap ((p : Int) - 1) = (p : Int) - 1 := IntWalk.i64_in _ (by omega)
        have hw2 : 0 ≤ (p : Int) - 1 := by omega
        have hw3 : ((p : Int) - 1).toNat = p - 1 := by omega
        have hw4 : (p : Int) - 1 < (n : Int) := by omega
        have hw5 : IntKind.i64.wrap (js + wv + gv) = js + wv + gv := IntWalk.i64_in _ (by omega)
        generalize hwo : w.drewN nd = wo at *
        have hWo := Lib.hid hwo
        have hg' : Hid (∀ nn, Calls Try.prog 70 #[.slice (some ⟨b1, o1, none⟩) L cap1, .int .i64 m, .int .i64 (i : Int), .int .i64 (j : Int)] (wo.drewN nn) fun e w' => e = .returned (.int .i64 gv) ∧ wo.drewN nn = w') := Lib.hid fun nn => by
          rw [← hwo, World.drewN_drewN]; exact hg.out _
        clear hwo hg
        go_wp2_with fail
        go_quiet ((go_at_call 70; exact Ret.quiet (Ret.same (hg'.out _))))
        go_wp2_with fail
        go_roundw
        case rel => exact ⟨p + 1, _, by omega, by omega, by go_num, by rw [Nat.add_sub_cancel, hst.out, Int.add_assoc], by rw [← hWo.out, World.drewN_drewN]⟩
        case measure => simp [intOf]; omega
      · obtain rfl : n = p := by omega
        have hR : Hid (Q (.returned (.tuple #[.int .i64 (js + waitTo ts o m (n - 1)), .bool true])) (w.drewN nd)) := Lib.hid (by
          rw [Int.add_comm, ← hen.out]
          exact hP.out _)
        generalize waitTo ts o m (n - 1) = wv at *
        go_wp2_with fail
        first | exact hR.out | (go_ret2; exact hR.out)
theorem noWaitLast_both (ts : List Int) (M : Int) (o : List Int) (_ : ∀ x ∈ ts, (Lit.int .i64 x).wf = true) (_ : (Lit.int .i64 M).wf = true) (hw : ∀ x ∈ o, (Lit.int .i64 x).wf = true) : ∃ (r0 : Int) (r1 : Bool),
    (∀ (B : Nat) (v1 v2 : Value) (w : World), LstI B w v1 ts → LstI B w v2 o → B ≤ w.heap.size → Calls Try.prog 39 #[v1, .int .i64 M, v2] w fun e w' => e = .returned (.tuple #[.int .i64 r0, .bool r1]) ∧ Below w.heap.size w w') ∧
    (∀ (B : Nat) (v1 v2 : Value) (w : World), LstI B w v1 ts → LstI B w v2 o → B ≤ w.heap.size → Calls Try.prog 40 #[v1, .int .i64 M, v2] w fun e w' => e = .returned (.tuple #[.int .i64 r0, .bool r1]) ∧ Below w.heap.size w w') :=
  ⟨waitRes ts o M, canFlow ts o M, fun B v1 v2 w h1 h2 hB => specNoWaitLast_any B v1 v2 ts o M w h1 h2 hB, fun B v1 v2 w h1 h2 hB => implNoWaitLast_any B v1 v2 ts o M w h1 h2 hB hw⟩
end Go.Proofs.Ytfigojmdklaljaa
