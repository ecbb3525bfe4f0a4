/- Contracts: how far an order of models is from an even one. -/
import Derived.Test.YtfigojmdklaljaaMixC
namespace Go.Proofs.Ytfigojmdklaljaa
open Go.RowKit Go.Lst

theorem mixRes_yes {cs o : List Int} (h : canMix cs o = true) : mixRes cs o = mixGap cs o o.length o.length := by unfold mixRes; rw [h, if_pos rfl]
theorem canMix_ne2 {cs o : List Int} {n : Nat} (hs : sumTo cs cs.length = (n : Int)) (he : ¬ o.length = n) : canMix cs o = false := by
  unfold canMix
  rw [decide_eq_false (show ¬ (o.length : Int) = sumTo cs cs.length by rw [hs]; omega)]
  simp
theorem mix_num {cs o : List Int} {k j m : Nat} (hm : cs.length = m) (hj : o[k]? = some (j : Int)) : mixB m o (k + 1) = (mixB m o k).set j ((mixB m o k).getD j 0 + 1) := by
  rw [mixB_step hj, Int.toNat_natCast]
theorem mixNone_step {cs o : List Int} {k j : Nat} (h : mixNone cs o k) (hj : o[k]? = some (j : Int)) (hne : (mixB cs.length o k).getD j 0 ≠ cs.getD j 0) : mixNone cs o (k + 1) := fun i x hi hx => by
  by_cases e : i = k
  · subst e
    rw [hj] at hx
    obtain rfl := Option.some.inj hx
    rw [Int.toNat_natCast]; exact hne
  · exact h i x (by omega) hx
theorem by_bounds {cs o : List Int} {n k : Nat} (hn : n ≤ 64) (hk : k ≤ n) (hl : k ≤ o.length) (hc : ∀ (i : Nat) (x : Int), cs[i]? = some x → 0 ≤ x ∧ x ≤ 16) (hin : inModels cs.length o k) (i : Nat) :
    (0 ≤ (k : Int) * cs.getD i 0 ∧ (k : Int) * cs.getD i 0 ≤ 1024) ∧ (0 ≤ (n : Int) * (mixB cs.length o k).getD i 0 ∧ (n : Int) * (mixB cs.length o k).getD i 0 ≤ 4096) := by
  have hb := mixB_small hl hin i
  have h := byAt_bound (cs := cs) (b := mixB cs.length o k) (n := n) (k := k) (i := i) (by omega) (by omega) (counts_at hc i) (by omega)
  exact ⟨h.1, h.2.1⟩
theorem gap_step (cs b : List Int) (n k g : Int) (i : Nat) : gapIn cs b n k g (i + 1) = max (max (gapIn cs b n k g i) (byAt cs b n k i)) (-(byAt cs b n k i)) := by
  show max _ (max _ _) = _
  omega
theorem gap_in {cs o : List Int} {n k : Nat} {g : Int} (hn : n ≤ 64) (hk : k ≤ n) (hl : k ≤ o.length) (hc : ∀ (i : Nat) (x : Int), cs[i]? = some x → 0 ≤ x ∧ x ≤ 16) (hin : inModels cs.length o k) (hg : 0 ≤ g ∧ g ≤ 4096) (i : Nat) (hi : i ≤ cs.length) :
    (0 ≤ gapIn cs (mixB cs.length o k) n k g i ∧ gapIn cs (mixB cs.length o k) n k g i ≤ 4096) ∧ -4096 ≤ byAt cs (mixB cs.length o k) n k i ∧ byAt cs (mixB cs.length o k) n k i ≤ 1024 := by
  have h2 : ∀ i, -4096 ≤ byAt cs (mixB cs.length o k) n k i ∧ byAt cs (mixB cs.length o k) n k i ≤ 1024 := fun i => by
    have hb := mixB_small hl hin i
    exact (byAt_bound (cs := cs) (b := mixB cs.length o k) (n := n) (k := k) (i := i) (by omega) (by omega) (counts_at hc i) (by omega)).2.2
  exact ⟨gapIn_bound hg (fun i _ => h2 i) i hi, h2 i⟩

set_option maxHeartbeats 8000000 in
set_option maxRecDepth 100000 in
theorem implMixedGap_any (B : Nat) (v1 v2 : Value) (cs o : List Int) (w : World) (h1 : LstI B w v1 cs) (h2 : LstI B w v2 o) (hB : B ≤ w.heap.size) :
    Calls Try.prog 26 #[v1, v2] w (NumPost (mixRes cs o) (canMix cs o) w) := by
  have hT := Lib.hid (areCounts_any B v1 cs w h1)
  have hNo : Hid (canMix cs o = false → ∀ w', Below w.heap.size w w' → NumPost (mixRes cs o) (canMix cs o) w (.returned (.tuple #[.int .i64 0, .bool false])) w') := Lib.hid fun hq w' hb => num_no (by unfold mixRes; rw [hq]; rfl) hq hb
  cases hq : okCounts cs
  · have hP := Lib.hid (hNo.out (by unfold canMix; rw [hq]; rfl) w (Below.refl _ _))
    rw [hq] at hT
    generalize NumPost (mixRes cs o) (canMix cs o) w = Q at *
    obtain ⟨a1, cap1, rfl, hl1, _⟩ := h1.at_
    obtain ⟨a2, cap2, rfl, hl2, _⟩ := h2.at_
    clear h1 h2 hq hNo
    generalize cs.length = m at *
    generalize o.length = n at *
    unfold maxLen at hl1 hl2
    go_enter Try.func26, Try.ntmps26
    go_wp2_with (go_at_call 56; (with_reducible refine (hT.out).mono ?_); rintro e w' ⟨rfl, rfl⟩)
    first | exact hP.out | (go_ret2; exact hP.out)
  · obtain ⟨n, hm1, hm8, hs, hn1, hn64, hc⟩ := okCounts_of hq
    have hS := Lib.hid (sumOf_any B v1 cs w h1 (counts_sums hm8 (by have := hq; simp only [okCounts, Bool.and_eq_true] at this; exact this.1.2)) (fun i x hx => by have := hc i x hx; omega))
    rw [hq] at hT
    rw [hs] at hS
    by_cases he : o.length = n
    · have hSl : (o.length : Int) = sumTo cs cs.length := by omega
      have hOut : Hid (∀ (k : Nat) (x : Int), o[k]? = some x → inB x 0 ((cs.length : Int) - 1) = false → canMix cs o = false) := Lib.hid fun k x a b => canMix_out a b
      have hEq : Hid (∀ (k j : Nat), k < n → o[k]? = some (j : Int) → (mixB cs.length o k).getD j 0 = cs.getD j 0 → canMix cs o = false) := Lib.hid fun k j a b c => canMix_no (by omega) b c
      have hYes : Hid (inModels cs.length o n → mixNone cs o n → ∀ w', Below w.heap.size w w' → NumPost (mixRes cs o) (canMix cs o) w (.returned (.tuple #[.int .i64 (mixGap cs o n n), .bool true])) w') := Lib.hid fun a b w' hb => by
        have hy := canMix_yes hq hSl (by rw [he]; exact a) (by rw [he]; exact b)
        exact num_yes (by rw [mixRes_yes hy, he]) hy hb
      have hIn : Hid (∀ (k : Nat) (x : Int), inModels cs.length o k → o[k]? = some x → inB x 0 ((cs.length : Int) - 1) = true → inModels cs.length o (k + 1)) := Lib.hid fun k x a b c => inModels_step a b c
      have hNs : Hid (∀ (k j : Nat), mixNone cs o k → o[k]? = some (j : Int) → (mixB cs.length o k).getD j 0 ≠ cs.getD j 0 → mixNone cs o (k + 1)) := Lib.hid fun k j a b c => mixNone_step a b c
      have hSt : Hid (∀ (k j : Nat), o[k]? = some (j : Int) → mixB cs.length o (k + 1) = (mixB cs.length o k).set j ((mixB cs.length o k).getD j 0 + 1)) := Lib.hid fun k j a => mix_num rfl a
      have hLn := Lib.hid (fun k => mixB_length cs.length o k)
      have hSm : Hid (∀ k, k ≤ n → inModels cs.length o k → ∀ i, 0 ≤ (mixB cs.length o k).getD i 0 ∧ (mixB cs.length o k).getD i 0 ≤ k) := Lib.hid fun k a b => mixB_small (by omega) b
      have hBy : Hid (∀ k, k ≤ n → inModels cs.length o k → _) := Lib.hid fun k (a : k ≤ n) b => by_bounds hn64 a (by omega) hc b
      have hGb : Hid (∀ k, k ≤ n → inModels cs.length o k → 0 ≤ mixGap cs o n k ∧ mixGap cs o n k ≤ 4096) := Lib.hid fun k a b => mixGap_bound hn64 hc k (by omega) (by omega) b
      have hGi : Hid (∀ k, k ≤ n → inModels cs.length o k → ∀ g : Int, 0 ≤ g ∧ g ≤ 4096 → ∀ i, i ≤ cs.length → _) := Lib.hid fun k (a : k ≤ n) b g c i d => gap_in hn64 a (by omega) hc b c i d
      have hGs : Hid (∀ k, mixGap cs o n (k + 1) = gapIn cs (mixB cs.length o (k + 1)) n ((k + 1 : Nat) : Int) (mixGap cs o n k) cs.length) := Lib.hid fun k => rfl
      have hZ : Hid (mixB cs.length o 0 = List.replicate cs.length 0) := Lib.hid rfl
      have hBE : Hid (∀ (w' : World) (v3 : Value) (b : List Int) (k : Nat) (z : Int), z = (k : Int) → Below w.heap.size w w' → LstI w'.heap.size w' v3 b → b.length = cs.length → (∀ i, (0 ≤ (k : Int) * cs.getD i 0 ∧ (k : Int) * cs.getD i 0 ≤ 1024) ∧ (0 ≤ (n : Int) * b.getD i 0 ∧ (n : Int) * b.getD i 0 ≤ 4096)) →
          Calls Try.prog 57 #[v1, v3, .int .i64 n, .int .i64 z] w' fun e w'' => ∃ v', e = .returned v' ∧ Own w'.heap.size w''.heap.size w'' v' 2 1 cs.length ((byL cs b n k cs.length).map (Value.int .i64)) ∧ Below w'.heap.size w' w'') := Lib.hid fun w' v3 b k z hz hb h3 hl hbd => by
        rw [hz]
        exact behindEven_any w'.heap.size v1 v3 cs b n k w' ((h1.below hb hB).mono (Nat.le_trans hB hb.size)) h3 hl hm8 (Nat.le_refl _) hbd
      have hByL : Hid (∀ b k, (byL cs b n k cs.length).length = cs.length) := Lib.hid fun b k => byL_length cs b n k cs.length
      have hByG : Hid (∀ b k i, i < cs.length → (byL cs b n k cs.length).getD i 0 = byAt cs b n k i) := Lib.hid fun b k i hi => byL_getD cs b n k cs.length i hi
      obtain ⟨a1, cap1, rfl, hl1, _, _, hc1⟩ := h1.at_
      obtain ⟨a2, cap2, rfl, hl2, _, _, hc2⟩ := h2.at_
      rw [he] at hl2 hc2 ⊢
      have hC1 : Hid (∀ k, k < cs.length → ∃ b o, a1 = some ⟨b, o, none⟩ ∧ b < B ∧ w.cell? ⟨b, o + k, none⟩ = some (.int .i64 (cs.getD k 0))) := Lib.hid fun k hk => by
        obtain ⟨b, o, x, h1, h2, h3, h4⟩ := hc1 k hk
        exact ⟨b, o, h1, h2, by rw [getD_of h3]; exact h4⟩
      have hC2 := Lib.hid hc2
      obtain ⟨i0, hi, hz0, hz1, hz2⟩ := info_parts infoI
      generalize NumPost (mixRes cs o) (canMix cs o) w = Q at *
      clear h1 h2 hc1 hc2 hq hs he hc hSl
      generalize hmm : cs.length = m at *
      have hMM := Lib.hid hmm
      clear hmm
      unfold maxLen at hl1 hl2
      go_enter Try.func26, Try.ntmps26
      go_wp2_with (first | (go_at_call 56; (with_reducible refine (hT.out).mono ?_); rintro e w' ⟨rfl, rfl⟩) | (go_at_call 49; (with_reducible refine (hS.out).mono ?_); rintro e w' ⟨rfl, rfl⟩) | (at_make; refine wpList_make_full _ rfl _ _ _ rfl w.heap.size _ i0 (.int .i64 0) 1 Try.underlying22 hi hz0 hz1 _ _ _ _ m rfl rfl rfl rfl ?c1 ?c2 ?c3 ?_))
      case c1 => rw [hz2]; omega
      case c2 => unfold maxLen; omega
      case c3 => exact Nat.le_refl _
      intro w2 hown2 hg2
      have hB2 := Lib.hid ((Below.refl w.heap.size w).grown hg2 (Nat.le_refl _) (fun k hk => by cases hk))
      have hO2 := Lib.hid (show w2.ownsRow w.heap.size 2 1 (.slice (some ⟨w.heap.size, 0, none⟩) m m) m ((mixB m o 0).map (Value.int .i64)) by rw [hZ.out]; exact zeros_row hown2)
      have hs2 := Lib.hid (hown2.lt _ rfl).2
      clear hown2 hg2 hz0 hz1 hz2 hi hZ
      generalize hgg : w.heap.size = g at *
      have hGG := Lib.hid hgg
      clear hgg
      go_wp2_with fail
      go_loopw [6, 27] (fun gv iv wr => ∃ k : Nat, k ≤ n ∧ iv = .int .i64 k ∧ gv = .int .i64 (mixGap cs o n k) ∧ Hid (inModels m o k) ∧ Hid (mixNone cs o k) ∧ Hid (wr.ownsRow g 2 1 (.slice (some ⟨g, 0, none⟩) m m) m ((mixB m o k).map (Value.int .i64))) ∧ Hid (Below g w wr) ∧ Hid (g < wr.heap.size)) (fun _ iv _ => n - (intOf iv).toNat)
      case atStart => exact ⟨0, Nat.zero_le _, rfl, rfl, Lib.hid (fun i x hi _ => by omega), Lib.hid (fun i x hi _ => by omega), hO2, hB2, hs2⟩
      case round =>
        clear hB2 hO2 hs2
        obtain ⟨k, hk, rfl, rfl, hI, hN, hO, hBr, hsz⟩ := hrel
        by_cases hlt : k < n
        · obtain ⟨b2, o2, x, rfl, hb2, hx, q0⟩ := hC2.out k hlt
          have hX := Lib.hid hx
          clear hx
          rw [← hBr.out.cell (p := ⟨b2, o2 + k, none⟩) (show b2 < g by have := hGG.out; omega)] at q0
          have hw0 : IntKind.i64.wrap ((m : Int) - 1) = (m : Int) - 1 := IntWalk.i64_in _ (by omega)
          have hW := Lib.hid (fun w' => isWithin_any x 0 ((m : Int) - 1) w')
          cases hin : inB x 0 ((m : Int) - 1)
          · have hP := Lib.hid (fun nq => hNo.out (hOut.out k x hX.out hin) _ (Lst.Below.drewN hBr.out nq))
            rw [hin] at hW
            go_wp2_with fail
            go_quiet ((go_at_call 45; exact Ret.quiet (Ret.same (hW.out _))))
            go_wp2_with fail
            first | exact hP.out _ | (go_ret2; exact hP.out _)
          · obtain ⟨x0, x1⟩ := inB_true hin
            obtain ⟨j, rfl⟩ := Int.eq_ofNat_of_zero_le x0
            have hjm : j < m := by omega
            have hI2 := Lib.hid (hIn.out k _ hI.out hX.out hin)
            rw [hin] at hW
            obtain ⟨b1, o1, rfl, hb1, p0⟩ := hC1.out j hjm
            rw [← hBr.out.cell (p := ⟨b1, o1 + j, none⟩) (show b1 < g by have := hGG.out; omega)] at p0
            have hd : wr.cell? ⟨g, j, none⟩ = some (.int .i64 ((mixB m o k).getD j 0)) := row_cell hO.out (by rw [hLn.out]; exact hjm)
            have hsm := hSm.out k hk hI.out j
            have hE2 := Lib.hid (hEq.out k j hlt hX.out)
            have hN2 := Lib.hid (hNs.out k j hN.out hX.out)
            have hS2 := Lib.hid (hSt.out k j hX.out)
            have hG2 := Lib.hid (hGs.out k)
            have hBy2 := Lib.hid (hBy.out (k + 1) hlt hI2.out)
            have hGi2 := Lib.hid (hGi.out (k + 1) hlt hI2.out _ (hGb.out k hk hI.out))
            generalize hbv : (mixB m o k).getD j 0 = bv at *
            generalize hcv : cs.getD j 0 = cv at *
            have hBV := Lib.hid hbv
            clear hbv hcv
            by_cases heq : bv = cv
            · have hP := Lib.hid (fun nq => hNo.out (hE2.out heq) _ (Lst.Below.drewN hBr.out nq))
              subst heq
              go_wp2_with fail
              go_quiet ((go_at_call 45; exact Ret.quiet (Ret.same (hW.out _))))
              go_wp2_with fail
              first | exact hP.out _ | (go_ret2; exact hP.out _)
            · have hN3 := Lib.hid (hN2.out heq)
              have hbf : (bv == cv) = false := beq_eq_false_iff_ne.2 heq
              clear hE2 hN2
              go_wp2_with fail
              go_quiet ((go_at_call 45; exact Ret.quiet (Ret.same (hW.out _))))
              have hO3 := Lib.hid (ownsRow_drewN hO.out nq)
              have hB3 := Lib.hid (Lst.Below.drewN hBr.out nq)
              have hd3 : (wr.drewN nq).cell? ⟨g, j, none⟩ = some (.int .i64 bv) := hd
              have hf3 : (wr.drewN nq).frozen? ⟨g, j, none⟩ = false := hO.out.frozenAt j
              have hs3 := Lib.hid (show g < (wr.drewN nq).heap.size from hsz.out)
              clear hO hBr hd hsz p0 q0
              generalize wr.drewN nq = w3 at *
              have hw1 : IntKind.i64.wrap (bv + 1) = bv + 1 := IntWalk.i64_in _ (by omega)
              have hst := row_set hO3.out j (bv + 1)
              have hO4 := Lib.hid (show (w3.setCell ⟨g, j, none⟩ (.int .i64 (bv + 1))).ownsRow g 2 1 (.slice (some ⟨g, 0, none⟩) m m) m ((mixB m o (k + 1)).map (Value.int .i64)) by rw [hS2.out]; exact hst.1)
              have hB4 := Lib.hid (hB3.out.setCell (p := ⟨g, j, none⟩) (Nat.le_refl _) (.int .i64 (bv + 1)))
              have hs4 := Lib.hid (Nat.lt_of_lt_of_le hs3.out hst.2.size)
              clear hst hO3 hB3 hs3
              have hw2 : IntKind.i64.wrap ((k : Int) + 1) = (k : Int) + 1 := IntWalk.i64_in _ (by omega)
              go_wp2_with fail
              generalize World.setCell _ _ _ = w4 at *
              have hv4 := Lib.hid (show LstI w4.heap.size w4 (.slice (some ⟨g, 0, none⟩) m m) (mixB m o (k + 1)) from by
                have := Own.new hO4.out (show m ≤ maxLen by unfold maxLen; omega)
                unfold LstI
                rw [hLn.out]
                exact this.lstK (Nat.le_refl _))
              with_reducible refine (hBE.out w4 _ _ (k + 1) _ (by omega) (by rw [hGG.out] at *; exact hB4.out) hv4.out (hLn.out _) hBy2.out).mono ?_
              rintro e w5 ⟨v5, rfl, ho5, hb5⟩
              have hO5 := Lib.hid (ownsRow_kept hO4.out hb5)
              have hB5 := Lib.hid (below_on hB4.out (Nat.le_of_eq hGG.out.symm) hb5)
              have hs5 := Lib.hid (Nat.lt_of_lt_of_le hs4.out hb5.size)
              have hL5 : LstI w5.heap.size w5 v5 (byL cs (mixB m o (k + 1)) n ((k + 1 : Nat) : Int) m) := by
                unfold LstI
                rw [hByL.out]
                exact ho5.lstK (Nat.le_refl _)
              obtain ⟨a5, cap5, rfl, hl5, _, _, hc5⟩ := hL5.at_
              rw [hByL.out] at hl5 hc5 ⊢
              have hC5 : Hid (∀ i, i < m → ∃ b q, a5 = some ⟨b, q, none⟩ ∧ w5.cell? ⟨b, q + i, none⟩ = some (.int .i64 (byAt cs (mixB m o (k + 1)) n ((k + 1 : Nat) : Int) i))) := Lib.hid fun i hi => by
                obtain ⟨b, q, x, e1, _, e3, e4⟩ := hc5 i hi
                exact ⟨b, q, e1, by rw [← hByG.out _ _ i hi, getD_of e3]; exact e4⟩
              clear hc5 ho5 hb5 hO4 hB4 hs4 hv4 hL5
              have hGs2 := Lib.hid (fun i => gap_step cs (mixB m o (k + 1)) n ((k + 1 : Nat) : Int) (mixGap cs o n k) i)
              generalize hbb : mixB m o (k + 1) = bb at *
              have hBB := Lib.hid hbb
              clear hbb
              have hG0 : Hid (gapIn cs bb n ((k + 1 : Nat) : Int) (mixGap cs o n k) 0 = mixGap cs o n k) := Lib.hid rfl
              unfold maxLen at hl5
              go_wp2_with fail
              go_loopw [6, 63] (fun gv iv wr => ∃ i : Nat, i ≤ m ∧ iv = .int .i64 i ∧ gv = .int .i64 (gapIn cs bb n ((k + 1 : Nat) : Int) (mixGap cs o n k) i) ∧ wr = w5) (fun _ iv _ => m - (intOf iv).toNat)
              case atStart => exact ⟨0, Nat.zero_le _, rfl, rfl, rfl⟩
              case round =>
                obtain ⟨i, hi, rfl, rfl, rfl⟩ := hrel
                by_cases hlt2 : i < m
                · obtain ⟨b5, o5, rfl, r0⟩ := hC5.out i hlt2
                  obtain ⟨⟨z0, z1⟩, z2, z3⟩ := hGi2.out i hi
                  have hg2 := Lib.hid (hGs2.out i)
                  generalize hgn : gapIn cs bb n ((k + 1 : Nat) : Int) (mixGap cs o n k) (i + 1) = gn at *
                  have hGN := Lib.hid hgn
                  clear hgn
                  generalize gapIn cs bb n ((k + 1 : Nat) : Int) (mixGap cs o n k) i = gi at *
                  generalize byAt cs bb n ((k + 1 : Nat) : Int) i = bi at *
                  have hw3 : IntKind.i64.wrap (-bi) = -bi := IntWalk.i64_in _ (by omega)
                  go_wp2_with fail
                  all_goals
                    go_roundw
                    case rel => exact ⟨i + 1, by omega, by go_num, by rw [hGN.out, hg2.out]; congr 1; omega, by trivial⟩
                    case measure => simp [intOf]; omega
                · obtain rfl : m = i := by omega
                  rw [← hG2.out]
                  go_wp2_with fail
                  go_roundw
                  case rel => exact ⟨k + 1, by omega, by go_num, rfl, hI2, hN3, by rw [hBB.out]; exact hO5, hB5, hs5⟩
                  case measure => simp [intOf]; omega
        · obtain rfl : n = k := by omega
          have hP := Lib.hid (hYes.out hI.out hN.out wr hBr.out)
          go_wp2_with fail
          first | exact hP.out | (go_ret2; exact hP.out)
    · have hq2 := canMix_ne2 hs he
      have hP := Lib.hid (hNo.out hq2 w (Below.refl _ _))
      have hb : ((o.length : Int) != (n : Int)) = true := by rw [bne_iff_ne]; omega
      generalize NumPost (mixRes cs o) (canMix cs o) w = Q at *
      obtain ⟨a1, cap1, rfl, hl1, _⟩ := h1.at_
      obtain ⟨a2, cap2, rfl, hl2, _⟩ := h2.at_
      clear h1 h2 hq hNo hq2 hs he hc
      generalize cs.length = m at *
      generalize o.length = L at *
      unfold maxLen at hl1 hl2
      go_enter Try.func26, Try.ntmps26
      go_wp2_with (first | (go_at_call 56; (with_reducible refine (hT.out).mono ?_); rintro e w' ⟨rfl, rfl⟩) | (go_at_call 49; (with_reducible refine (hS.out).mono ?_); rintro e w' ⟨rfl, rfl⟩))
      first | exact hP.out | (go_ret2; exact hP.out)
set_option maxHeartbeats 8000000 in
set_option maxRecDepth 100000 in
theorem specMixedGap_any (B : Nat) (v1 v2 : Value) (cs o : List Int) (w : World) (h1 : LstI B w v1 cs) (h2 : LstI B w v2 o) (hB : B ≤ w.heap.size) :
    Calls Try.prog 25 #[v1, v2] w (NumPost (mixRes cs o) (canMix cs o) w) := by
  have hT := Lib.hid (l04Counts_any B v1 cs w h1)
  have hNo : Hid (canMix cs o = false → ∀ w', Below w.heap.size w w' → NumPost (mixRes cs o) (canMix cs o) w (.returned (.tuple #[.int .i64 0, .bool false])) w') := Lib.hid fun hq w' hb => num_no (by unfold mixRes; rw [hq]; rfl) hq hb
  cases hq : okCounts cs
  · have hP := Lib.hid (hNo.out (by unfold canMix; rw [hq]; rfl) w (Below.refl _ _))
    rw [hq] at hT
    generalize NumPost (mixRes cs o) (canMix cs o) w = Q at *
    obtain ⟨a1, cap1, rfl, hl1, _⟩ := h1.at_
    obtain ⟨a2, cap2, rfl, hl2, _⟩ := h2.at_
    clear h1 h2 hq hNo
    generalize cs.length = m at *
    generalize o.length = n at *
    unfold maxLen at hl1 hl2
    go_enter Try.func25, Try.ntmps25
    go_wp2_with (go_at_call 53; (with_reducible refine (hT.out).mono ?_); rintro e w' ⟨rfl, rfl⟩)
    first | exact hP.out | (go_ret2; exact hP.out)
  · obtain ⟨n, hm1, hm8, hs, hn1, hn64, hc⟩ := okCounts_of hq
    have hS := Lib.hid (l02Sum_any B v1 cs 0 w h1 (counts_sums hm8 (by have := hq; simp only [okCounts, Bool.and_eq_true] at this; exact this.1.2)) (fun i x hx => by have := hc i x hx; omega))
    rw [hq] at hT
    rw [hs] at hS
    by_cases he : o.length = n
    · have hSl : (o.length : Int) = sumTo cs cs.length := by omega
      have hOut : Hid (∀ (k : Nat) (x : Int), o[k]? = some x → inB x 0 ((cs.length : Int) - 1) = false → canMix cs o = false) := Lib.hid fun k x a b => canMix_out a b
      have hEq : Hid (∀ i, i < cs.length → (mixB cs.length o n).getD i 0 ≠ cs.getD i 0 → canMix cs o = false) := Lib.hid fun i _ b => canMix_ne (by rw [he]; intro h; rw [h] at b; exact b rfl)
      have hYes : Hid (inModels cs.length o n → (∀ i, i < cs.length → (mixB cs.length o n).getD i 0 = cs.getD i 0) → ∀ w', Below w.heap.size w w' → NumPost (mixRes cs o) (canMix cs o) w (.returned (.tuple #[.int .i64 (mixGap cs o n n), .bool true])) w') := Lib.hid fun a b w' hb => by
        have hy := canMix_yes2 hq hSl (by rw [he]; exact a) (by rw [he]; exact list_eq_getD (mixB_length _ _ _) (by rw [mixB_length]; exact b))
        exact num_yes (by rw [mixRes_yes hy, he]) hy hb
      have hIn : Hid (∀ (k : Nat) (x : Int), inModels cs.length o k → o[k]? = some x → inB x 0 ((cs.length : Int) - 1) = true → inModels cs.length o (k + 1)) := Lib.hid fun k x a b c => inModels_step a b c
      have hSt : Hid (∀ (k j : Nat), o[k]? = some (j : Int) → mixB cs.length o (k + 1) = (mixB cs.length o k).set j ((mixB cs.length o k).getD j 0 + 1)) := Lib.hid fun k j a => mix_num rfl a
      have hLn := Lib.hid (fun k => mixB_length cs.length o k)
      have hSm : Hid (∀ k, k ≤ n → inModels cs.length o k → ∀ i, 0 ≤ (mixB cs.length o k).getD i 0 ∧ (mixB cs.length o k).getD i 0 ≤ k) := Lib.hid fun k a b => mixB_small (by omega) b
      have hBy : Hid (∀ k, k ≤ n → inModels cs.length o k → _) := Lib.hid fun k (a : k ≤ n) b => by_bounds hn64 a (by omega) hc b
      have hGb : Hid (∀ k, k ≤ n → inModels cs.length o k → 0 ≤ mixGap cs o n k ∧ mixGap cs o n k ≤ 4096) := Lib.hid fun k a b => mixGap_bound hn64 hc k (by omega) (by omega) b
      have hGi : Hid (∀ k, k ≤ n → inModels cs.length o k → ∀ g : Int, 0 ≤ g ∧ g ≤ 4096 → ∀ i, i ≤ cs.length → _) := Lib.hid fun k (a : k ≤ n) b g c i d => gap_in hn64 a (by omega) hc b c i d
      have hGs : Hid (∀ k, mixGap cs o n (k + 1) = gapIn cs (mixB cs.length o (k + 1)) n ((k + 1 : Nat) : Int) (mixGap cs o n k) cs.length) := Lib.hid fun k => rfl
      have hZ : Hid (mixB cs.length o 0 = List.replicate cs.length 0) := Lib.hid rfl
      obtain ⟨a1, cap1, rfl, hl1, _, _, hc1⟩ := h1.at_
      obtain ⟨a2, cap2, rfl, hl2, _, _, hc2⟩ := h2.at_
      rw [he] at hl2 hc2 ⊢
      have hC1 : Hid (∀ k, k < cs.length → ∃ b o, a1 = some ⟨b, o, none⟩ ∧ b < B ∧ w.cell? ⟨b, o + k, none⟩ = some (.int .i64 (cs.getD k 0))) := Lib.hid fun k hk => by
        obtain ⟨b, o, x, h1, h2, h3, h4⟩ := hc1 k hk
        exact ⟨b, o, h1, h2, by rw [getD_of h3]; exact h4⟩
      have hC2 := Lib.hid hc2
      obtain ⟨i0, hi, hz0, hz1, hz2⟩ := info_parts infoI
      generalize NumPost (mixRes cs o) (canMix cs o) w = Q at *
      clear h1 h2 hc1 hc2 hq hs he hc hSl
      generalize hmm : cs.length = m at *
      have hMM := Lib.hid hmm
      clear hmm
      unfold maxLen at hl1 hl2
      go_enter Try.func25, Try.ntmps25
      go_wp2_with (first | (go_at_call 53; (with_reducible refine (hT.out).mono ?_); rintro e w' ⟨rfl, rfl⟩) | (go_at_call 54; (with_reducible refine (hS.out).mono ?_); rintro e w' ⟨rfl, rfl⟩) | (at_make; refine wpList_make_full _ rfl _ _ _ rfl w.heap.size _ i0 (.int .i64 0) 1 Try.underlying22 hi hz0 hz1 _ _ _ _ m rfl rfl rfl rfl ?c1 ?c2 ?c3 ?_))
      case c1 => rw [hz2]; omega
      case c2 => unfold maxLen; omega
      case c3 => exact Nat.le_refl _
      intro w2 hown2 hg2
      have hB2 := Lib.hid ((Below.refl w.heap.size w).grown hg2 (Nat.le_refl _) (fun k hk => by cases hk))
      have hO2 := Lib.hid (show w2.ownsRow w.heap.size 2 1 (.slice (some ⟨w.heap.size, 0, none⟩) m m) m ((mixB m o 0).map (Value.int .i64)) by rw [hZ.out]; exact zeros_row hown2)
      clear hown2 hg2 hz0 hz1 hz2 hi hZ
      generalize hgg : w.heap.size = g at *
      have hGG := Lib.hid hgg
      clear hgg
      go_wp2_with fail
      go_loopw [8, 9] (fun gv iv wr => ∃ k : Nat, k ≤ n ∧ iv = .int .i64 ((k : Int) + 1) ∧ gv = .int .i64 (mixGap cs o n k) ∧ Hid (inModels m o k) ∧ Hid (wr.ownsRow g 2 1 (.slice (some ⟨g, 0, none⟩) m m) m ((mixB m o k).map (Value.int .i64))) ∧ Hid (Below g w wr)) (fun _ iv _ => n + 1 - (intOf iv).toNat)
      case atStart => exact ⟨0, Nat.zero_le _, rfl, rfl, Lib.hid (fun i x hi _ => by omega), hO2, hB2⟩
      case round =>
        clear hB2 hO2
        obtain ⟨k, hk, rfl, rfl, hI, hO, hBr⟩ := hrel
        by_cases hlt : k < n
        · obtain ⟨b2, o2, x, rfl, hb2, hx, q0⟩ := hC2.out k hlt
          have hX := Lib.hid hx
          clear hx
          rw [← hBr.out.cell (p := ⟨b2, o2 + k, none⟩) (show b2 < g by have := hGG.out; omega)] at q0
          have hw0 : IntKind.i64.wrap ((m : Int) - 1) = (m : Int) - 1 := IntWalk.i64_in _ (by omega)
          have hw00 : IntKind.i64.wrap ((k : Int) + 1 - 1) = (k : Int) := by rw [Int.add_sub_cancel]; exact IntWalk.i64_in _ (by omega)
          have hle : decide ((k : Int) + 1 ≤ (n : Int)) = true := by simp; omega
          have hW := Lib.hid (fun w' => l00In_any x 0 ((m : Int) - 1) w')
          cases hin : inB x 0 ((m : Int) - 1)
          · have hP := Lib.hid (hNo.out (hOut.out k x hX.out hin) _ hBr.out)
            rw [hin] at hW
            go_wp2_with fail
            with_reducible refine (hW.out _).mono ?_
            rintro e w' ⟨rfl, rfl⟩
            go_wp2_with fail
            first | exact hP.out | (go_ret2; exact hP.out)
          · obtain ⟨x0, x1⟩ := inB_true hin
            obtain ⟨j, rfl⟩ := Int.eq_ofNat_of_zero_le x0
            have hjm : j < m := by omega
            have hI2 := Lib.hid (hIn.out k _ hI.out hX.out hin)
            rw [hin] at hW
            have hd : wr.cell? ⟨g, j, none⟩ = some (.int .i64 ((mixB m o k).getD j 0)) := row_cell hO.out (by rw [hLn.out]; exact hjm)
            have hfr : wr.frozen? ⟨g, j, none⟩ = false := hO.out.frozenAt j
            have hsm := hSm.out k hk hI.out j
            have hS2 := Lib.hid (hSt.out k j hX.out)
            have hG2 := Lib.hid (hGs.out k)
            have hBy2 := Lib.hid (hBy.out (k + 1) hlt hI2.out)
            have hGi2 := Lib.hid (hGi.out (k + 1) hlt hI2.out _ (hGb.out k hk hI.out))
            generalize hbv : (mixB m o k).getD j 0 = bv at *
            clear hbv
            have hw1 : IntKind.i64.wrap (bv + 1) = bv + 1 := IntWalk.i64_in _ (by omega)
            have hst := row_set hO.out j (bv + 1)
            have hO4 := Lib.hid (show (wr.setCell ⟨g, j, none⟩ (.int .i64 (bv + 1))).ownsRow g 2 1 (.slice (some ⟨g, 0, none⟩) m m) m ((mixB m o (k + 1)).map (Value.int .i64)) by rw [hS2.out]; exact hst.1)
            have hB4 := Lib.hid (hBr.out.setCell (p := ⟨g, j, none⟩) (Nat.le_refl _) (.int .i64 (bv + 1)))
            clear hst hO hBr
            go_wp2_with fail
            with_reducible refine (hW.out _).mono ?_
            rintro e w' ⟨rfl, rfl⟩
            go_wp2_with fail
            clear hd hfr q0
            generalize World.setCell _ _ _ = w5 at *
            have hGs2 := Lib.hid (fun i => gap_step cs (mixB m o (k + 1)) n ((k + 1 : Nat) : Int) (mixGap cs o n k) i)
            have hLb := Lib.hid (hLn.out (k + 1))
            generalize hbb : mixB m o (k + 1) = bb at *
            have hBB := Lib.hid hbb
            clear hbb
            have hG0 : Hid (gapIn cs bb n ((k + 1 : Nat) : Int) (mixGap cs o n k) 0 = mixGap cs o n k) := Lib.hid rfl
            go_loopw [8, 10] (fun gv iv wr => ∃ i : Nat, i ≤ m ∧ iv = .int .i64 i ∧ gv = .int .i64 (gapIn cs bb n ((k + 1 : Nat) : Int) (mixGap cs o n k) i) ∧ Hid (wr.ownsRow g 2 1 (.slice (some ⟨g, 0, none⟩) m m) m (bb.map (Value.int .i64))) ∧ Hid (Below g w wr)) (fun _ iv _ => m - (intOf iv).toNat)
            case atStart => exact ⟨0, Nat.zero_le _, rfl, rfl, hO4, hB4⟩
            case round =>
              clear hO4 hB4
              obtain ⟨i, hi, rfl, rfl, hO, hBr⟩ := hrel
              by_cases hlt2 : i < m
              · obtain ⟨b1, o1, rfl, hb1, p0⟩ := hC1.out i hlt2
                rw [← hBr.out.cell (p := ⟨b1, o1 + i, none⟩) (show b1 < g by have := hGG.out; omega)] at p0
                have hd : wr.cell? ⟨g, i, none⟩ = some (.int .i64 (bb.getD i 0)) := row_cell hO.out (by rw [hLb.out]; exact hlt2)
                obtain ⟨⟨z0, z1⟩, z2, z3⟩ := hGi2.out i hi
                obtain ⟨⟨y0, y1⟩, y2, y3⟩ := hBy2.out i
                have hg2 := Lib.hid (hGs2.out i)
                have hbe : byAt cs bb n ((k + 1 : Nat) : Int) i = ((k : Int) + 1) * cs.getD i 0 - n * bb.getD i 0 := by unfold byAt; rw [Int.natCast_add]; rfl
                rw [show ((k + 1 : Nat) : Int) = (k : Int) + 1 by omega] at y0 y1
                generalize hgn : gapIn cs bb n ((k + 1 : Nat) : Int) (mixGap cs o n k) (i + 1) = gn at *
                have hGN := Lib.hid hgn
                clear hgn
                generalize gapIn cs bb n ((k + 1 : Nat) : Int) (mixGap cs o n k) i = gi at *
                generalize byAt cs bb n ((k + 1 : Nat) : Int) i = bi at *
                generalize cs.getD i 0 = cv at *
                generalize bb.getD i 0 = dv at *
                have hw2 : IntKind.i64.wrap (((k : Int) + 1) * cv) = ((k : Int) + 1) * cv := IntWalk.i64_in _ (by omega)
                have hw3 : IntKind.i64.wrap ((n : Int) * dv) = (n : Int) * dv := IntWalk.i64_in _ (by omega)
                have hw4 : IntKind.i64.wrap (((k : Int) + 1) * cv - (n : Int) * dv) = bi := by rw [← hbe]; exact IntWalk.i64_in _ (by omega)
                have hw5 : IntKind.i64.wrap (-bi) = -bi := IntWalk.i64_in _ (by omega)
                clear hbe
                have hO7 := Lib.hid (fun nq => ownsRow_drewN hO.out nq)
                have hB7 := Lib.hid (fun nq => Lst.Below.drewN hBr.out nq)
                clear hO hBr
                go_wp2_with fail
                go_quiet (fail)
                go_wp2_with (go_at_call 55; (with_reducible refine (l00Max_any _ _ _).mono ?_); rintro e w' ⟨rfl, rfl⟩)
                go_roundw
                case rel => exact ⟨i + 1, by omega, by go_num, by rw [hGN.out, hg2.out]; congr 1; omega, hO7.out _, hB7.out _⟩
                case measure => simp [intOf]; omega
              · obtain rfl : m = i := by omega
                rw [← hG2.out]
                go_wp2_with fail
                go_roundw
                case rel => exact ⟨k + 1, by omega, by go_num, rfl, hI2, by rw [hBB.out]; exact hO, hBr⟩
                case measure => simp [intOf]; omega
        · obtain rfl : n = k := by omega
          have hle : decide ((n : Int) + 1 ≤ (n : Int)) = false := by simp; omega
          have hYes2 := Lib.hid (hYes.out hI.out)
          have hLb := Lib.hid (hLn.out n)
          generalize mixB m o n = bb at *
          generalize mixGap cs o n n = gg at *
          go_wp2_with fail
          go_loopw [12] (fun iv wr => ∃ i : Nat, i ≤ m ∧ iv = .int .i64 i ∧ Hid (∀ t, t < i → bb.getD t 0 = cs.getD t 0) ∧ Hid (wr.ownsRow g 2 1 (.slice (some ⟨g, 0, none⟩) m m) m (bb.map (Value.int .i64))) ∧ Hid (Below g w wr)) (fun iv _ => m - (intOf iv).toNat)
          case atStart => exact ⟨0, Nat.zero_le _, rfl, Lib.hid (fun t ht => by omega), hO, hBr⟩
          case round =>
            clear hO hBr
            obtain ⟨i, hi, rfl, hPr, hO, hBr⟩ := hrel
            by_cases hlt2 : i < m
            · obtain ⟨b1, o1, rfl, hb1, p0⟩ := hC1.out i hlt2
              rw [← hBr.out.cell (p := ⟨b1, o1 + i, none⟩) (show b1 < g by have := hGG.out; omega)] at p0
              have hd : wr.cell? ⟨g, i, none⟩ = some (.int .i64 (bb.getD i 0)) := row_cell hO.out (by rw [hLb.out]; exact hlt2)
              have hE2 := Lib.hid (hEq.out i hlt2)
              have hPr2 : Hid (bb.getD i 0 = cs.getD i 0 → ∀ t, t < i + 1 → bb.getD t 0 = cs.getD t 0) := Lib.hid fun h t ht => by
                by_cases e : t = i
                · subst e; exact h
                · exact hPr.out t (by omega)
              have hO7 := Lib.hid (fun nq => ownsRow_drewN hO.out nq)
              have hB7 := Lib.hid (fun nq => Lst.Below.drewN hBr.out nq)
              clear hO hBr
              generalize cs.getD i 0 = cv at *
              generalize bb.getD i 0 = dv at *
              by_cases heq : dv = cv
              · have hPr3 := Lib.hid (hPr2.out heq)
                subst heq
                go_wp2_with fail
                go_quiet (fail)
                go_wp2_with fail
                go_roundw
                case rel => exact ⟨i + 1, by omega, by go_num, hPr3, hO7.out _, hB7.out _⟩
                case measure => simp [intOf]; omega
              · have hP := Lib.hid (fun nq => hNo.out (hE2.out heq) _ (hB7.out nq))
                have hbf : (dv != cv) = true := bne_iff_ne.2 heq
                go_wp2_with fail
                go_quiet (fail)
                go_wp2_with fail
                first | exact hP.out _ | (go_ret2; exact hP.out _)
            · obtain rfl : m = i := by omega
              have hP := Lib.hid (hYes2.out hPr.out wr hBr.out)
              go_wp2_with fail
              first | exact hP.out | (go_ret2; exact hP.out)
    · have hq2 := canMix_ne2 hs he
      have hP := Lib.hid (hNo.out hq2 w (Below.refl _ _))
      have hb : ((o.length : Int) != (n : Int)) = true := by rw [bne_iff_ne]; omega
      generalize NumPost (mixRes cs o) (canMix cs o) w = Q at *
      obtain ⟨a1, cap1, rfl, hl1, _⟩ := h1.at_
      obtain ⟨a2, cap2, rfl, hl2, _⟩ := h2.at_
      clear h1 h2 hq hNo hq2 hs he hc
      generalize cs.length = m at *
      generalize o.length = L at *
      unfold maxLen at hl1 hl2
      go_enter Try.func25, Try.ntmps25
      go_wp2_with (first | (go_at_call 53; (with_reducible refine (hT.out).mono ?_); rintro e w' ⟨rfl, rfl⟩) | (go_at_call 54; (with_reducible refine (hS.out).mono ?_); rintro e w' ⟨rfl, rfl⟩))
      first | exact hP.out | (go_ret2; exact hP.out)
theorem mixedGap_both (cs o : List Int) (_ : ∀ x ∈ cs, (Lit.int .i64 x).wf = true) (_ : ∀ x ∈ o, (Lit.int .i64 x).wf = true) : ∃ (r0 : Int) (r1 : Bool),
    (∀ (B : Nat) (v1 v2 : Value) (w : World), LstI B w v1 cs → LstI B w v2 o → B ≤ w.heap.size → Calls Try.prog 25 #[v1, v2] w fun e w' => e = .returned (.tuple #[.int .i64 r0, .bool r1]) ∧ Below w.heap.size w w') ∧
    (∀ (B : Nat) (v1 v2 : Value) (w : World), LstI B w v1 cs → LstI B w v2 o → B ≤ w.heap.size → Calls Try.prog 26 #[v1, v2] w fun e w' => e = .returned (.tuple #[.int .i64 r0, .bool r1]) ∧ Below w.heap.size w w') :=
  ⟨mixRes cs o, canMix cs o, fun B v1 v2 w h1 h2 hB => specMixedGap_any B v1 v2 cs o w h1 h2 hB, fun B v1 v2 w h1 h2 hB => implMixedGap_any B v1 v2 cs o w h1 h2 hB⟩
end Go.Proofs.Ytfigojmdklaljaa
