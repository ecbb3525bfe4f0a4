/- The law on RingGap: the program answers as its model. -/
import Derived.Test.YtkjnkomljhlbpaaRows
import Derived.Test.YtkjnkomljhlbpaaGoneBoth
import Derived.ProofKit
import Derived.OpenShut
namespace Go.Proofs.Ytkjnkomljhlbpaa.exactRingGap
open Go.ChangeShapes Go.WideShapes Go.ChangeAt Go.RowKit Go.Lst

set_option maxHeartbeats 4000000 in
set_option maxRecDepth 100000 in
theorem walk (v0 : Value) (x0 : List RuleD) (hw0 : (∀ y ∈ x0, y.wf)) (x1 : Int) (hw1 : (Lit.int .i64 x1).wf = true) (v2 : Value) (x2 : List Int) (hw2 : (∀ y ∈ x2, (Lit.int .i64 y).wf = true)) (v3 : Value) (x3 : List Bool) (hw3 : (∀ y ∈ x3, y = y)) (W : World) (h0 : LstRule W.heap.size W v0 x0) (h2 : LstI W.heap.size W v2 x2) (h3 : LstB W.heap.size W v3 x3) :
    Calls Try.prog 3 #[v0, .int .i64 x1, v2, v3] W fun e w' => e = .returned (.bool true) ∧ Below W.heap.size W w' := by
  obtain ⟨r0, r1, r2, hs, hi⟩ := ringGap_both x0 x1 x2 x3 hw0 hw1 hw2 hw3
  have HS := Lib.hid hs
  have HI := Lib.hid hi
  clear hs hi hw0 hw1 hw2 hw3 
  obtain ⟨a0, cap0, hv0, hl0, -⟩ := id h0
  subst hv0
  have hL0 := Lib.hid h0
  clear h0
  generalize hn0 : x0.length = n0 at *
  have hN0 := Lib.hid hn0
  clear hn0
  unfold maxLen at hl0
  obtain ⟨a2, cap2, hv2, hl2, -⟩ := id h2
  subst hv2
  have hL2 := Lib.hid h2
  clear h2
  generalize hn2 : x2.length = n2 at *
  have hN2 := Lib.hid hn2
  clear hn2
  unfold maxLen at hl2
  obtain ⟨a3, cap3, hv3, hl3, -⟩ := id h3
  subst hv3
  have hL3 := Lib.hid h3
  clear h3
  generalize hn3 : x3.length = n3 at *
  have hN3 := Lib.hid hn3
  clear hn3
  unfold maxLen at hl3
  by_cases hbig0 : 1048576 < n2
  · go_enter Try.func3, Try.ntmps3
    go_wp2_with fail
    go_ret
    exact ⟨rfl, Below.refl _ _⟩
  · have hle0 : n2 ≤ 1048576 := by omega
    clear hbig0
    by_cases hbig1 : 1048576 < n3
    · go_enter Try.func3, Try.ntmps3
      go_wp2_with fail
      go_ret
      exact ⟨rfl, Below.refl _ _⟩
    · have hle1 : n3 ≤ 1048576 := by omega
      clear hbig1
      by_cases hbig2 : 1048576 < n0
      · go_enter Try.func3, Try.ntmps3
        go_wp2_with fail
        refine (szRuleS_over _ _ _ _ _ (by omega) (by omega) (by omega)).mono ?_
        rintro e w0 ⟨rfl, rfl⟩
        go_wp2_with fail
        go_ret
        exact ⟨rfl, Below.refl _ _⟩
      · have hle2 : n0 ≤ 1048576 := by omega
        clear hbig2
        have hle_0 := Lib.hid (show x0.length ≤ 1048576 by have := hN0.out; omega)
        have hle_2 := Lib.hid (show x2.length ≤ 1048576 by have := hN2.out; omega)
        have hle_3 := Lib.hid (show x3.length ≤ 1048576 by have := hN3.out; omega)
        go_enter Try.func3, Try.ntmps3
        go_wp2_with fail
        refine (szRuleS_fits _ _ _ _ _ (by omega) (by omega) (by omega)).mono ?_
        rintro e w0 ⟨rfl, rfl⟩
        have T0 := Lib.hid (Below.refl W.heap.size W)
        go_wp2_with fail
        skip
        refine (copiedRule W.heap.size _ x0 W (hL0.out.below T0.out (Nat.le_refl _)) T0.out.size hle_0.out).mono ?_
        rintro e w1 ⟨u1, rfl, ho1, hb1⟩
        have P1 := Lib.hid ho1
        clear ho1
        have S1 := Lib.hid hb1
        clear hb1
        have T1 := Lib.hid (below_on T0.out (Nat.le_refl _) S1.out)
        go_wp2_with fail
        skip
        refine (copiedI W.heap.size _ x2 w1 (hL2.out.below T1.out (Nat.le_refl _)) T1.out.size hle_2.out).mono ?_
        rintro e w2 ⟨u2, rfl, ho2, hb2⟩
        have P2 := Lib.hid ho2
        clear ho2
        have S2 := Lib.hid hb2
        clear hb2
        have T2 := Lib.hid (below_on T1.out (Nat.le_refl _) S2.out)
        have O1 := Lib.hid (P1.out.below S2.out (Nat.le_refl _))
        clear P1
        go_wp2_with fail
        skip
        refine (copiedB W.heap.size _ x3 w2 (hL3.out.below T2.out (Nat.le_refl _)) T2.out.size hle_3.out).mono ?_
        rintro e w3 ⟨u3, rfl, ho3, hb3⟩
        have P3 := Lib.hid ho3
        clear ho3
        have S3 := Lib.hid hb3
        clear hb3
        have T3 := Lib.hid (below_on T2.out (Nat.le_refl _) S3.out)
        have O2 := Lib.hid (O1.out.below S3.out S2.out.size)
        clear O1
        have O3 := Lib.hid (P2.out.below S3.out (Nat.le_refl _))
        clear P2
        go_wp2_with fail
        skip
        refine (HS.out w3.heap.size _ _ _ w3  (O2.out.lstK (Nat.le_trans S2.out.size S3.out.size)) (O3.out.lstI S3.out.size) (P3.out.lstB (Nat.le_refl _)) (Nat.le_refl _)).mono ?_
        rintro e w4 ⟨rfl, hb4⟩
        have S4 := Lib.hid hb4
        clear hb4
        have T4 := Lib.hid (below_on T3.out (Nat.le_refl _) S4.out)
        have O4 := Lib.hid (O2.out.below S4.out (Nat.le_trans S2.out.size S3.out.size))
        clear O2
        have O5 := Lib.hid (O3.out.below S4.out S3.out.size)
        clear O3
        have O6 := Lib.hid (P3.out.below S4.out (Nat.le_refl _))
        clear P3
        go_wp2_with fail
        skip
        refine (copiedRule W.heap.size _ x0 w4 (hL0.out.below T4.out (Nat.le_refl _)) T4.out.size hle_0.out).mono ?_
        rintro e w5 ⟨u5, rfl, ho5, hb5⟩
        have P5 := Lib.hid ho5
        clear ho5
        have S5 := Lib.hid hb5
        clear hb5
        have T5 := Lib.hid (below_on T4.out (Nat.le_refl _) S5.out)
        have O7 := Lib.hid (O4.out.below S5.out (Nat.le_trans S2.out.size (Nat.le_trans S3.out.size S4.out.size)))
        clear O4
        have O8 := Lib.hid (O5.out.below S5.out (Nat.le_trans S3.out.size S4.out.size))
        clear O5
        have O9 := Lib.hid (O6.out.below S5.out S4.out.size)
        clear O6
        go_wp2_with fail
        skip
        refine (copiedI W.heap.size _ x2 w5 (hL2.out.below T5.out (Nat.le_refl _)) T5.out.size hle_2.out).mono ?_
        rintro e w6 ⟨u6, rfl, ho6, hb6⟩
        have P6 := Lib.hid ho6
        clear ho6
        have S6 := Lib.hid hb6
        clear hb6
        have T6 := Lib.hid (below_on T5.out (Nat.le_refl _) S6.out)
        have O10 := Lib.hid (O7.out.below S6.out (Nat.le_trans S2.out.size (Nat.le_trans S3.out.size (Nat.le_trans S4.out.size S5.out.size))))
        clear O7
        have O11 := Lib.hid (O8.out.below S6.out (Nat.le_trans S3.out.size (Nat.le_trans S4.out.size S5.out.size)))
        clear O8
        have O12 := Lib.hid (O9.out.below S6.out (Nat.le_trans S4.out.size S5.out.size))
        clear O9
        have O13 := Lib.hid (P5.out.below S6.out (Nat.le_refl _))
        clear P5
        go_wp2_with fail
        skip
        refine (copiedB W.heap.size _ x3 w6 (hL3.out.below T6.out (Nat.le_refl _)) T6.out.size hle_3.out).mono ?_
        rintro e w7 ⟨u7, rfl, ho7, hb7⟩
        have P7 := Lib.hid ho7
        clear ho7
        have S7 := Lib.hid hb7
        clear hb7
        have T7 := Lib.hid (below_on T6.out (Nat.le_refl _) S7.out)
        have O14 := Lib.hid (O10.out.below S7.out (Nat.le_trans S2.out.size (Nat.le_trans S3.out.size (Nat.le_trans S4.out.size (Nat.le_trans S5.out.size S6.out.size)))))
        clear O10
        have O15 := Lib.hid (O11.out.below S7.out (Nat.le_trans S3.out.size (Nat.le_trans S4.out.size (Nat.le_trans S5.out.size S6.out.size))))
        clear O11
        have O16 := Lib.hid (O12.out.below S7.out (Nat.le_trans S4.out.size (Nat.le_trans S5.out.size S6.out.size)))
        clear O12
        have O17 := Lib.hid (O13.out.below S7.out S6.out.size)
        clear O13
        have O18 := Lib.hid (P6.out.below S7.out (Nat.le_refl _))
        clear P6
        go_wp2_with fail
        skip
        refine (HI.out w7.heap.size _ _ _ w7  (O17.out.lstK (Nat.le_trans S6.out.size S7.out.size)) (O18.out.lstI S7.out.size) (P7.out.lstB (Nat.le_refl _)) (Nat.le_refl _)).mono ?_
        rintro e w8 ⟨rfl, hb8⟩
        have S8 := Lib.hid hb8
        clear hb8
        have T8 := Lib.hid (below_on T7.out (Nat.le_refl _) S8.out)
        have O19 := Lib.hid (O14.out.below S8.out (Nat.le_trans S2.out.size (Nat.le_trans S3.out.size (Nat.le_trans S4.out.size (Nat.le_trans S5.out.size (Nat.le_trans S6.out.size S7.out.size))))))
        clear O14
        have O20 := Lib.hid (O15.out.below S8.out (Nat.le_trans S3.out.size (Nat.le_trans S4.out.size (Nat.le_trans S5.out.size (Nat.le_trans S6.out.size S7.out.size)))))
        clear O15
        have O21 := Lib.hid (O16.out.below S8.out (Nat.le_trans S4.out.size (Nat.le_trans S5.out.size (Nat.le_trans S6.out.size S7.out.size))))
        clear O16
        have O22 := Lib.hid (O17.out.below S8.out (Nat.le_trans S6.out.size S7.out.size))
        clear O17
        have O23 := Lib.hid (O18.out.below S8.out S7.out.size)
        clear O18
        have O24 := Lib.hid (P7.out.below S8.out (Nat.le_refl _))
        clear P7
        go_wp2_with fail
        skip
        refine (copiedRule W.heap.size _ x0 w8 (hL0.out.below T8.out (Nat.le_refl _)) T8.out.size hle_0.out).mono ?_
        rintro e w9 ⟨u9, rfl, ho9, hb9⟩
        have P9 := Lib.hid ho9
        clear ho9
        have S9 := Lib.hid hb9
        clear hb9
        have T9 := Lib.hid (below_on T8.out (Nat.le_refl _) S9.out)
        have O25 := Lib.hid (O19.out.below S9.out (Nat.le_trans S2.out.size (Nat.le_trans S3.out.size (Nat.le_trans S4.out.size (Nat.le_trans S5.out.size (Nat.le_trans S6.out.size (Nat.le_trans S7.out.size S8.out.size)))))))
        clear O19
        have O26 := Lib.hid (O20.out.below S9.out (Nat.le_trans S3.out.size (Nat.le_trans S4.out.size (Nat.le_trans S5.out.size (Nat.le_trans S6.out.size (Nat.le_trans S7.out.size S8.out.size))))))
        clear O20
        have O27 := Lib.hid (O21.out.below S9.out (Nat.le_trans S4.out.size (Nat.le_trans S5.out.size (Nat.le_trans S6.out.size (Nat.le_trans S7.out.size S8.out.size)))))
        clear O21
        have O28 := Lib.hid (O22.out.below S9.out (Nat.le_trans S6.out.size (Nat.le_trans S7.out.size S8.out.size)))
        clear O22
        have O29 := Lib.hid (O23.out.below S9.out (Nat.le_trans S7.out.size S8.out.size))
        clear O23
        have O30 := Lib.hid (O24.out.below S9.out S8.out.size)
        clear O24
        go_wp2_with fail
        skip
        refine (eqRuleS_yes w9.heap.size _ _ x0 w9 (O28.out.lstK (Nat.le_trans S6.out.size (Nat.le_trans S7.out.size (Nat.le_trans S8.out.size S9.out.size)))) (P9.out.lstK (Nat.le_refl _))).mono ?_
        rintro e w10 ⟨rfl, hb10⟩
        have S10 := Lib.hid hb10
        clear hb10
        have T10 := Lib.hid (below_on T9.out (Nat.le_refl _) S10.out)
        have O31 := Lib.hid (O25.out.below S10.out (Nat.le_trans S2.out.size (Nat.le_trans S3.out.size (Nat.le_trans S4.out.size (Nat.le_trans S5.out.size (Nat.le_trans S6.out.size (Nat.le_trans S7.out.size (Nat.le_trans S8.out.size S9.out.size))))))))
        clear O25
        have O32 := Lib.hid (O26.out.below S10.out (Nat.le_trans S3.out.size (Nat.le_trans S4.out.size (Nat.le_trans S5.out.size (Nat.le_trans S6.out.size (Nat.le_trans S7.out.size (Nat.le_trans S8.out.size S9.out.size)))))))
        clear O26
        have O33 := Lib.hid (O27.out.below S10.out (Nat.le_trans S4.out.size (Nat.le_trans S5.out.size (Nat.le_trans S6.out.size (Nat.le_trans S7.out.size (Nat.le_trans S8.out.size S9.out.size))))))
        clear O27
        have O34 := Lib.hid (O28.out.below S10.out (Nat.le_trans S6.out.size (Nat.le_trans S7.out.size (Nat.le_trans S8.out.size S9.out.size))))
        clear O28
        have O35 := Lib.hid (O29.out.below S10.out (Nat.le_trans S7.out.size (Nat.le_trans S8.out.size S9.out.size)))
        clear O29
        have O36 := Lib.hid (O30.out.below S10.out (Nat.le_trans S8.out.size S9.out.size))
        clear O30
        have O37 := Lib.hid (P9.out.below S10.out (Nat.le_refl _))
        clear P9
        go_wp2_with fail
        skip
        refine (copiedI W.heap.size _ x2 w10 (hL2.out.below T10.out (Nat.le_refl _)) T10.out.size hle_2.out).mono ?_
        rintro e w11 ⟨u11, rfl, ho11, hb11⟩
        have P11 := Lib.hid ho11
        clear ho11
        have S11 := Lib.hid hb11
        clear hb11
        have T11 := Lib.hid (below_on T10.out (Nat.le_refl _) S11.out)
        have O38 := Lib.hid (O31.out.below S11.out (Nat.le_trans S2.out.size (Nat.le_trans S3.out.size (Nat.le_trans S4.out.size (Nat.le_trans S5.out.size (Nat.le_trans S6.out.size (Nat.le_trans S7.out.size (Nat.le_trans S8.out.size (Nat.le_trans S9.out.size S10.out.size)))))))))
        clear O31
        have O39 := Lib.hid (O32.out.below S11.out (Nat.le_trans S3.out.size (Nat.le_trans S4.out.size (Nat.le_trans S5.out.size (Nat.le_trans S6.out.size (Nat.le_trans S7.out.size (Nat.le_trans S8.out.size (Nat.le_trans S9.out.size S10.out.size))))))))
        clear O32
        have O40 := Lib.hid (O33.out.below S11.out (Nat.le_trans S4.out.size (Nat.le_trans S5.out.size (Nat.le_trans S6.out.size (Nat.le_trans S7.out.size (Nat.le_trans S8.out.size (Nat.le_trans S9.out.size S10.out.size)))))))
        clear O33
        have O41 := Lib.hid (O34.out.below S11.out (Nat.le_trans S6.out.size (Nat.le_trans S7.out.size (Nat.le_trans S8.out.size (Nat.le_trans S9.out.size S10.out.size)))))
        clear O34
        have O42 := Lib.hid (O35.out.below S11.out (Nat.le_trans S7.out.size (Nat.le_trans S8.out.size (Nat.le_trans S9.out.size S10.out.size))))
        clear O35
        have O43 := Lib.hid (O36.out.below S11.out (Nat.le_trans S8.out.size (Nat.le_trans S9.out.size S10.out.size)))
        clear O36
        go_wp2_with fail
        skip
        refine (eqInt64S_yes w11.heap.size _ _ x2 w11 (O42.out.lstI (Nat.le_trans S7.out.size (Nat.le_trans S8.out.size (Nat.le_trans S9.out.size (Nat.le_trans S10.out.size S11.out.size))))) (P11.out.lstI (Nat.le_refl _))).mono ?_
        rintro e w12 ⟨m12, rfl, hw12⟩
        have hb12 : Below w11.heap.size w11 w12 := by rw [hw12]; exact below_drawn _ _
        clear hw12
        have S12 := Lib.hid hb12
        clear hb12
        have T12 := Lib.hid (below_on T11.out (Nat.le_refl _) S12.out)
        have O44 := Lib.hid (O38.out.below S12.out (Nat.le_trans S2.out.size (Nat.le_trans S3.out.size (Nat.le_trans S4.out.size (Nat.le_trans S5.out.size (Nat.le_trans S6.out.size (Nat.le_trans S7.out.size (Nat.le_trans S8.out.size (Nat.le_trans S9.out.size (Nat.le_trans S10.out.size S11.out.size))))))))))
        clear O38
        have O45 := Lib.hid (O39.out.below S12.out (Nat.le_trans S3.out.size (Nat.le_trans S4.out.size (Nat.le_trans S5.out.size (Nat.le_trans S6.out.size (Nat.le_trans S7.out.size (Nat.le_trans S8.out.size (Nat.le_trans S9.out.size (Nat.le_trans S10.out.size S11.out.size)))))))))
        clear O39
        have O46 := Lib.hid (O40.out.below S12.out (Nat.le_trans S4.out.size (Nat.le_trans S5.out.size (Nat.le_trans S6.out.size (Nat.le_trans S7.out.size (Nat.le_trans S8.out.size (Nat.le_trans S9.out.size (Nat.le_trans S10.out.size S11.out.size))))))))
        clear O40
        have O47 := Lib.hid (O41.out.below S12.out (Nat.le_trans S6.out.size (Nat.le_trans S7.out.size (Nat.le_trans S8.out.size (Nat.le_trans S9.out.size (Nat.le_trans S10.out.size S11.out.size))))))
        clear O41
        have O48 := Lib.hid (O42.out.below S12.out (Nat.le_trans S7.out.size (Nat.le_trans S8.out.size (Nat.le_trans S9.out.size (Nat.le_trans S10.out.size S11.out.size)))))
        clear O42
        have O49 := Lib.hid (O43.out.below S12.out (Nat.le_trans S8.out.size (Nat.le_trans S9.out.size (Nat.le_trans S10.out.size S11.out.size))))
        clear O43
        have O50 := Lib.hid (P11.out.below S12.out (Nat.le_refl _))
        clear P11
        go_wp2_with fail
        skip
        refine (copiedB W.heap.size _ x3 w12 (hL3.out.below T12.out (Nat.le_refl _)) T12.out.size hle_3.out).mono ?_
        rintro e w13 ⟨u13, rfl, ho13, hb13⟩
        have P13 := Lib.hid ho13
        clear ho13
        have S13 := Lib.hid hb13
        clear hb13
        have T13 := Lib.hid (below_on T12.out (Nat.le_refl _) S13.out)
        have O51 := Lib.hid (O44.out.below S13.out (Nat.le_trans S2.out.size (Nat.le_trans S3.out.size (Nat.le_trans S4.out.size (Nat.le_trans S5.out.size (Nat.le_trans S6.out.size (Nat.le_trans S7.out.size (Nat.le_trans S8.out.size (Nat.le_trans S9.out.size (Nat.le_trans S10.out.size (Nat.le_trans S11.out.size S12.out.size)))))))))))
        clear O44
        have O52 := Lib.hid (O45.out.below S13.out (Nat.le_trans S3.out.size (Nat.le_trans S4.out.size (Nat.le_trans S5.out.size (Nat.le_trans S6.out.size (Nat.le_trans S7.out.size (Nat.le_trans S8.out.size (Nat.le_trans S9.out.size (Nat.le_trans S10.out.size (Nat.le_trans S11.out.size S12.out.size))))))))))
        clear O45
        have O53 := Lib.hid (O46.out.below S13.out (Nat.le_trans S4.out.size (Nat.le_trans S5.out.size (Nat.le_trans S6.out.size (Nat.le_trans S7.out.size (Nat.le_trans S8.out.size (Nat.le_trans S9.out.size (Nat.le_trans S10.out.size (Nat.le_trans S11.out.size S12.out.size)))))))))
        clear O46
        have O54 := Lib.hid (O47.out.below S13.out (Nat.le_trans S6.out.size (Nat.le_trans S7.out.size (Nat.le_trans S8.out.size (Nat.le_trans S9.out.size (Nat.le_trans S10.out.size (Nat.le_trans S11.out.size S12.out.size)))))))
        clear O47
        have O55 := Lib.hid (O48.out.below S13.out (Nat.le_trans S7.out.size (Nat.le_trans S8.out.size (Nat.le_trans S9.out.size (Nat.le_trans S10.out.size (Nat.le_trans S11.out.size S12.out.size))))))
        clear O48
        have O56 := Lib.hid (O49.out.below S13.out (Nat.le_trans S8.out.size (Nat.le_trans S9.out.size (Nat.le_trans S10.out.size (Nat.le_trans S11.out.size S12.out.size)))))
        clear O49
        go_wp2_with fail
        skip
        refine (eqBoolS_yes w13.heap.size _ _ x3 w13 (O56.out.lstB (Nat.le_trans S8.out.size (Nat.le_trans S9.out.size (Nat.le_trans S10.out.size (Nat.le_trans S11.out.size (Nat.le_trans S12.out.size S13.out.size)))))) (P13.out.lstB (Nat.le_refl _))).mono ?_
        rintro e w14 ⟨m14, rfl, hw14⟩
        have hb14 : Below w13.heap.size w13 w14 := by rw [hw14]; exact below_drawn _ _
        clear hw14
        have S14 := Lib.hid hb14
        clear hb14
        have T14 := Lib.hid (below_on T13.out (Nat.le_refl _) S14.out)
        have O57 := Lib.hid (O51.out.below S14.out (Nat.le_trans S2.out.size (Nat.le_trans S3.out.size (Nat.le_trans S4.out.size (Nat.le_trans S5.out.size (Nat.le_trans S6.out.size (Nat.le_trans S7.out.size (Nat.le_trans S8.out.size (Nat.le_trans S9.out.size (Nat.le_trans S10.out.size (Nat.le_trans S11.out.size (Nat.le_trans S12.out.size S13.out.size))))))))))))
        clear O51
        have O58 := Lib.hid (O52.out.below S14.out (Nat.le_trans S3.out.size (Nat.le_trans S4.out.size (Nat.le_trans S5.out.size (Nat.le_trans S6.out.size (Nat.le_trans S7.out.size (Nat.le_trans S8.out.size (Nat.le_trans S9.out.size (Nat.le_trans S10.out.size (Nat.le_trans S11.out.size (Nat.le_trans S12.out.size S13.out.size)))))))))))
        clear O52
        have O59 := Lib.hid (O53.out.below S14.out (Nat.le_trans S4.out.size (Nat.le_trans S5.out.size (Nat.le_trans S6.out.size (Nat.le_trans S7.out.size (Nat.le_trans S8.out.size (Nat.le_trans S9.out.size (Nat.le_trans S10.out.size (Nat.le_trans S11.out.size (Nat.le_trans S12.out.size S13.out.size))))))))))
        clear O53
        have O60 := Lib.hid (O54.out.below S14.out (Nat.le_trans S6.out.size (Nat.le_trans S7.out.size (Nat.le_trans S8.out.size (Nat.le_trans S9.out.size (Nat.le_trans S10.out.size (Nat.le_trans S11.out.size (Nat.le_trans S12.out.size S13.out.size))))))))
        clear O54
        have O61 := Lib.hid (O55.out.below S14.out (Nat.le_trans S7.out.size (Nat.le_trans S8.out.size (Nat.le_trans S9.out.size (Nat.le_trans S10.out.size (Nat.le_trans S11.out.size (Nat.le_trans S12.out.size S13.out.size)))))))
        clear O55
        have O62 := Lib.hid (O56.out.below S14.out (Nat.le_trans S8.out.size (Nat.le_trans S9.out.size (Nat.le_trans S10.out.size (Nat.le_trans S11.out.size (Nat.le_trans S12.out.size S13.out.size))))))
        clear O56
        have O63 := Lib.hid (P13.out.below S14.out (Nat.le_refl _))
        clear P13
        go_wp2_with fail
        go_ret
        exact ⟨rfl, T14.out⟩

theorem own : ownKnob Try.prog.godebug = none := by kernel_rfl
theorem laid : laidOutB Try.prog = true := by kernel_rfl
theorem cells2 : Try.prog.cellsOf 2 = 1 := by kernel_rfl
theorem cells3 : Try.prog.cellsOf 4 = 1 := by kernel_rfl

set_option maxRecDepth 100000 in
theorem contract (H : Type) (enc : TypeId × Value → H) (W : World) (base : Nat) (args : Array Value) (ds gs : List (DataW H)) (before : List MemPlace)
    (hval : ∀ (j : Nat) t v, Try.f3.params[j]? = some t → args[j]? = some v → Value.okWide Try.prog W .any base t v)
    (hW : DataW.Whole enc Try.prog Try.f3.params.toList Rows.fnExactRingGapSpec.vars false W args.toList ds gs before) :
    Calls Try.prog 3 args W fun e W' => ∃ v, e = .returned v ∧ Rows.fnExactRingGapSpec.post enc Try.prog Try.f3 false true false false W args v W' := by
  have hW' := hW
  have hlt : ∀ x ∈ before, x.block < W.heap.size := fun x hx => hW'.lt x hx
  obtain ⟨p, q, hA0, hV, rfl, hfz, hnd⟩ := hW
  have hA : DataW.TrodAll enc Try.prog W 0 (fun _ => true) true Try.f3.params.toList args.toList ds p := hA0
  rw [Try.params3] at hA hval
  obtain ⟨v0, vs0, d0, ds0, p0, q0, hargs, rfl, rfl, h0, r0⟩ := trodAll_cons hA
  obtain ⟨v1, vs1, d1, ds1, p1, q1, rfl, rfl, rfl, h1, r1⟩ := trodAll_cons r0
  obtain ⟨v2, vs2, d2, ds2, p2, q2, rfl, rfl, rfl, h2, r2⟩ := trodAll_cons r1
  obtain ⟨v3, vs3, d3, ds3, p3, q3, rfl, rfl, rfl, h3, r3⟩ := trodAll_cons r2
  obtain ⟨rfl, rfl, rfl⟩ := trodAll_nil r3
  obtain rfl : args = #[v0, v1, v2, v3] := by first | exact Array.ext' (by exact hargs) | (cases args; simp_all)
  obtain ⟨rfl, rfl⟩ := trodVars_none hV
  clear hA0
  have k0 := h0
  have k1 := h1
  have k2 := h2
  have k3 := h3
  obtain ⟨a0, L0, w0⟩ := openRow_Rule (enc := enc) (hval 0 22 v0 rfl rfl) h0
  obtain ⟨a1, rfl, _, _, w1⟩ := open_int Try.underlying2 (hval 1 2 v1 rfl rfl) h1
  obtain ⟨a2, L2, w2⟩ := Go.Lst.open_intsI Try.underlying23 Try.underlying2 cells2 (hval 2 23 v2 rfl rfl) h2
  obtain ⟨a3, L3, w3⟩ := Go.Lst.open_boolsB Try.underlying24 Try.underlying4 cells3 (hval 3 24 v3 rfl rfl) h3
  simp only [List.append_nil] at hW' hlt
  refine (walk v0 a0 w0 a1 w1 v2 a2 w2 v3 a3 w3 W L0 L2 L3).mono fun e W' ⟨he, hb⟩ => ?_
  subst he
  exact ⟨_, rfl, Go.Lst.post_new (pv := []) hW' (fun _ _ _ => (trodAll_cons_mk (shut_bool Try.underlying4 _) trodAll_mk0)) (fun sp hsp => (trodAll_cons_mk (WideElems.Trod_stays laid (by kernel_rfl) (of_decide_eq_true (by kernel_rfl)) k0 (fun x hx => hb.same (hlt x (by simp [hx]))) (fun x hx => hsp x (by simp [hx]))) (trodAll_cons_mk (WideElems.Trod_stays laid (by kernel_rfl) (of_decide_eq_true (by kernel_rfl)) k1 (fun x hx => hb.same (hlt x (by simp [hx]))) (fun x hx => hsp x (by simp [hx]))) (trodAll_cons_mk (WideElems.Trod_stays laid (by kernel_rfl) (of_decide_eq_true (by kernel_rfl)) k2 (fun x hx => hb.same (hlt x (by simp [hx]))) (fun x hx => hsp x (by simp [hx]))) (trodAll_cons_mk (WideElems.Trod_stays laid (by kernel_rfl) (of_decide_eq_true (by kernel_rfl)) k3 (fun x hx => hb.same (hlt x (by simp [hx]))) (fun x hx => hsp x (by simp [hx]))) trodAll_mk0))))) (fun _ _ => rfl) (by simp)
    hb (ok_one (by kernel_rfl) rfl (okWide_bool_mk Try.underlying4 _))⟩

set_option maxRecDepth 100000 in
theorem lifted (os : Os) (started : os.Started) (H : Type) (enc : TypeId × Value → H) :
    ReturnsInHanded {} Try.checked os 3 .any (Rows.fnExactRingGapSpec.pre6 enc Try.prog Try.f3 Rows.fnExactRingGapRow.domain false) (Rows.fnExactRingGapSpec.post enc Try.prog Try.f3 false true false false) := by
  refine returnsInHanded_of_change (C := Try.checked) own started (by kernel_rfl) Try.func3
    (ChangeSpec.witness6 (enc := enc) (C := Try.checked) false ⟨#[], #[.slice none 0 0, .int .i64 0, .slice none 0 0, .slice none 0 0], []⟩ 8 (by kernel_rfl) (by kernel_rfl) (by kernel_rfl) (by kernel_rfl)) ?_
  intro W base args ds gs before hval hW _ _
  exact contract H enc W base args ds gs before hval hW

set_option maxRecDepth 100000 in
theorem proved : Rows.FnExactRingGapSaid :=
  OpenClaim.holds_of_wide 3 Try.f3 rfl rfl rfl rfl rfl rfl rfl ⟨rfl, rfl, rfl, rfl, rfl⟩ rfl rfl rfl rfl rfl (by kernel_rfl) Try.func3 (by kernel_rfl)
    (of_decide_eq_true (by kernel_rfl)) (by unfold Func.isWrapper; first | (rw [if_pos (by decide +kernel)]; kernel_rfl) | (rw [if_neg (by decide +kernel)]; exact ⟨rfl, rfl⟩))
    (fun os started H enc _ => lifted os started H enc)
end Go.Proofs.Ytkjnkomljhlbpaa.exactRingGap
