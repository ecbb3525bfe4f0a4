/- The law on BestFlow: the program answers as its model. -/
import Derived.Test.YtnkbnkiaokkjhaaRows
import Derived.Test.YtnkbnkiaokkjhaaFlowBestBoth
import Derived.ProofKit
import Derived.OpenShut
namespace Go.Proofs.Ytnkbnkiaokkjhaa.exactBestFlow
open Go.ChangeShapes Go.WideShapes Go.ChangeAt Go.RowKit Go.Lst

set_option maxHeartbeats 4000000 in
set_option maxRecDepth 100000 in
theorem walk (v0 : Value) (x0 : List Int) (hw0 : (∀ y ∈ x0, (Lit.int .i64 y).wf = true)) (x1 : Int) (hw1 : (Lit.int .i64 x1).wf = true) (W : World) (h0 : LstI W.heap.size W v0 x0) :
    Calls Try.prog 4 #[v0, .int .i64 x1] W fun e w' => e = .returned (.bool true) ∧ Below W.heap.size W w' := by
  obtain ⟨r0, r1, r2, hb0, hs, hi⟩ := bestFlow_both x0 x1 hw0 hw1
  have HS := Lib.hid hs
  have HI := Lib.hid hi
  have Hhb0 := Lib.hid hb0
  clear hs hi hw0 hw1 hb0
  obtain ⟨a0, cap0, hv0, hl0, -⟩ := id h0
  subst hv0
  have hL0 := Lib.hid h0
  clear h0
  generalize hn0 : x0.length = n0 at *
  have hN0 := Lib.hid hn0
  clear hn0
  unfold maxLen at hl0
  by_cases hbig0 : 1048576 < n0
  · go_enter Try.func4, Try.ntmps4
    go_wp2_with fail
    go_ret
    exact ⟨rfl, Below.refl _ _⟩
  · have hle0 : n0 ≤ 1048576 := by omega
    clear hbig0
    have hle_0 := Lib.hid (show x0.length ≤ 1048576 by have := hN0.out; omega)
    go_enter Try.func4, Try.ntmps4
    have T0 := Lib.hid (Below.refl W.heap.size W)
    go_wp2_with fail
    skip
    refine (copiedI W.heap.size _ x0 W (hL0.out.below T0.out (Nat.le_refl _)) T0.out.size hle_0.out).mono ?_
    rintro e w1 ⟨u1, rfl, ho1, hb1⟩
    have P1 := Lib.hid ho1
    clear ho1
    have S1 := Lib.hid hb1
    clear hb1
    have T1 := Lib.hid (below_on T0.out (Nat.le_refl _) S1.out)
    go_wp2_with fail
    skip
    refine (HS.out w1.heap.size _ w1  (P1.out.lstI (Nat.le_refl _)) (Nat.le_refl _)).mono ?_
    rintro e w2 ⟨y2_0, rfl, ho2_0, hb2⟩
    have P2_0 := Lib.hid ho2_0
    clear ho2_0
    have S2 := Lib.hid hb2
    clear hb2
    have T2 := Lib.hid (below_on T1.out (Nat.le_refl _) S2.out)
    have O1 := Lib.hid (P1.out.below S2.out (Nat.le_refl _))
    clear P1
    go_wp2_with fail
    skip
    refine (copiedI W.heap.size _ x0 w2 (hL0.out.below T2.out (Nat.le_refl _)) T2.out.size hle_0.out).mono ?_
    rintro e w3 ⟨u3, rfl, ho3, hb3⟩
    have P3 := Lib.hid ho3
    clear ho3
    have S3 := Lib.hid hb3
    clear hb3
    have T3 := Lib.hid (below_on T2.out (Nat.le_refl _) S3.out)
    have O2 := Lib.hid (O1.out.below S3.out S2.out.size)
    clear O1
    have O3 := Lib.hid (P2_0.out.below S3.out (Nat.le_refl _))
    clear P2_0
    go_wp2_with fail
    skip
    refine (HI.out w3.heap.size _ w3  (P3.out.lstI (Nat.le_refl _)) (Nat.le_refl _)).mono ?_
    rintro e w4 ⟨y4_0, rfl, ho4_0, hb4⟩
    have P4_0 := Lib.hid ho4_0
    clear ho4_0
    have S4 := Lib.hid hb4
    clear hb4
    have T4 := Lib.hid (below_on T3.out (Nat.le_refl _) S4.out)
    have O4 := Lib.hid (O2.out.below S4.out (Nat.le_trans S2.out.size S3.out.size))
    clear O2
    have O5 := Lib.hid (O3.out.below S4.out S3.out.size)
    clear O3
    have O6 := Lib.hid (P3.out.below S4.out (Nat.le_refl _))
    clear P3
    go_wp2_with fail
    skip
    refine (eqInt64S_yes w4.heap.size _ _ r0 w4 (P4_0.out.lstI (Nat.le_refl _)) (O5.out.lstI (Nat.le_trans S3.out.size S4.out.size))).mono ?_
    rintro e w5 ⟨m5, rfl, hw5⟩
    have hb5 : Below w4.heap.size w4 w5 := by rw [hw5]; exact below_drawn _ _
    clear hw5
    have S5 := Lib.hid hb5
    clear hb5
    have T5 := Lib.hid (below_on T4.out (Nat.le_refl _) S5.out)
    have O7 := Lib.hid (O4.out.below S5.out (Nat.le_trans S2.out.size (Nat.le_trans S3.out.size S4.out.size)))
    clear O4
    have O8 := Lib.hid (O5.out.below S5.out (Nat.le_trans S3.out.size S4.out.size))
    clear O5
    have O9 := Lib.hid (O6.out.below S5.out S4.out.size)
    clear O6
    have O10 := Lib.hid (P4_0.out.below S5.out (Nat.le_refl _))
    clear P4_0
    go_wp2_with fail
    skip
    refine (copiedI W.heap.size _ x0 w5 (hL0.out.below T5.out (Nat.le_refl _)) T5.out.size hle_0.out).mono ?_
    rintro e w6 ⟨u6, rfl, ho6, hb6⟩
    have P6 := Lib.hid ho6
    clear ho6
    have S6 := Lib.hid hb6
    clear hb6
    have T6 := Lib.hid (below_on T5.out (Nat.le_refl _) S6.out)
    have O11 := Lib.hid (O7.out.below S6.out (Nat.le_trans S2.out.size (Nat.le_trans S3.out.size (Nat.le_trans S4.out.size S5.out.size))))
    clear O7
    have O12 := Lib.hid (O8.out.below S6.out (Nat.le_trans S3.out.size (Nat.le_trans S4.out.size S5.out.size)))
    clear O8
    have O13 := Lib.hid (O9.out.below S6.out (Nat.le_trans S4.out.size S5.out.size))
    clear O9
    have O14 := Lib.hid (O10.out.below S6.out S5.out.size)
    clear O10
    go_wp2_with fail
    skip
    refine (eqInt64S_yes w6.heap.size _ _ x0 w6 (O13.out.lstI (Nat.le_trans S4.out.size (Nat.le_trans S5.out.size S6.out.size))) (P6.out.lstI (Nat.le_refl _))).mono ?_
    rintro e w7 ⟨m7, rfl, hw7⟩
    have hb7 : Below w6.heap.size w6 w7 := by rw [hw7]; exact below_drawn _ _
    clear hw7
    have S7 := Lib.hid hb7
    clear hb7
    have T7 := Lib.hid (below_on T6.out (Nat.le_refl _) S7.out)
    have O15 := Lib.hid (O11.out.below S7.out (Nat.le_trans S2.out.size (Nat.le_trans S3.out.size (Nat.le_trans S4.out.size (Nat.le_trans S5.out.size S6.out.size)))))
    clear O11
    have O16 := Lib.hid (O12.out.below S7.out (Nat.le_trans S3.out.size (Nat.le_trans S4.out.size (Nat.le_trans S5.out.size S6.out.size))))
    clear O12
    have O17 := Lib.hid (O13.out.below S7.out (Nat.le_trans S4.out.size (Nat.le_trans S5.out.size S6.out.size)))
    clear O13
    have O18 := Lib.hid (O14.out.below S7.out (Nat.le_trans S5.out.size S6.out.size))
    clear O14
    have O19 := Lib.hid (P6.out.below S7.out (Nat.le_refl _))
    clear P6
    have hlq0 := hle_0.out
    have hrq0 := Hhb0.out
    go_wp2_with fail
    skip
    refine (markInt64S_any _ _ _ _ _ _ w7 O17.out (by omega) (by omega) (by have := hle_0.out; omega)).mono ?_
    rintro e w8 ⟨rfl, ho8, hb8⟩
    have P8 := Lib.hid ho8
    have S8 := Lib.hid hb8
    clear ho8 hb8
    have T8 := Lib.hid (T7.out.grown S8.out T7.out.size (fun g hg => Nat.le_trans (Nat.le_trans S1.out.size S2.out.size) (O17.out.block_ge g hg).1))
    have O20 := Lib.hid (O15.out.beside S8.out (fun g hg => .inr (Nat.le_trans S2.out.size (O17.out.block_ge g hg).1)) (Nat.le_trans S2.out.size (Nat.le_trans S3.out.size (Nat.le_trans S4.out.size (Nat.le_trans S5.out.size (Nat.le_trans S6.out.size S7.out.size))))))
    clear O15
    have O21 := Lib.hid (O16.out.beside S8.out (fun g hg => .inr (Nat.le_trans (Nat.le_refl _) (O17.out.block_ge g hg).1)) (Nat.le_trans S3.out.size (Nat.le_trans S4.out.size (Nat.le_trans S5.out.size (Nat.le_trans S6.out.size S7.out.size)))))
    clear O16
    have O22 := Lib.hid (O18.out.beside S8.out (fun g hg => .inl (Nat.lt_of_lt_of_le (O17.out.block_ge g hg).2 (Nat.le_refl _))) (Nat.le_trans S5.out.size (Nat.le_trans S6.out.size S7.out.size)))
    clear O18
    go_wp2_with fail
    skip
    refine (eqInt64S_yes w8.heap.size _ _ r0 w8 (O22.out.lstI (Nat.le_trans S5.out.size (Nat.le_trans S6.out.size (Nat.le_trans S7.out.size S8.out.size)))) (O21.out.lstI (Nat.le_trans S3.out.size (Nat.le_trans S4.out.size (Nat.le_trans S5.out.size (Nat.le_trans S6.out.size (Nat.le_trans S7.out.size S8.out.size))))))).mono ?_
    rintro e w9 ⟨m9, rfl, hw9⟩
    have hb9 : Below w8.heap.size w8 w9 := by rw [hw9]; exact below_drawn _ _
    clear hw9
    have S9 := Lib.hid hb9
    clear hb9
    have T9 := Lib.hid (below_on T8.out (Nat.le_refl _) S9.out)
    have O23 := Lib.hid (O20.out.below S9.out (Nat.le_trans S2.out.size (Nat.le_trans S3.out.size (Nat.le_trans S4.out.size (Nat.le_trans S5.out.size (Nat.le_trans S6.out.size (Nat.le_trans S7.out.size S8.out.size)))))))
    clear O20
    have O24 := Lib.hid (O21.out.below S9.out (Nat.le_trans S3.out.size (Nat.le_trans S4.out.size (Nat.le_trans S5.out.size (Nat.le_trans S6.out.size (Nat.le_trans S7.out.size S8.out.size))))))
    clear O21
    have O25 := Lib.hid (P8.out.below S9.out (Nat.le_trans S4.out.size (Nat.le_trans S5.out.size (Nat.le_trans S6.out.size (Nat.le_trans S7.out.size S8.out.size)))))
    clear P8
    have O26 := Lib.hid (O22.out.below S9.out (Nat.le_trans S5.out.size (Nat.le_trans S6.out.size (Nat.le_trans S7.out.size S8.out.size))))
    clear O22
    go_wp2_with fail
    skip
    refine (markInt64S_any _ _ _ _ _ _ w9 O26.out (by omega) (by omega) (by have := Hhb0.out; omega)).mono ?_
    rintro e w10 ⟨rfl, ho10, hb10⟩
    have P10 := Lib.hid ho10
    have S10 := Lib.hid hb10
    clear ho10 hb10
    have T10 := Lib.hid (T9.out.grown S10.out T9.out.size (fun g hg => Nat.le_trans (Nat.le_trans S1.out.size (Nat.le_trans S2.out.size S3.out.size)) (O26.out.block_ge g hg).1))
    have O27 := Lib.hid (O23.out.beside S10.out (fun g hg => .inr (Nat.le_trans (Nat.le_trans S2.out.size S3.out.size) (O26.out.block_ge g hg).1)) (Nat.le_trans S2.out.size (Nat.le_trans S3.out.size (Nat.le_trans S4.out.size (Nat.le_trans S5.out.size (Nat.le_trans S6.out.size (Nat.le_trans S7.out.size (Nat.le_trans S8.out.size S9.out.size))))))))
    clear O23
    have O28 := Lib.hid (O24.out.beside S10.out (fun g hg => .inr (Nat.le_trans S3.out.size (O26.out.block_ge g hg).1)) (Nat.le_trans S3.out.size (Nat.le_trans S4.out.size (Nat.le_trans S5.out.size (Nat.le_trans S6.out.size (Nat.le_trans S7.out.size (Nat.le_trans S8.out.size S9.out.size)))))))
    clear O24
    have O29 := Lib.hid (O25.out.beside S10.out (fun g hg => .inr (Nat.le_trans (Nat.le_refl _) (O26.out.block_ge g hg).1)) (Nat.le_trans S4.out.size (Nat.le_trans S5.out.size (Nat.le_trans S6.out.size (Nat.le_trans S7.out.size (Nat.le_trans S8.out.size S9.out.size))))))
    clear O25
    go_wp2_with fail
    skip
    refine (heldInt64S_any w10.heap.size _ _ _ w10 (P10.out.lst (Nat.le_trans S5.out.size (Nat.le_trans S6.out.size (Nat.le_trans S7.out.size (Nat.le_trans S8.out.size (Nat.le_trans S9.out.size S10.out.size)))))) (by omega) (by omega) (by omega)).mono ?_
    rintro e w11 ⟨m11, rfl, hw11⟩
    have hb11 : Below w10.heap.size w10 w11 := by rw [hw11]; exact below_drawn _ _
    clear hw11
    have S11 := Lib.hid hb11
    clear hb11
    have T11 := Lib.hid (below_on T10.out (Nat.le_refl _) S11.out)
    have O30 := Lib.hid (O27.out.below S11.out (Nat.le_trans S2.out.size (Nat.le_trans S3.out.size (Nat.le_trans S4.out.size (Nat.le_trans S5.out.size (Nat.le_trans S6.out.size (Nat.le_trans S7.out.size (Nat.le_trans S8.out.size (Nat.le_trans S9.out.size S10.out.size)))))))))
    clear O27
    have O31 := Lib.hid (O28.out.below S11.out (Nat.le_trans S3.out.size (Nat.le_trans S4.out.size (Nat.le_trans S5.out.size (Nat.le_trans S6.out.size (Nat.le_trans S7.out.size (Nat.le_trans S8.out.size (Nat.le_trans S9.out.size S10.out.size))))))))
    clear O28
    have O32 := Lib.hid (O29.out.below S11.out (Nat.le_trans S4.out.size (Nat.le_trans S5.out.size (Nat.le_trans S6.out.size (Nat.le_trans S7.out.size (Nat.le_trans S8.out.size (Nat.le_trans S9.out.size S10.out.size)))))))
    clear O29
    have O33 := Lib.hid (P10.out.below S11.out (Nat.le_trans S5.out.size (Nat.le_trans S6.out.size (Nat.le_trans S7.out.size (Nat.le_trans S8.out.size (Nat.le_trans S9.out.size S10.out.size))))))
    clear P10
    go_wp2_with fail
    skip
    refine (copiedI W.heap.size _ x0 w11 (hL0.out.below T11.out (Nat.le_refl _)) T11.out.size hle_0.out).mono ?_
    rintro e w12 ⟨u12, rfl, ho12, hb12⟩
    have P12 := Lib.hid ho12
    clear ho12
    have S12 := Lib.hid hb12
    clear hb12
    have T12 := Lib.hid (below_on T11.out (Nat.le_refl _) S12.out)
    have O34 := Lib.hid (O30.out.below S12.out (Nat.le_trans S2.out.size (Nat.le_trans S3.out.size (Nat.le_trans S4.out.size (Nat.le_trans S5.out.size (Nat.le_trans S6.out.size (Nat.le_trans S7.out.size (Nat.le_trans S8.out.size (Nat.le_trans S9.out.size (Nat.le_trans S10.out.size S11.out.size))))))))))
    clear O30
    have O35 := Lib.hid (O31.out.below S12.out (Nat.le_trans S3.out.size (Nat.le_trans S4.out.size (Nat.le_trans S5.out.size (Nat.le_trans S6.out.size (Nat.le_trans S7.out.size (Nat.le_trans S8.out.size (Nat.le_trans S9.out.size (Nat.le_trans S10.out.size S11.out.size)))))))))
    clear O31
    have O36 := Lib.hid (O32.out.below S12.out (Nat.le_trans S4.out.size (Nat.le_trans S5.out.size (Nat.le_trans S6.out.size (Nat.le_trans S7.out.size (Nat.le_trans S8.out.size (Nat.le_trans S9.out.size (Nat.le_trans S10.out.size S11.out.size))))))))
    clear O32
    have O37 := Lib.hid (O33.out.below S12.out (Nat.le_trans S5.out.size (Nat.le_trans S6.out.size (Nat.le_trans S7.out.size (Nat.le_trans S8.out.size (Nat.le_trans S9.out.size (Nat.le_trans S10.out.size S11.out.size)))))))
    clear O33
    go_wp2_with fail
    skip
    refine (HI.out w12.heap.size _ w12  (P12.out.lstI (Nat.le_refl _)) (Nat.le_refl _)).mono ?_
    rintro e w13 ⟨y13_0, rfl, ho13_0, hb13⟩
    have P13_0 := Lib.hid ho13_0
    clear ho13_0
    have S13 := Lib.hid hb13
    clear hb13
    have T13 := Lib.hid (below_on T12.out (Nat.le_refl _) S13.out)
    have O38 := Lib.hid (O34.out.below S13.out (Nat.le_trans S2.out.size (Nat.le_trans S3.out.size (Nat.le_trans S4.out.size (Nat.le_trans S5.out.size (Nat.le_trans S6.out.size (Nat.le_trans S7.out.size (Nat.le_trans S8.out.size (Nat.le_trans S9.out.size (Nat.le_trans S10.out.size (Nat.le_trans S11.out.size S12.out.size)))))))))))
    clear O34
    have O39 := Lib.hid (O35.out.below S13.out (Nat.le_trans S3.out.size (Nat.le_trans S4.out.size (Nat.le_trans S5.out.size (Nat.le_trans S6.out.size (Nat.le_trans S7.out.size (Nat.le_trans S8.out.size (Nat.le_trans S9.out.size (Nat.le_trans S10.out.size (Nat.le_trans S11.out.size S12.out.size))))))))))
    clear O35
    have O40 := Lib.hid (O36.out.below S13.out (Nat.le_trans S4.out.size (Nat.le_trans S5.out.size (Nat.le_trans S6.out.size (Nat.le_trans S7.out.size (Nat.le_trans S8.out.size (Nat.le_trans S9.out.size (Nat.le_trans S10.out.size (Nat.le_trans S11.out.size S12.out.size)))))))))
    clear O36
    have O41 := Lib.hid (O37.out.below S13.out (Nat.le_trans S5.out.size (Nat.le_trans S6.out.size (Nat.le_trans S7.out.size (Nat.le_trans S8.out.size (Nat.le_trans S9.out.size (Nat.le_trans S10.out.size (Nat.le_trans S11.out.size S12.out.size))))))))
    clear O37
    have O42 := Lib.hid (P12.out.below S13.out (Nat.le_refl _))
    clear P12
    go_wp2_with fail
    skip
    refine (eqInt64S_yes w13.heap.size _ _ r0 w13 (P13_0.out.lstI (Nat.le_refl _)) (O39.out.lstI (Nat.le_trans S3.out.size (Nat.le_trans S4.out.size (Nat.le_trans S5.out.size (Nat.le_trans S6.out.size (Nat.le_trans S7.out.size (Nat.le_trans S8.out.size (Nat.le_trans S9.out.size (Nat.le_trans S10.out.size (Nat.le_trans S11.out.size (Nat.le_trans S12.out.size S13.out.size)))))))))))).mono ?_
    rintro e w14 ⟨m14, rfl, hw14⟩
    have hb14 : Below w13.heap.size w13 w14 := by rw [hw14]; exact below_drawn _ _
    clear hw14
    have S14 := Lib.hid hb14
    clear hb14
    have T14 := Lib.hid (below_on T13.out (Nat.le_refl _) S14.out)
    have O43 := Lib.hid (O38.out.below S14.out (Nat.le_trans S2.out.size (Nat.le_trans S3.out.size (Nat.le_trans S4.out.size (Nat.le_trans S5.out.size (Nat.le_trans S6.out.size (Nat.le_trans S7.out.size (Nat.le_trans S8.out.size (Nat.le_trans S9.out.size (Nat.le_trans S10.out.size (Nat.le_trans S11.out.size (Nat.le_trans S12.out.size S13.out.size))))))))))))
    clear O38
    have O44 := Lib.hid (O39.out.below S14.out (Nat.le_trans S3.out.size (Nat.le_trans S4.out.size (Nat.le_trans S5.out.size (Nat.le_trans S6.out.size (Nat.le_trans S7.out.size (Nat.le_trans S8.out.size (Nat.le_trans S9.out.size (Nat.le_trans S10.out.size (Nat.le_trans S11.out.size (Nat.le_trans S12.out.size S13.out.size)))))))))))
    clear O39
    have O45 := Lib.hid (O40.out.below S14.out (Nat.le_trans S4.out.size (Nat.le_trans S5.out.size (Nat.le_trans S6.out.size (Nat.le_trans S7.out.size (Nat.le_trans S8.out.size (Nat.le_trans S9.out.size (Nat.le_trans S10.out.size (Nat.le_trans S11.out.size (Nat.le_trans S12.out.size S13.out.size))))))))))
    clear O40
    have O46 := Lib.hid (O41.out.below S14.out (Nat.le_trans S5.out.size (Nat.le_trans S6.out.size (Nat.le_trans S7.out.size (Nat.le_trans S8.out.size (Nat.le_trans S9.out.size (Nat.le_trans S10.out.size (Nat.le_trans S11.out.size (Nat.le_trans S12.out.size S13.out.size)))))))))
    clear O41
    have O47 := Lib.hid (O42.out.below S14.out S13.out.size)
    clear O42
    have O48 := Lib.hid (P13_0.out.below S14.out (Nat.le_refl _))
    clear P13_0
    go_wp2_with fail
    skip
    refine (heldInt64S_any w14.heap.size _ _ _ w14 (O46.out.lst (Nat.le_trans S5.out.size (Nat.le_trans S6.out.size (Nat.le_trans S7.out.size (Nat.le_trans S8.out.size (Nat.le_trans S9.out.size (Nat.le_trans S10.out.size (Nat.le_trans S11.out.size (Nat.le_trans S12.out.size (Nat.le_trans S13.out.size S14.out.size)))))))))) (by omega) (by omega) (by omega)).mono ?_
    rintro e w15 ⟨m15, rfl, hw15⟩
    have hb15 : Below w14.heap.size w14 w15 := by rw [hw15]; exact below_drawn _ _
    clear hw15
    have S15 := Lib.hid hb15
    clear hb15
    have T15 := Lib.hid (below_on T14.out (Nat.le_refl _) S15.out)
    have O49 := Lib.hid (O43.out.below S15.out (Nat.le_trans S2.out.size (Nat.le_trans S3.out.size (Nat.le_trans S4.out.size (Nat.le_trans S5.out.size (Nat.le_trans S6.out.size (Nat.le_trans S7.out.size (Nat.le_trans S8.out.size (Nat.le_trans S9.out.size (Nat.le_trans S10.out.size (Nat.le_trans S11.out.size (Nat.le_trans S12.out.size (Nat.le_trans S13.out.size S14.out.size)))))))))))))
    clear O43
    have O50 := Lib.hid (O44.out.below S15.out (Nat.le_trans S3.out.size (Nat.le_trans S4.out.size (Nat.le_trans S5.out.size (Nat.le_trans S6.out.size (Nat.le_trans S7.out.size (Nat.le_trans S8.out.size (Nat.le_trans S9.out.size (Nat.le_trans S10.out.size (Nat.le_trans S11.out.size (Nat.le_trans S12.out.size (Nat.le_trans S13.out.size S14.out.size))))))))))))
    clear O44
    have O51 := Lib.hid (O45.out.below S15.out (Nat.le_trans S4.out.size (Nat.le_trans S5.out.size (Nat.le_trans S6.out.size (Nat.le_trans S7.out.size (Nat.le_trans S8.out.size (Nat.le_trans S9.out.size (Nat.le_trans S10.out.size (Nat.le_trans S11.out.size (Nat.le_trans S12.out.size (Nat.le_trans S13.out.size S14.out.size)))))))))))
    clear O45
    have O52 := Lib.hid (O46.out.below S15.out (Nat.le_trans S5.out.size (Nat.le_trans S6.out.size (Nat.le_trans S7.out.size (Nat.le_trans S8.out.size (Nat.le_trans S9.out.size (Nat.le_trans S10.out.size (Nat.le_trans S11.out.size (Nat.le_trans S12.out.size (Nat.le_trans S13.out.size S14.out.size))))))))))
    clear O46
    have O53 := Lib.hid (O47.out.below S15.out (Nat.le_trans S13.out.size S14.out.size))
    clear O47
    have O54 := Lib.hid (O48.out.below S15.out S14.out.size)
    clear O48
    go_wp2_with fail
    go_ret
    exact ⟨rfl, T15.out⟩

theorem own : ownKnob Try.prog.godebug = none := by kernel_rfl
theorem laid : laidOutB Try.prog = true := by kernel_rfl
theorem cells0 : Try.prog.cellsOf 2 = 1 := by kernel_rfl

set_option maxRecDepth 100000 in
theorem contract (H : Type) (enc : TypeId × Value → H) (W : World) (base : Nat) (args : Array Value) (ds gs : List (DataW H)) (before : List MemPlace)
    (hval : ∀ (j : Nat) t v, Try.f4.params[j]? = some t → args[j]? = some v → Value.okWide Try.prog W .any base t v)
    (hW : DataW.Whole enc Try.prog Try.f4.params.toList Rows.fnExactBestFlowSpec.vars false W args.toList ds gs before) :
    Calls Try.prog 4 args W fun e W' => ∃ v, e = .returned v ∧ Rows.fnExactBestFlowSpec.post enc Try.prog Try.f4 false true false false W args v W' := by
  have hW' := hW
  have hlt : ∀ x ∈ before, x.block < W.heap.size := fun x hx => hW'.lt x hx
  obtain ⟨p, q, hA0, hV, rfl, hfz, hnd⟩ := hW
  have hA : DataW.TrodAll enc Try.prog W 0 (fun _ => true) true Try.f4.params.toList args.toList ds p := hA0
  rw [Try.params4] at hA hval
  obtain ⟨v0, vs0, d0, ds0, p0, q0, hargs, rfl, rfl, h0, r0⟩ := trodAll_cons hA
  obtain ⟨v1, vs1, d1, ds1, p1, q1, rfl, rfl, rfl, h1, r1⟩ := trodAll_cons r0
  obtain ⟨rfl, rfl, rfl⟩ := trodAll_nil r1
  obtain rfl : args = #[v0, v1] := by first | exact Array.ext' (by exact hargs) | (cases args; simp_all)
  obtain ⟨rfl, rfl⟩ := trodVars_none hV
  clear hA0
  have k0 := h0
  have k1 := h1
  obtain ⟨a0, L0, w0⟩ := Go.Lst.open_intsI Try.underlying24 Try.underlying2 cells0 (hval 0 24 v0 rfl rfl) h0
  obtain ⟨a1, rfl, _, _, w1⟩ := open_int Try.underlying2 (hval 1 2 v1 rfl rfl) h1
  simp only [List.append_nil] at hW' hlt
  refine (walk v0 a0 w0 a1 w1 W L0).mono fun e W' ⟨he, hb⟩ => ?_
  subst he
  exact ⟨_, rfl, Go.Lst.post_new (pv := []) hW' (fun _ _ _ => (trodAll_cons_mk (shut_bool Try.underlying4 _) trodAll_mk0)) (fun sp hsp => (trodAll_cons_mk (WideElems.Trod_stays laid (by kernel_rfl) (of_decide_eq_true (by kernel_rfl)) k0 (fun x hx => hb.same (hlt x (by simp [hx]))) (fun x hx => hsp x (by simp [hx]))) (trodAll_cons_mk (WideElems.Trod_stays laid (by kernel_rfl) (of_decide_eq_true (by kernel_rfl)) k1 (fun x hx => hb.same (hlt x (by simp [hx]))) (fun x hx => hsp x (by simp [hx]))) trodAll_mk0))) (fun _ _ => rfl) (by simp)
    hb (ok_one (by kernel_rfl) rfl (okWide_bool_mk Try.underlying4 _))⟩

set_option maxRecDepth 100000 in
theorem lifted (os : Os) (started : os.Started) (H : Type) (enc : TypeId × Value → H) :
    ReturnsInHanded {} Try.checked os 4 .any (Rows.fnExactBestFlowSpec.pre6 enc Try.prog Try.f4 Rows.fnExactBestFlowRow.domain false) (Rows.fnExactBestFlowSpec.post enc Try.prog Try.f4 false true false false) := by
  refine returnsInHanded_of_change (C := Try.checked) own started (by kernel_rfl) Try.func4
    (ChangeSpec.witness6 (enc := enc) (C := Try.checked) false ⟨#[], #[.slice none 0 0, .int .i64 0], []⟩ 8 (by kernel_rfl) (by kernel_rfl) (by kernel_rfl) (by kernel_rfl)) ?_
  intro W base args ds gs before hval hW _ _
  exact contract H enc W base args ds gs before hval hW

set_option maxRecDepth 100000 in
theorem proved : Rows.FnExactBestFlowSaid :=
  OpenClaim.holds_of_wide 4 Try.f4 rfl rfl rfl rfl rfl rfl rfl ⟨rfl, rfl, rfl, rfl, rfl⟩ rfl rfl rfl rfl rfl (by kernel_rfl) Try.func4 (by kernel_rfl)
    (of_decide_eq_true (by kernel_rfl)) (by unfold Func.isWrapper; first | (rw [if_pos (by decide +kernel)]; kernel_rfl) | (rw [if_neg (by decide +kernel)]; exact ⟨rfl, rfl⟩))
    (fun os started H enc _ => lifted os started H enc)
end Go.Proofs.Ytnkbnkiaokkjhaa.exactBestFlow
