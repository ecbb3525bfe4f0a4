/- The colours of a rule of order: at every argument the program answers as the model does, writes into no argument, and its answer is its own. -/
import Derived.Test.YtfidppepchobeaaRows
import Derived.Test.YtfidppepchobeaaColBy
import Derived.ProofKit
import Derived.OpenShut
namespace Go.Proofs.Ytfidppepchobeaa.exactColourBy
open Go.ChangeShapes Go.WideShapes Go.ChangeAt Go.RowKit Go.Lst

set_option maxHeartbeats 4000000 in
set_option maxRecDepth 100000 in
theorem walk (x0 : Int) (hw0 : (Lit.int .i64 x0).wf = true) (v1 : Value) (x1 : List Int) (hw1 : (∀ y ∈ x1, (Lit.int .i64 y).wf = true)) (v2 : Value) (x2 : List Int) (hw2 : (∀ y ∈ x2, (Lit.int .i64 y).wf = true)) (W : World) (h1 : LstI W.heap.size W v1 x1) (h2 : LstI W.heap.size W v2 x2) :
    Calls Try.prog 5 #[.int .i64 x0, v1, v2] W fun e w' => e = .returned (.bool true) ∧ Below W.heap.size W w' := by
  obtain ⟨r0, r1, hb0, hs, hi⟩ := colourBy_both x0 x1 x2 hw0 hw1 hw2
  have HS := Lib.hid hs
  have HI := Lib.hid hi
  have Hhb0 := Lib.hid hb0
  clear hs hi hw0 hw1 hw2 hb0
  obtain ⟨a1, cap1, hv1, hl1, -⟩ := id h1
  subst hv1
  have hL1 := Lib.hid h1
  clear h1
  generalize hn1 : x1.length = n1 at *
  have hN1 := Lib.hid hn1
  clear hn1
  unfold maxLen at hl1
  obtain ⟨a2, cap2, hv2, hl2, -⟩ := id h2
  subst hv2
  have hL2 := Lib.hid h2
  clear h2
  generalize hn2 : x2.length = n2 at *
  have hN2 := Lib.hid hn2
  clear hn2
  unfold maxLen at hl2
  by_cases hbig0 : 1048576 < n1
  · go_enter Try.func5, Try.ntmps5
    go_wp2_with fail
    go_ret
    exact ⟨rfl, Below.refl _ _⟩
  · have hle0 : n1 ≤ 1048576 := by omega
    clear hbig0
    by_cases hbig1 : 1048576 < n2
    · go_enter Try.func5, Try.ntmps5
      go_wp2_with fail
      go_ret
      exact ⟨rfl, Below.refl _ _⟩
    · have hle1 : n2 ≤ 1048576 := by omega
      clear hbig1
      have hle_1 := Lib.hid (show x1.length ≤ 1048576 by have := hN1.out; omega)
      have hle_2 := Lib.hid (show x2.length ≤ 1048576 by have := hN2.out; omega)
      go_enter Try.func5, Try.ntmps5
      have T0 := Lib.hid (Below.refl W.heap.size W)
      go_wp2_with fail
      skip
      refine (copiedI W.heap.size _ x1 W (hL1.out.below T0.out (Nat.le_refl _)) T0.out.size hle_1.out).mono ?_
      rintro e w1 ⟨u1, rfl, ho1, hb1⟩
      have P1 := Lib.hid ho1
      clear ho1
      have S1 := Lib.hid hb1
      clear hb1
      have T1 := Lib.hid (below_on T0.out (Nat.le_refl _) S1.out)
      go_wp2_with fail
      skip
      refine (copiedI W.heap.size _ x2 w1 (hL2.out.below T1.out (Nat.le_refl _)) T1.out.size hle_2.out).mono ?_
      rintro e w2 ⟨u2, rfl, ho2, hb2⟩
      have P2 := Lib.hid ho2
      clear ho2
      have S2 := Lib.hid hb2
      clear hb2
      have T2 := Lib.hid (below_on T1.out (Nat.le_refl _) S2.out)
      have O1 := Lib.hid (P1.out.below S2.out (Nat.le_refl _))
      clear P1
      go_wp2_with fail
      skip
      refine (HS.out w2.heap.size _ _ w2  (O1.out.lstI S2.out.size) (P2.out.lstI (Nat.le_refl _)) (Nat.le_refl _)).mono ?_
      rintro e w3 ⟨y3_0, rfl, ho3_0, hb3⟩
      have P3_0 := Lib.hid ho3_0
      clear ho3_0
      have S3 := Lib.hid hb3
      clear hb3
      have T3 := Lib.hid (below_on T2.out (Nat.le_refl _) S3.out)
      have O2 := Lib.hid (O1.out.below S3.out S2.out.size)
      clear O1
      have O3 := Lib.hid (P2.out.below S3.out (Nat.le_refl _))
      clear P2
      go_wp2_with fail
      skip
      refine (copiedI W.heap.size _ x1 w3 (hL1.out.below T3.out (Nat.le_refl _)) T3.out.size hle_1.out).mono ?_
      rintro e w4 ⟨u4, rfl, ho4, hb4⟩
      have P4 := Lib.hid ho4
      clear ho4
      have S4 := Lib.hid hb4
      clear hb4
      have T4 := Lib.hid (below_on T3.out (Nat.le_refl _) S4.out)
      have O4 := Lib.hid (O2.out.below S4.out (Nat.le_trans S2.out.size S3.out.size))
      clear O2
      have O5 := Lib.hid (O3.out.below S4.out S3.out.size)
      clear O3
      have O6 := Lib.hid (P3_0.out.below S4.out (Nat.le_refl _))
      clear P3_0
      go_wp2_with fail
      skip
      refine (copiedI W.heap.size _ x2 w4 (hL2.out.below T4.out (Nat.le_refl _)) T4.out.size hle_2.out).mono ?_
      rintro e w5 ⟨u5, rfl, ho5, hb5⟩
      have P5 := Lib.hid ho5
      clear ho5
      have S5 := Lib.hid hb5
      clear hb5
      have T5 := Lib.hid (below_on T4.out (Nat.le_refl _) S5.out)
      have O7 := Lib.hid (O4.out.below S5.out (Nat.le_trans S2.out.size (Nat.le_trans S3.out.size S4.out.size)))
      clear O4
      have O8 := Lib.hid (O5.out.below S5.out (Nat.le_trans S3.out.size S4.out.size))
      clear O5
      have O9 := Lib.hid (O6.out.below S5.out S4.out.size)
      clear O6
      have O10 := Lib.hid (P4.out.below S5.out (Nat.le_refl _))
      clear P4
      go_wp2_with fail
      skip
      refine (HI.out w5.heap.size _ _ w5  (O10.out.lstI S5.out.size) (P5.out.lstI (Nat.le_refl _)) (Nat.le_refl _)).mono ?_
      rintro e w6 ⟨y6_0, rfl, ho6_0, hb6⟩
      have P6_0 := Lib.hid ho6_0
      clear ho6_0
      have S6 := Lib.hid hb6
      clear hb6
      have T6 := Lib.hid (below_on T5.out (Nat.le_refl _) S6.out)
      have O11 := Lib.hid (O7.out.below S6.out (Nat.le_trans S2.out.size (Nat.le_trans S3.out.size (Nat.le_trans S4.out.size S5.out.size))))
      clear O7
      have O12 := Lib.hid (O8.out.below S6.out (Nat.le_trans S3.out.size (Nat.le_trans S4.out.size S5.out.size)))
      clear O8
      have O13 := Lib.hid (O9.out.below S6.out (Nat.le_trans S4.out.size S5.out.size))
      clear O9
      have O14 := Lib.hid (O10.out.below S6.out S5.out.size)
      clear O10
      have O15 := Lib.hid (P5.out.below S6.out (Nat.le_refl _))
      clear P5
      go_wp2_with fail
      skip
      refine (eqInt64S_yes w6.heap.size _ _ r0 w6 (P6_0.out.lstI (Nat.le_refl _)) (O13.out.lstI (Nat.le_trans S4.out.size (Nat.le_trans S5.out.size S6.out.size)))).mono ?_
      rintro e w7 ⟨m7, rfl, hw7⟩
      have hb7 : Below w6.heap.size w6 w7 := by rw [hw7]; exact below_drawn _ _
      clear hw7
      have S7 := Lib.hid hb7
      clear hb7
      have T7 := Lib.hid (below_on T6.out (Nat.le_refl _) S7.out)
      have O16 := Lib.hid (O11.out.below S7.out (Nat.le_trans S2.out.size (Nat.le_trans S3.out.size (Nat.le_trans S4.out.size (Nat.le_trans S5.out.size S6.out.size)))))
      clear O11
      have O17 := Lib.hid (O12.out.below S7.out (Nat.le_trans S3.out.size (Nat.le_trans S4.out.size (Nat.le_trans S5.out.size S6.out.size))))
      clear O12
      have O18 := Lib.hid (O13.out.below S7.out (Nat.le_trans S4.out.size (Nat.le_trans S5.out.size S6.out.size)))
      clear O13
      have O19 := Lib.hid (O14.out.below S7.out (Nat.le_trans S5.out.size S6.out.size))
      clear O14
      have O20 := Lib.hid (O15.out.below S7.out S6.out.size)
      clear O15
      have O21 := Lib.hid (P6_0.out.below S7.out (Nat.le_refl _))
      clear P6_0
      go_wp2_with fail
      skip
      refine (copiedI W.heap.size _ x1 w7 (hL1.out.below T7.out (Nat.le_refl _)) T7.out.size hle_1.out).mono ?_
      rintro e w8 ⟨u8, rfl, ho8, hb8⟩
      have P8 := Lib.hid ho8
      clear ho8
      have S8 := Lib.hid hb8
      clear hb8
      have T8 := Lib.hid (below_on T7.out (Nat.le_refl _) S8.out)
      have O22 := Lib.hid (O16.out.below S8.out (Nat.le_trans S2.out.size (Nat.le_trans S3.out.size (Nat.le_trans S4.out.size (Nat.le_trans S5.out.size (Nat.le_trans S6.out.size S7.out.size))))))
      clear O16
      have O23 := Lib.hid (O17.out.below S8.out (Nat.le_trans S3.out.size (Nat.le_trans S4.out.size (Nat.le_trans S5.out.size (Nat.le_trans S6.out.size S7.out.size)))))
      clear O17
      have O24 := Lib.hid (O18.out.below S8.out (Nat.le_trans S4.out.size (Nat.le_trans S5.out.size (Nat.le_trans S6.out.size S7.out.size))))
      clear O18
      have O25 := Lib.hid (O19.out.below S8.out (Nat.le_trans S5.out.size (Nat.le_trans S6.out.size S7.out.size)))
      clear O19
      have O26 := Lib.hid (O20.out.below S8.out (Nat.le_trans S6.out.size S7.out.size))
      clear O20
      have O27 := Lib.hid (O21.out.below S8.out S7.out.size)
      clear O21
      go_wp2_with fail
      skip
      refine (eqInt64S_yes w8.heap.size _ _ x1 w8 (O25.out.lstI (Nat.le_trans S5.out.size (Nat.le_trans S6.out.size (Nat.le_trans S7.out.size S8.out.size)))) (P8.out.lstI (Nat.le_refl _))).mono ?_
      rintro e w9 ⟨m9, rfl, hw9⟩
      have hb9 : Below w8.heap.size w8 w9 := by rw [hw9]; exact below_drawn _ _
      clear hw9
      have S9 := Lib.hid hb9
      clear hb9
      have T9 := Lib.hid (below_on T8.out (Nat.le_refl _) S9.out)
      have O28 := Lib.hid (O22.out.below S9.out (Nat.le_trans S2.out.size (Nat.le_trans S3.out.size (Nat.le_trans S4.out.size (Nat.le_trans S5.out.size (Nat.le_trans S6.out.size (Nat.le_trans S7.out.size S8.out.size)))))))
      clear O22
      have O29 := Lib.hid (O23.out.below S9.out (Nat.le_trans S3.out.size (Nat.le_trans S4.out.size (Nat.le_trans S5.out.size (Nat.le_trans S6.out.size (Nat.le_trans S7.out.size S8.out.size))))))
      clear O23
      have O30 := Lib.hid (O24.out.below S9.out (Nat.le_trans S4.out.size (Nat.le_trans S5.out.size (Nat.le_trans S6.out.size (Nat.le_trans S7.out.size S8.out.size)))))
      clear O24
      have O31 := Lib.hid (O25.out.below S9.out (Nat.le_trans S5.out.size (Nat.le_trans S6.out.size (Nat.le_trans S7.out.size S8.out.size))))
      clear O25
      have O32 := Lib.hid (O26.out.below S9.out (Nat.le_trans S6.out.size (Nat.le_trans S7.out.size S8.out.size)))
      clear O26
      have O33 := Lib.hid (O27.out.below S9.out (Nat.le_trans S7.out.size S8.out.size))
      clear O27
      have O34 := Lib.hid (P8.out.below S9.out (Nat.le_refl _))
      clear P8
      go_wp2_with fail
      skip
      refine (copiedI W.heap.size _ x2 w9 (hL2.out.below T9.out (Nat.le_refl _)) T9.out.size hle_2.out).mono ?_
      rintro e w10 ⟨u10, rfl, ho10, hb10⟩
      have P10 := Lib.hid ho10
      clear ho10
      have S10 := Lib.hid hb10
      clear hb10
      have T10 := Lib.hid (below_on T9.out (Nat.le_refl _) S10.out)
      have O35 := Lib.hid (O28.out.below S10.out (Nat.le_trans S2.out.size (Nat.le_trans S3.out.size (Nat.le_trans S4.out.size (Nat.le_trans S5.out.size (Nat.le_trans S6.out.size (Nat.le_trans S7.out.size (Nat.le_trans S8.out.size S9.out.size))))))))
      clear O28
      have O36 := Lib.hid (O29.out.below S10.out (Nat.le_trans S3.out.size (Nat.le_trans S4.out.size (Nat.le_trans S5.out.size (Nat.le_trans S6.out.size (Nat.le_trans S7.out.size (Nat.le_trans S8.out.size S9.out.size)))))))
      clear O29
      have O37 := Lib.hid (O30.out.below S10.out (Nat.le_trans S4.out.size (Nat.le_trans S5.out.size (Nat.le_trans S6.out.size (Nat.le_trans S7.out.size (Nat.le_trans S8.out.size S9.out.size))))))
      clear O30
      have O38 := Lib.hid (O31.out.below S10.out (Nat.le_trans S5.out.size (Nat.le_trans S6.out.size (Nat.le_trans S7.out.size (Nat.le_trans S8.out.size S9.out.size)))))
      clear O31
      have O39 := Lib.hid (O32.out.below S10.out (Nat.le_trans S6.out.size (Nat.le_trans S7.out.size (Nat.le_trans S8.out.size S9.out.size))))
      clear O32
      have O40 := Lib.hid (O33.out.below S10.out (Nat.le_trans S7.out.size (Nat.le_trans S8.out.size S9.out.size)))
      clear O33
      go_wp2_with fail
      skip
      refine (eqInt64S_yes w10.heap.size _ _ x2 w10 (O39.out.lstI (Nat.le_trans S6.out.size (Nat.le_trans S7.out.size (Nat.le_trans S8.out.size (Nat.le_trans S9.out.size S10.out.size))))) (P10.out.lstI (Nat.le_refl _))).mono ?_
      rintro e w11 ⟨m11, rfl, hw11⟩
      have hb11 : Below w10.heap.size w10 w11 := by rw [hw11]; exact below_drawn _ _
      clear hw11
      have S11 := Lib.hid hb11
      clear hb11
      have T11 := Lib.hid (below_on T10.out (Nat.le_refl _) S11.out)
      have O41 := Lib.hid (O35.out.below S11.out (Nat.le_trans S2.out.size (Nat.le_trans S3.out.size (Nat.le_trans S4.out.size (Nat.le_trans S5.out.size (Nat.le_trans S6.out.size (Nat.le_trans S7.out.size (Nat.le_trans S8.out.size (Nat.le_trans S9.out.size S10.out.size)))))))))
      clear O35
      have O42 := Lib.hid (O36.out.below S11.out (Nat.le_trans S3.out.size (Nat.le_trans S4.out.size (Nat.le_trans S5.out.size (Nat.le_trans S6.out.size (Nat.le_trans S7.out.size (Nat.le_trans S8.out.size (Nat.le_trans S9.out.size S10.out.size))))))))
      clear O36
      have O43 := Lib.hid (O37.out.below S11.out (Nat.le_trans S4.out.size (Nat.le_trans S5.out.size (Nat.le_trans S6.out.size (Nat.le_trans S7.out.size (Nat.le_trans S8.out.size (Nat.le_trans S9.out.size S10.out.size)))))))
      clear O37
      have O44 := Lib.hid (O38.out.below S11.out (Nat.le_trans S5.out.size (Nat.le_trans S6.out.size (Nat.le_trans S7.out.size (Nat.le_trans S8.out.size (Nat.le_trans S9.out.size S10.out.size))))))
      clear O38
      have O45 := Lib.hid (O39.out.below S11.out (Nat.le_trans S6.out.size (Nat.le_trans S7.out.size (Nat.le_trans S8.out.size (Nat.le_trans S9.out.size S10.out.size)))))
      clear O39
      have O46 := Lib.hid (O40.out.below S11.out (Nat.le_trans S7.out.size (Nat.le_trans S8.out.size (Nat.le_trans S9.out.size S10.out.size))))
      clear O40
      have O47 := Lib.hid (P10.out.below S11.out (Nat.le_refl _))
      clear P10
      have hlq1 := hle_1.out
      have hlq2 := hle_2.out
      have hrq0 := Hhb0.out
      go_wp2_with fail
      skip
      refine (markInt64S_any _ _ _ _ _ _ w11 O44.out (by omega) (by omega) (by have := hle_1.out; omega)).mono ?_
      rintro e w12 ⟨rfl, ho12, hb12⟩
      have P12 := Lib.hid ho12
      have S12 := Lib.hid hb12
      clear ho12 hb12
      have T12 := Lib.hid (T11.out.grown S12.out T11.out.size (fun g hg => Nat.le_trans (Nat.le_trans S1.out.size (Nat.le_trans S2.out.size S3.out.size)) (O44.out.block_ge g hg).1))
      have O48 := Lib.hid (O41.out.beside S12.out (fun g hg => .inr (Nat.le_trans (Nat.le_trans S2.out.size S3.out.size) (O44.out.block_ge g hg).1)) (Nat.le_trans S2.out.size (Nat.le_trans S3.out.size (Nat.le_trans S4.out.size (Nat.le_trans S5.out.size (Nat.le_trans S6.out.size (Nat.le_trans S7.out.size (Nat.le_trans S8.out.size (Nat.le_trans S9.out.size (Nat.le_trans S10.out.size S11.out.size))))))))))
      clear O41
      have O49 := Lib.hid (O42.out.beside S12.out (fun g hg => .inr (Nat.le_trans S3.out.size (O44.out.block_ge g hg).1)) (Nat.le_trans S3.out.size (Nat.le_trans S4.out.size (Nat.le_trans S5.out.size (Nat.le_trans S6.out.size (Nat.le_trans S7.out.size (Nat.le_trans S8.out.size (Nat.le_trans S9.out.size (Nat.le_trans S10.out.size S11.out.size)))))))))
      clear O42
      have O50 := Lib.hid (O43.out.beside S12.out (fun g hg => .inr (Nat.le_trans (Nat.le_refl _) (O44.out.block_ge g hg).1)) (Nat.le_trans S4.out.size (Nat.le_trans S5.out.size (Nat.le_trans S6.out.size (Nat.le_trans S7.out.size (Nat.le_trans S8.out.size (Nat.le_trans S9.out.size (Nat.le_trans S10.out.size S11.out.size))))))))
      clear O43
      have O51 := Lib.hid (O45.out.beside S12.out (fun g hg => .inl (Nat.lt_of_lt_of_le (O44.out.block_ge g hg).2 (Nat.le_refl _))) (Nat.le_trans S6.out.size (Nat.le_trans S7.out.size (Nat.le_trans S8.out.size (Nat.le_trans S9.out.size (Nat.le_trans S10.out.size S11.out.size))))))
      clear O45
      have O52 := Lib.hid (O46.out.beside S12.out (fun g hg => .inl (Nat.lt_of_lt_of_le (O44.out.block_ge g hg).2 S5.out.size)) (Nat.le_trans S7.out.size (Nat.le_trans S8.out.size (Nat.le_trans S9.out.size (Nat.le_trans S10.out.size S11.out.size)))))
      clear O46
      go_wp2_with fail
      skip
      refine (markInt64S_any _ _ _ _ _ _ w12 O51.out (by omega) (by omega) (by have := hle_2.out; omega)).mono ?_
      rintro e w13 ⟨rfl, ho13, hb13⟩
      have P13 := Lib.hid ho13
      have S13 := Lib.hid hb13
      clear ho13 hb13
      have T13 := Lib.hid (T12.out.grown S13.out T12.out.size (fun g hg => Nat.le_trans (Nat.le_trans S1.out.size (Nat.le_trans S2.out.size (Nat.le_trans S3.out.size S4.out.size))) (O51.out.block_ge g hg).1))
      have O53 := Lib.hid (O48.out.beside S13.out (fun g hg => .inr (Nat.le_trans (Nat.le_trans S2.out.size (Nat.le_trans S3.out.size S4.out.size)) (O51.out.block_ge g hg).1)) (Nat.le_trans S2.out.size (Nat.le_trans S3.out.size (Nat.le_trans S4.out.size (Nat.le_trans S5.out.size (Nat.le_trans S6.out.size (Nat.le_trans S7.out.size (Nat.le_trans S8.out.size (Nat.le_trans S9.out.size (Nat.le_trans S10.out.size (Nat.le_trans S11.out.size S12.out.size)))))))))))
      clear O48
      have O54 := Lib.hid (O49.out.beside S13.out (fun g hg => .inr (Nat.le_trans (Nat.le_trans S3.out.size S4.out.size) (O51.out.block_ge g hg).1)) (Nat.le_trans S3.out.size (Nat.le_trans S4.out.size (Nat.le_trans S5.out.size (Nat.le_trans S6.out.size (Nat.le_trans S7.out.size (Nat.le_trans S8.out.size (Nat.le_trans S9.out.size (Nat.le_trans S10.out.size (Nat.le_trans S11.out.size S12.out.size))))))))))
      clear O49
      have O55 := Lib.hid (O50.out.beside S13.out (fun g hg => .inr (Nat.le_trans S4.out.size (O51.out.block_ge g hg).1)) (Nat.le_trans S4.out.size (Nat.le_trans S5.out.size (Nat.le_trans S6.out.size (Nat.le_trans S7.out.size (Nat.le_trans S8.out.size (Nat.le_trans S9.out.size (Nat.le_trans S10.out.size (Nat.le_trans S11.out.size S12.out.size)))))))))
      clear O50
      have O56 := Lib.hid (P12.out.beside S13.out (fun g hg => .inr (Nat.le_trans (Nat.le_refl _) (O51.out.block_ge g hg).1)) (Nat.le_trans S5.out.size (Nat.le_trans S6.out.size (Nat.le_trans S7.out.size (Nat.le_trans S8.out.size (Nat.le_trans S9.out.size (Nat.le_trans S10.out.size (Nat.le_trans S11.out.size S12.out.size))))))))
      clear P12
      have O57 := Lib.hid (O52.out.beside S13.out (fun g hg => .inl (Nat.lt_of_lt_of_le (O51.out.block_ge g hg).2 (Nat.le_refl _))) (Nat.le_trans S7.out.size (Nat.le_trans S8.out.size (Nat.le_trans S9.out.size (Nat.le_trans S10.out.size (Nat.le_trans S11.out.size S12.out.size))))))
      clear O52
      go_wp2_with fail
      skip
      refine (eqInt64S_yes w13.heap.size _ _ r0 w13 (O57.out.lstI (Nat.le_trans S7.out.size (Nat.le_trans S8.out.size (Nat.le_trans S9.out.size (Nat.le_trans S10.out.size (Nat.le_trans S11.out.size (Nat.le_trans S12.out.size S13.out.size))))))) (O55.out.lstI (Nat.le_trans S4.out.size (Nat.le_trans S5.out.size (Nat.le_trans S6.out.size (Nat.le_trans S7.out.size (Nat.le_trans S8.out.size (Nat.le_trans S9.out.size (Nat.le_trans S10.out.size (Nat.le_trans S11.out.size (Nat.le_trans S12.out.size S13.out.size))))))))))).mono ?_
      rintro e w14 ⟨m14, rfl, hw14⟩
      have hb14 : Below w13.heap.size w13 w14 := by rw [hw14]; exact below_drawn _ _
      clear hw14
      have S14 := Lib.hid hb14
      clear hb14
      have T14 := Lib.hid (below_on T13.out (Nat.le_refl _) S14.out)
      have O58 := Lib.hid (O53.out.below S14.out (Nat.le_trans S2.out.size (Nat.le_trans S3.out.size (Nat.le_trans S4.out.size (Nat.le_trans S5.out.size (Nat.le_trans S6.out.size (Nat.le_trans S7.out.size (Nat.le_trans S8.out.size (Nat.le_trans S9.out.size (Nat.le_trans S10.out.size (Nat.le_trans S11.out.size (Nat.le_trans S12.out.size S13.out.size))))))))))))
      clear O53
      have O59 := Lib.hid (O54.out.below S14.out (Nat.le_trans S3.out.size (Nat.le_trans S4.out.size (Nat.le_trans S5.out.size (Nat.le_trans S6.out.size (Nat.le_trans S7.out.size (Nat.le_trans S8.out.size (Nat.le_trans S9.out.size (Nat.le_trans S10.out.size (Nat.le_trans S11.out.size (Nat.le_trans S12.out.size S13.out.size)))))))))))
      clear O54
      have O60 := Lib.hid (O55.out.below S14.out (Nat.le_trans S4.out.size (Nat.le_trans S5.out.size (Nat.le_trans S6.out.size (Nat.le_trans S7.out.size (Nat.le_trans S8.out.size (Nat.le_trans S9.out.size (Nat.le_trans S10.out.size (Nat.le_trans S11.out.size (Nat.le_trans S12.out.size S13.out.size))))))))))
      clear O55
      have O61 := Lib.hid (O56.out.below S14.out (Nat.le_trans S5.out.size (Nat.le_trans S6.out.size (Nat.le_trans S7.out.size (Nat.le_trans S8.out.size (Nat.le_trans S9.out.size (Nat.le_trans S10.out.size (Nat.le_trans S11.out.size (Nat.le_trans S12.out.size S13.out.size)))))))))
      clear O56
      have O62 := Lib.hid (P13.out.below S14.out (Nat.le_trans S6.out.size (Nat.le_trans S7.out.size (Nat.le_trans S8.out.size (Nat.le_trans S9.out.size (Nat.le_trans S10.out.size (Nat.le_trans S11.out.size (Nat.le_trans S12.out.size S13.out.size))))))))
      clear P13
      have O63 := Lib.hid (O57.out.below S14.out (Nat.le_trans S7.out.size (Nat.le_trans S8.out.size (Nat.le_trans S9.out.size (Nat.le_trans S10.out.size (Nat.le_trans S11.out.size (Nat.le_trans S12.out.size S13.out.size)))))))
      clear O57
      go_wp2_with fail
      skip
      refine (markInt64S_any _ _ _ _ _ _ w14 O63.out (by omega) (by omega) (by have := Hhb0.out; omega)).mono ?_
      rintro e w15 ⟨rfl, ho15, hb15⟩
      have P15 := Lib.hid ho15
      have S15 := Lib.hid hb15
      clear ho15 hb15
      have T15 := Lib.hid (T14.out.grown S15.out T14.out.size (fun g hg => Nat.le_trans (Nat.le_trans S1.out.size (Nat.le_trans S2.out.size (Nat.le_trans S3.out.size (Nat.le_trans S4.out.size S5.out.size)))) (O63.out.block_ge g hg).1))
      have O64 := Lib.hid (O58.out.beside S15.out (fun g hg => .inr (Nat.le_trans (Nat.le_trans S2.out.size (Nat.le_trans S3.out.size (Nat.le_trans S4.out.size S5.out.size))) (O63.out.block_ge g hg).1)) (Nat.le_trans S2.out.size (Nat.le_trans S3.out.size (Nat.le_trans S4.out.size (Nat.le_trans S5.out.size (Nat.le_trans S6.out.size (Nat.le_trans S7.out.size (Nat.le_trans S8.out.size (Nat.le_trans S9.out.size (Nat.le_trans S10.out.size (Nat.le_trans S11.out.size (Nat.le_trans S12.out.size (Nat.le_trans S13.out.size S14.out.size)))))))))))))
      clear O58
      have O65 := Lib.hid (O59.out.beside S15.out (fun g hg => .inr (Nat.le_trans (Nat.le_trans S3.out.size (Nat.le_trans S4.out.size S5.out.size)) (O63.out.block_ge g hg).1)) (Nat.le_trans S3.out.size (Nat.le_trans S4.out.size (Nat.le_trans S5.out.size (Nat.le_trans S6.out.size (Nat.le_trans S7.out.size (Nat.le_trans S8.out.size (Nat.le_trans S9.out.size (Nat.le_trans S10.out.size (Nat.le_trans S11.out.size (Nat.le_trans S12.out.size (Nat.le_trans S13.out.size S14.out.size))))))))))))
      clear O59
      have O66 := Lib.hid (O60.out.beside S15.out (fun g hg => .inr (Nat.le_trans (Nat.le_trans S4.out.size S5.out.size) (O63.out.block_ge g hg).1)) (Nat.le_trans S4.out.size (Nat.le_trans S5.out.size (Nat.le_trans S6.out.size (Nat.le_trans S7.out.size (Nat.le_trans S8.out.size (Nat.le_trans S9.out.size (Nat.le_trans S10.out.size (Nat.le_trans S11.out.size (Nat.le_trans S12.out.size (Nat.le_trans S13.out.size S14.out.size)))))))))))
      clear O60
      have O67 := Lib.hid (O61.out.beside S15.out (fun g hg => .inr (Nat.le_trans S5.out.size (O63.out.block_ge g hg).1)) (Nat.le_trans S5.out.size (Nat.le_trans S6.out.size (Nat.le_trans S7.out.size (Nat.le_trans S8.out.size (Nat.le_trans S9.out.size (Nat.le_trans S10.out.size (Nat.le_trans S11.out.size (Nat.le_trans S12.out.size (Nat.le_trans S13.out.size S14.out.size))))))))))
      clear O61
      have O68 := Lib.hid (O62.out.beside S15.out (fun g hg => .inr (Nat.le_trans (Nat.le_refl _) (O63.out.block_ge g hg).1)) (Nat.le_trans S6.out.size (Nat.le_trans S7.out.size (Nat.le_trans S8.out.size (Nat.le_trans S9.out.size (Nat.le_trans S10.out.size (Nat.le_trans S11.out.size (Nat.le_trans S12.out.size (Nat.le_trans S13.out.size S14.out.size)))))))))
      clear O62
      go_wp2_with fail
      skip
      refine (heldInt64S_any w15.heap.size _ _ _ w15 (P15.out.lst (Nat.le_trans S7.out.size (Nat.le_trans S8.out.size (Nat.le_trans S9.out.size (Nat.le_trans S10.out.size (Nat.le_trans S11.out.size (Nat.le_trans S12.out.size (Nat.le_trans S13.out.size (Nat.le_trans S14.out.size S15.out.size))))))))) (by omega) (by omega) (by omega)).mono ?_
      rintro e w16 ⟨m16, rfl, hw16⟩
      have hb16 : Below w15.heap.size w15 w16 := by rw [hw16]; exact below_drawn _ _
      clear hw16
      have S16 := Lib.hid hb16
      clear hb16
      have T16 := Lib.hid (below_on T15.out (Nat.le_refl _) S16.out)
      have O69 := Lib.hid (O64.out.below S16.out (Nat.le_trans S2.out.size (Nat.le_trans S3.out.size (Nat.le_trans S4.out.size (Nat.le_trans S5.out.size (Nat.le_trans S6.out.size (Nat.le_trans S7.out.size (Nat.le_trans S8.out.size (Nat.le_trans S9.out.size (Nat.le_trans S10.out.size (Nat.le_trans S11.out.size (Nat.le_trans S12.out.size (Nat.le_trans S13.out.size (Nat.le_trans S14.out.size S15.out.size))))))))))))))
      clear O64
      have O70 := Lib.hid (O65.out.below S16.out (Nat.le_trans S3.out.size (Nat.le_trans S4.out.size (Nat.le_trans S5.out.size (Nat.le_trans S6.out.size (Nat.le_trans S7.out.size (Nat.le_trans S8.out.size (Nat.le_trans S9.out.size (Nat.le_trans S10.out.size (Nat.le_trans S11.out.size (Nat.le_trans S12.out.size (Nat.le_trans S13.out.size (Nat.le_trans S14.out.size S15.out.size)))))))))))))
      clear O65
      have O71 := Lib.hid (O66.out.below S16.out (Nat.le_trans S4.out.size (Nat.le_trans S5.out.size (Nat.le_trans S6.out.size (Nat.le_trans S7.out.size (Nat.le_trans S8.out.size (Nat.le_trans S9.out.size (Nat.le_trans S10.out.size (Nat.le_trans S11.out.size (Nat.le_trans S12.out.size (Nat.le_trans S13.out.size (Nat.le_trans S14.out.size S15.out.size))))))))))))
      clear O66
      have O72 := Lib.hid (O67.out.below S16.out (Nat.le_trans S5.out.size (Nat.le_trans S6.out.size (Nat.le_trans S7.out.size (Nat.le_trans S8.out.size (Nat.le_trans S9.out.size (Nat.le_trans S10.out.size (Nat.le_trans S11.out.size (Nat.le_trans S12.out.size (Nat.le_trans S13.out.size (Nat.le_trans S14.out.size S15.out.size)))))))))))
      clear O67
      have O73 := Lib.hid (O68.out.below S16.out (Nat.le_trans S6.out.size (Nat.le_trans S7.out.size (Nat.le_trans S8.out.size (Nat.le_trans S9.out.size (Nat.le_trans S10.out.size (Nat.le_trans S11.out.size (Nat.le_trans S12.out.size (Nat.le_trans S13.out.size (Nat.le_trans S14.out.size S15.out.size))))))))))
      clear O68
      have O74 := Lib.hid (P15.out.below S16.out (Nat.le_trans S7.out.size (Nat.le_trans S8.out.size (Nat.le_trans S9.out.size (Nat.le_trans S10.out.size (Nat.le_trans S11.out.size (Nat.le_trans S12.out.size (Nat.le_trans S13.out.size (Nat.le_trans S14.out.size S15.out.size)))))))))
      clear P15
      go_wp2_with fail
      skip
      refine (copiedI W.heap.size _ x1 w16 (hL1.out.below T16.out (Nat.le_refl _)) T16.out.size hle_1.out).mono ?_
      rintro e w17 ⟨u17, rfl, ho17, hb17⟩
      have P17 := Lib.hid ho17
      clear ho17
      have S17 := Lib.hid hb17
      clear hb17
      have T17 := Lib.hid (below_on T16.out (Nat.le_refl _) S17.out)
      have O75 := Lib.hid (O69.out.below S17.out (Nat.le_trans S2.out.size (Nat.le_trans S3.out.size (Nat.le_trans S4.out.size (Nat.le_trans S5.out.size (Nat.le_trans S6.out.size (Nat.le_trans S7.out.size (Nat.le_trans S8.out.size (Nat.le_trans S9.out.size (Nat.le_trans S10.out.size (Nat.le_trans S11.out.size (Nat.le_trans S12.out.size (Nat.le_trans S13.out.size (Nat.le_trans S14.out.size (Nat.le_trans S15.out.size S16.out.size)))))))))))))))
      clear O69
      have O76 := Lib.hid (O70.out.below S17.out (Nat.le_trans S3.out.size (Nat.le_trans S4.out.size (Nat.le_trans S5.out.size (Nat.le_trans S6.out.size (Nat.le_trans S7.out.size (Nat.le_trans S8.out.size (Nat.le_trans S9.out.size (Nat.le_trans S10.out.size (Nat.le_trans S11.out.size (Nat.le_trans S12.out.size (Nat.le_trans S13.out.size (Nat.le_trans S14.out.size (Nat.le_trans S15.out.size S16.out.size))))))))))))))
      clear O70
      have O77 := Lib.hid (O71.out.below S17.out (Nat.le_trans S4.out.size (Nat.le_trans S5.out.size (Nat.le_trans S6.out.size (Nat.le_trans S7.out.size (Nat.le_trans S8.out.size (Nat.le_trans S9.out.size (Nat.le_trans S10.out.size (Nat.le_trans S11.out.size (Nat.le_trans S12.out.size (Nat.le_trans S13.out.size (Nat.le_trans S14.out.size (Nat.le_trans S15.out.size S16.out.size)))))))))))))
      clear O71
      have O78 := Lib.hid (O72.out.below S17.out (Nat.le_trans S5.out.size (Nat.le_trans S6.out.size (Nat.le_trans S7.out.size (Nat.le_trans S8.out.size (Nat.le_trans S9.out.size (Nat.le_trans S10.out.size (Nat.le_trans S11.out.size (Nat.le_trans S12.out.size (Nat.le_trans S13.out.size (Nat.le_trans S14.out.size (Nat.le_trans S15.out.size S16.out.size))))))))))))
      clear O72
      have O79 := Lib.hid (O73.out.below S17.out (Nat.le_trans S6.out.size (Nat.le_trans S7.out.size (Nat.le_trans S8.out.size (Nat.le_trans S9.out.size (Nat.le_trans S10.out.size (Nat.le_trans S11.out.size (Nat.le_trans S12.out.size (Nat.le_trans S13.out.size (Nat.le_trans S14.out.size (Nat.le_trans S15.out.size S16.out.size)))))))))))
      clear O73
      have O80 := Lib.hid (O74.out.below S17.out (Nat.le_trans S7.out.size (Nat.le_trans S8.out.size (Nat.le_trans S9.out.size (Nat.le_trans S10.out.size (Nat.le_trans S11.out.size (Nat.le_trans S12.out.size (Nat.le_trans S13.out.size (Nat.le_trans S14.out.size (Nat.le_trans S15.out.size S16.out.size))))))))))
      clear O74
      go_wp2_with fail
      skip
      refine (copiedI W.heap.size _ x2 w17 (hL2.out.below T17.out (Nat.le_refl _)) T17.out.size hle_2.out).mono ?_
      rintro e w18 ⟨u18, rfl, ho18, hb18⟩
      have P18 := Lib.hid ho18
      clear ho18
      have S18 := Lib.hid hb18
      clear hb18
      have T18 := Lib.hid (below_on T17.out (Nat.le_refl _) S18.out)
      have O81 := Lib.hid (O75.out.below S18.out (Nat.le_trans S2.out.size (Nat.le_trans S3.out.size (Nat.le_trans S4.out.size (Nat.le_trans S5.out.size (Nat.le_trans S6.out.size (Nat.le_trans S7.out.size (Nat.le_trans S8.out.size (Nat.le_trans S9.out.size (Nat.le_trans S10.out.size (Nat.le_trans S11.out.size (Nat.le_trans S12.out.size (Nat.le_trans S13.out.size (Nat.le_trans S14.out.size (Nat.le_trans S15.out.size (Nat.le_trans S16.out.size S17.out.size))))))))))))))))
      clear O75
      have O82 := Lib.hid (O76.out.below S18.out (Nat.le_trans S3.out.size (Nat.le_trans S4.out.size (Nat.le_trans S5.out.size (Nat.le_trans S6.out.size (Nat.le_trans S7.out.size (Nat.le_trans S8.out.size (Nat.le_trans S9.out.size (Nat.le_trans S10.out.size (Nat.le_trans S11.out.size (Nat.le_trans S12.out.size (Nat.le_trans S13.out.size (Nat.le_trans S14.out.size (Nat.le_trans S15.out.size (Nat.le_trans S16.out.size S17.out.size)))))))))))))))
      clear O76
      have O83 := Lib.hid (O77.out.below S18.out (Nat.le_trans S4.out.size (Nat.le_trans S5.out.size (Nat.le_trans S6.out.size (Nat.le_trans S7.out.size (Nat.le_trans S8.out.size (Nat.le_trans S9.out.size (Nat.le_trans S10.out.size (Nat.le_trans S11.out.size (Nat.le_trans S12.out.size (Nat.le_trans S13.out.size (Nat.le_trans S14.out.size (Nat.le_trans S15.out.size (Nat.le_trans S16.out.size S17.out.size))))))))))))))
      clear O77
      have O84 := Lib.hid (O78.out.below S18.out (Nat.le_trans S5.out.size (Nat.le_trans S6.out.size (Nat.le_trans S7.out.size (Nat.le_trans S8.out.size (Nat.le_trans S9.out.size (Nat.le_trans S10.out.size (Nat.le_trans S11.out.size (Nat.le_trans S12.out.size (Nat.le_trans S13.out.size (Nat.le_trans S14.out.size (Nat.le_trans S15.out.size (Nat.le_trans S16.out.size S17.out.size)))))))))))))
      clear O78
      have O85 := Lib.hid (O79.out.below S18.out (Nat.le_trans S6.out.size (Nat.le_trans S7.out.size (Nat.le_trans S8.out.size (Nat.le_trans S9.out.size (Nat.le_trans S10.out.size (Nat.le_trans S11.out.size (Nat.le_trans S12.out.size (Nat.le_trans S13.out.size (Nat.le_trans S14.out.size (Nat.le_trans S15.out.size (Nat.le_trans S16.out.size S17.out.size))))))))))))
      clear O79
      have O86 := Lib.hid (O80.out.below S18.out (Nat.le_trans S7.out.size (Nat.le_trans S8.out.size (Nat.le_trans S9.out.size (Nat.le_trans S10.out.size (Nat.le_trans S11.out.size (Nat.le_trans S12.out.size (Nat.le_trans S13.out.size (Nat.le_trans S14.out.size (Nat.le_trans S15.out.size (Nat.le_trans S16.out.size S17.out.size)))))))))))
      clear O80
      have O87 := Lib.hid (P17.out.below S18.out (Nat.le_refl _))
      clear P17
      go_wp2_with fail
      skip
      refine (HI.out w18.heap.size _ _ w18  (O87.out.lstI S18.out.size) (P18.out.lstI (Nat.le_refl _)) (Nat.le_refl _)).mono ?_
      rintro e w19 ⟨y19_0, rfl, ho19_0, hb19⟩
      have P19_0 := Lib.hid ho19_0
      clear ho19_0
      have S19 := Lib.hid hb19
      clear hb19
      have T19 := Lib.hid (below_on T18.out (Nat.le_refl _) S19.out)
      have O88 := Lib.hid (O81.out.below S19.out (Nat.le_trans S2.out.size (Nat.le_trans S3.out.size (Nat.le_trans S4.out.size (Nat.le_trans S5.out.size (Nat.le_trans S6.out.size (Nat.le_trans S7.out.size (Nat.le_trans S8.out.size (Nat.le_trans S9.out.size (Nat.le_trans S10.out.size (Nat.le_trans S11.out.size (Nat.le_trans S12.out.size (Nat.le_trans S13.out.size (Nat.le_trans S14.out.size (Nat.le_trans S15.out.size (Nat.le_trans S16.out.size (Nat.le_trans S17.out.size S18.out.size)))))))))))))))))
      clear O81
      have O89 := Lib.hid (O82.out.below S19.out (Nat.le_trans S3.out.size (Nat.le_trans S4.out.size (Nat.le_trans S5.out.size (Nat.le_trans S6.out.size (Nat.le_trans S7.out.size (Nat.le_trans S8.out.size (Nat.le_trans S9.out.size (Nat.le_trans S10.out.size (Nat.le_trans S11.out.size (Nat.le_trans S12.out.size (Nat.le_trans S13.out.size (Nat.le_trans S14.out.size (Nat.le_trans S15.out.size (Nat.le_trans S16.out.size (Nat.le_trans S17.out.size S18.out.size))))))))))))))))
      clear O82
      have O90 := Lib.hid (O83.out.below S19.out (Nat.le_trans S4.out.size (Nat.le_trans S5.out.size (Nat.le_trans S6.out.size (Nat.le_trans S7.out.size (Nat.le_trans S8.out.size (Nat.le_trans S9.out.size (Nat.le_trans S10.out.size (Nat.le_trans S11.out.size (Nat.le_trans S12.out.size (Nat.le_trans S13.out.size (Nat.le_trans S14.out.size (Nat.le_trans S15.out.size (Nat.le_trans S16.out.size (Nat.le_trans S17.out.size S18.out.size)))))))))))))))
      clear O83
      have O91 := Lib.hid (O84.out.below S19.out (Nat.le_trans S5.out.size (Nat.le_trans S6.out.size (Nat.le_trans S7.out.size (Nat.le_trans S8.out.size (Nat.le_trans S9.out.size (Nat.le_trans S10.out.size (Nat.le_trans S11.out.size (Nat.le_trans S12.out.size (Nat.le_trans S13.out.size (Nat.le_trans S14.out.size (Nat.le_trans S15.out.size (Nat.le_trans S16.out.size (Nat.le_trans S17.out.size S18.out.size))))))))))))))
      clear O84
      have O92 := Lib.hid (O85.out.below S19.out (Nat.le_trans S6.out.size (Nat.le_trans S7.out.size (Nat.le_trans S8.out.size (Nat.le_trans S9.out.size (Nat.le_trans S10.out.size (Nat.le_trans S11.out.size (Nat.le_trans S12.out.size (Nat.le_trans S13.out.size (Nat.le_trans S14.out.size (Nat.le_trans S15.out.size (Nat.le_trans S16.out.size (Nat.le_trans S17.out.size S18.out.size)))))))))))))
      clear O85
      have O93 := Lib.hid (O86.out.below S19.out (Nat.le_trans S7.out.size (Nat.le_trans S8.out.size (Nat.le_trans S9.out.size (Nat.le_trans S10.out.size (Nat.le_trans S11.out.size (Nat.le_trans S12.out.size (Nat.le_trans S13.out.size (Nat.le_trans S14.out.size (Nat.le_trans S15.out.size (Nat.le_trans S16.out.size (Nat.le_trans S17.out.size S18.out.size))))))))))))
      clear O86
      have O94 := Lib.hid (O87.out.below S19.out S18.out.size)
      clear O87
      have O95 := Lib.hid (P18.out.below S19.out (Nat.le_refl _))
      clear P18
      go_wp2_with fail
      skip
      refine (eqInt64S_yes w19.heap.size _ _ r0 w19 (P19_0.out.lstI (Nat.le_refl _)) (O90.out.lstI (Nat.le_trans S4.out.size (Nat.le_trans S5.out.size (Nat.le_trans S6.out.size (Nat.le_trans S7.out.size (Nat.le_trans S8.out.size (Nat.le_trans S9.out.size (Nat.le_trans S10.out.size (Nat.le_trans S11.out.size (Nat.le_trans S12.out.size (Nat.le_trans S13.out.size (Nat.le_trans S14.out.size (Nat.le_trans S15.out.size (Nat.le_trans S16.out.size (Nat.le_trans S17.out.size (Nat.le_trans S18.out.size S19.out.size))))))))))))))))).mono ?_
      rintro e w20 ⟨m20, rfl, hw20⟩
      have hb20 : Below w19.heap.size w19 w20 := by rw [hw20]; exact below_drawn _ _
      clear hw20
      have S20 := Lib.hid hb20
      clear hb20
      have T20 := Lib.hid (below_on T19.out (Nat.le_refl _) S20.out)
      have O96 := Lib.hid (O88.out.below S20.out (Nat.le_trans S2.out.size (Nat.le_trans S3.out.size (Nat.le_trans S4.out.size (Nat.le_trans S5.out.size (Nat.le_trans S6.out.size (Nat.le_trans S7.out.size (Nat.le_trans S8.out.size (Nat.le_trans S9.out.size (Nat.le_trans S10.out.size (Nat.le_trans S11.out.size (Nat.le_trans S12.out.size (Nat.le_trans S13.out.size (Nat.le_trans S14.out.size (Nat.le_trans S15.out.size (Nat.le_trans S16.out.size (Nat.le_trans S17.out.size (Nat.le_trans S18.out.size S19.out.size))))))))))))))))))
      clear O88
      have O97 := Lib.hid (O89.out.below S20.out (Nat.le_trans S3.out.size (Nat.le_trans S4.out.size (Nat.le_trans S5.out.size (Nat.le_trans S6.out.size (Nat.le_trans S7.out.size (Nat.le_trans S8.out.size (Nat.le_trans S9.out.size (Nat.le_trans S10.out.size (Nat.le_trans S11.out.size (Nat.le_trans S12.out.size (Nat.le_trans S13.out.size (Nat.le_trans S14.out.size (Nat.le_trans S15.out.size (Nat.le_trans S16.out.size (Nat.le_trans S17.out.size (Nat.le_trans S18.out.size S19.out.size)))))))))))))))))
      clear O89
      have O98 := Lib.hid (O90.out.below S20.out (Nat.le_trans S4.out.size (Nat.le_trans S5.out.size (Nat.le_trans S6.out.size (Nat.le_trans S7.out.size (Nat.le_trans S8.out.size (Nat.le_trans S9.out.size (Nat.le_trans S10.out.size (Nat.le_trans S11.out.size (Nat.le_trans S12.out.size (Nat.le_trans S13.out.size (Nat.le_trans S14.out.size (Nat.le_trans S15.out.size (Nat.le_trans S16.out.size (Nat.le_trans S17.out.size (Nat.le_trans S18.out.size S19.out.size))))))))))))))))
      clear O90
      have O99 := Lib.hid (O91.out.below S20.out (Nat.le_trans S5.out.size (Nat.le_trans S6.out.size (Nat.le_trans S7.out.size (Nat.le_trans S8.out.size (Nat.le_trans S9.out.size (Nat.le_trans S10.out.size (Nat.le_trans S11.out.size (Nat.le_trans S12.out.size (Nat.le_trans S13.out.size (Nat.le_trans S14.out.size (Nat.le_trans S15.out.size (Nat.le_trans S16.out.size (Nat.le_trans S17.out.size (Nat.le_trans S18.out.size S19.out.size)))))))))))))))
      clear O91
      have O100 := Lib.hid (O92.out.below S20.out (Nat.le_trans S6.out.size (Nat.le_trans S7.out.size (Nat.le_trans S8.out.size (Nat.le_trans S9.out.size (Nat.le_trans S10.out.size (Nat.le_trans S11.out.size (Nat.le_trans S12.out.size (Nat.le_trans S13.out.size (Nat.le_trans S14.out.size (Nat.le_trans S15.out.size (Nat.le_trans S16.out.size (Nat.le_trans S17.out.size (Nat.le_trans S18.out.size S19.out.size))))))))))))))
      clear O92
      have O101 := Lib.hid (O93.out.below S20.out (Nat.le_trans S7.out.size (Nat.le_trans S8.out.size (Nat.le_trans S9.out.size (Nat.le_trans S10.out.size (Nat.le_trans S11.out.size (Nat.le_trans S12.out.size (Nat.le_trans S13.out.size (Nat.le_trans S14.out.size (Nat.le_trans S15.out.size (Nat.le_trans S16.out.size (Nat.le_trans S17.out.size (Nat.le_trans S18.out.size S19.out.size)))))))))))))
      clear O93
      have O102 := Lib.hid (O94.out.below S20.out (Nat.le_trans S18.out.size S19.out.size))
      clear O94
      have O103 := Lib.hid (O95.out.below S20.out S19.out.size)
      clear O95
      have O104 := Lib.hid (P19_0.out.below S20.out (Nat.le_refl _))
      clear P19_0
      go_wp2_with fail
      skip
      refine (heldInt64S_any w20.heap.size _ _ _ w20 (O101.out.lst (Nat.le_trans S7.out.size (Nat.le_trans S8.out.size (Nat.le_trans S9.out.size (Nat.le_trans S10.out.size (Nat.le_trans S11.out.size (Nat.le_trans S12.out.size (Nat.le_trans S13.out.size (Nat.le_trans S14.out.size (Nat.le_trans S15.out.size (Nat.le_trans S16.out.size (Nat.le_trans S17.out.size (Nat.le_trans S18.out.size (Nat.le_trans S19.out.size S20.out.size)))))))))))))) (by omega) (by omega) (by omega)).mono ?_
      rintro e w21 ⟨m21, rfl, hw21⟩
      have hb21 : Below w20.heap.size w20 w21 := by rw [hw21]; exact below_drawn _ _
      clear hw21
      have S21 := Lib.hid hb21
      clear hb21
      have T21 := Lib.hid (below_on T20.out (Nat.le_refl _) S21.out)
      have O105 := Lib.hid (O96.out.below S21.out (Nat.le_trans S2.out.size (Nat.le_trans S3.out.size (Nat.le_trans S4.out.size (Nat.le_trans S5.out.size (Nat.le_trans S6.out.size (Nat.le_trans S7.out.size (Nat.le_trans S8.out.size (Nat.le_trans S9.out.size (Nat.le_trans S10.out.size (Nat.le_trans S11.out.size (Nat.le_trans S12.out.size (Nat.le_trans S13.out.size (Nat.le_trans S14.out.size (Nat.le_trans S15.out.size (Nat.le_trans S16.out.size (Nat.le_trans S17.out.size (Nat.le_trans S18.out.size (Nat.le_trans S19.out.size S20.out.size)))))))))))))))))))
      clear O96
      have O106 := Lib.hid (O97.out.below S21.out (Nat.le_trans S3.out.size (Nat.le_trans S4.out.size (Nat.le_trans S5.out.size (Nat.le_trans S6.out.size (Nat.le_trans S7.out.size (Nat.le_trans S8.out.size (Nat.le_trans S9.out.size (Nat.le_trans S10.out.size (Nat.le_trans S11.out.size (Nat.le_trans S12.out.size (Nat.le_trans S13.out.size (Nat.le_trans S14.out.size (Nat.le_trans S15.out.size (Nat.le_trans S16.out.size (Nat.le_trans S17.out.size (Nat.le_trans S18.out.size (Nat.le_trans S19.out.size S20.out.size))))))))))))))))))
      clear O97
      have O107 := Lib.hid (O98.out.below S21.out (Nat.le_trans S4.out.size (Nat.le_trans S5.out.size (Nat.le_trans S6.out.size (Nat.le_trans S7.out.size (Nat.le_trans S8.out.size (Nat.le_trans S9.out.size (Nat.le_trans S10.out.size (Nat.le_trans S11.out.size (Nat.le_trans S12.out.size (Nat.le_trans S13.out.size (Nat.le_trans S14.out.size (Nat.le_trans S15.out.size (Nat.le_trans S16.out.size (Nat.le_trans S17.out.size (Nat.le_trans S18.out.size (Nat.le_trans S19.out.size S20.out.size)))))))))))))))))
      clear O98
      have O108 := Lib.hid (O99.out.below S21.out (Nat.le_trans S5.out.size (Nat.le_trans S6.out.size (Nat.le_trans S7.out.size (Nat.le_trans S8.out.size (Nat.le_trans S9.out.size (Nat.le_trans S10.out.size (Nat.le_trans S11.out.size (Nat.le_trans S12.out.size (Nat.le_trans S13.out.size (Nat.le_trans S14.out.size (Nat.le_trans S15.out.size (Nat.le_trans S16.out.size (Nat.le_trans S17.out.size (Nat.le_trans S18.out.size (Nat.le_trans S19.out.size S20.out.size))))))))))))))))
      clear O99
      have O109 := Lib.hid (O100.out.below S21.out (Nat.le_trans S6.out.size (Nat.le_trans S7.out.size (Nat.le_trans S8.out.size (Nat.le_trans S9.out.size (Nat.le_trans S10.out.size (Nat.le_trans S11.out.size (Nat.le_trans S12.out.size (Nat.le_trans S13.out.size (Nat.le_trans S14.out.size (Nat.le_trans S15.out.size (Nat.le_trans S16.out.size (Nat.le_trans S17.out.size (Nat.le_trans S18.out.size (Nat.le_trans S19.out.size S20.out.size)))))))))))))))
      clear O100
      have O110 := Lib.hid (O101.out.below S21.out (Nat.le_trans S7.out.size (Nat.le_trans S8.out.size (Nat.le_trans S9.out.size (Nat.le_trans S10.out.size (Nat.le_trans S11.out.size (Nat.le_trans S12.out.size (Nat.le_trans S13.out.size (Nat.le_trans S14.out.size (Nat.le_trans S15.out.size (Nat.le_trans S16.out.size (Nat.le_trans S17.out.size (Nat.le_trans S18.out.size (Nat.le_trans S19.out.size S20.out.size))))))))))))))
      clear O101
      have O111 := Lib.hid (O102.out.below S21.out (Nat.le_trans S18.out.size (Nat.le_trans S19.out.size S20.out.size)))
      clear O102
      have O112 := Lib.hid (O103.out.below S21.out (Nat.le_trans S19.out.size S20.out.size))
      clear O103
      have O113 := Lib.hid (O104.out.below S21.out S20.out.size)
      clear O104
      go_wp2_with fail
      go_ret
      exact ⟨rfl, T21.out⟩

theorem own : ownKnob Try.prog.godebug = none := by kernel_rfl
theorem laid : laidOutB Try.prog = true := by kernel_rfl
theorem cells1 : Try.prog.cellsOf 2 = 1 := by kernel_rfl
theorem cells2 : Try.prog.cellsOf 2 = 1 := by kernel_rfl

set_option maxRecDepth 100000 in
theorem contract (H : Type) (enc : TypeId × Value → H) (W : World) (base : Nat) (args : Array Value) (ds gs : List (DataW H)) (before : List MemPlace)
    (hval : ∀ (j : Nat) t v, Try.f5.params[j]? = some t → args[j]? = some v → Value.okWide Try.prog W .any base t v)
    (hW : DataW.Whole enc Try.prog Try.f5.params.toList Rows.fnExactColourBySpec.vars false W args.toList ds gs before) :
    Calls Try.prog 5 args W fun e W' => ∃ v, e = .returned v ∧ Rows.fnExactColourBySpec.post enc Try.prog Try.f5 false true false false W args v W' := by
  have hW' := hW
  have hlt : ∀ x ∈ before, x.block < W.heap.size := fun x hx => hW'.lt x hx
  obtain ⟨p, q, hA0, hV, rfl, hfz, hnd⟩ := hW
  have hA : DataW.TrodAll enc Try.prog W 0 (fun _ => true) true Try.f5.params.toList args.toList ds p := hA0
  rw [Try.params5] at hA hval
  obtain ⟨v0, vs0, d0, ds0, p0, q0, hargs, rfl, rfl, h0, r0⟩ := trodAll_cons hA
  obtain ⟨v1, vs1, d1, ds1, p1, q1, rfl, rfl, rfl, h1, r1⟩ := trodAll_cons r0
  obtain ⟨v2, vs2, d2, ds2, p2, q2, rfl, rfl, rfl, h2, r2⟩ := trodAll_cons r1
  obtain ⟨rfl, rfl, rfl⟩ := trodAll_nil r2
  obtain rfl : args = #[v0, v1, v2] := by first | exact Array.ext' (by exact hargs) | (cases args; simp_all)
  obtain ⟨rfl, rfl⟩ := trodVars_none hV
  clear hA0
  have k0 := h0
  have k1 := h1
  have k2 := h2
  obtain ⟨a0, rfl, _, _, w0⟩ := open_int Try.underlying2 (hval 0 2 v0 rfl rfl) h0
  obtain ⟨a1, L1, w1⟩ := Go.Lst.open_intsI Try.underlying22 Try.underlying2 cells1 (hval 1 22 v1 rfl rfl) h1
  obtain ⟨a2, L2, w2⟩ := Go.Lst.open_intsI Try.underlying22 Try.underlying2 cells2 (hval 2 22 v2 rfl rfl) h2
  simp only [List.append_nil] at hW' hlt
  refine (walk a0 w0 v1 a1 w1 v2 a2 w2 W L1 L2).mono fun e W' ⟨he, hb⟩ => ?_
  subst he
  exact ⟨_, rfl, Go.Lst.post_new (pv := []) hW' (fun _ _ _ => (trodAll_cons_mk (shut_bool Try.underlying4 _) trodAll_mk0)) (fun sp hsp => (trodAll_cons_mk (WideElems.Trod_stays laid (by kernel_rfl) (of_decide_eq_true (by kernel_rfl)) k0 (fun x hx => hb.same (hlt x (by simp [hx]))) (fun x hx => hsp x (by simp [hx]))) (trodAll_cons_mk (WideElems.Trod_stays laid (by kernel_rfl) (of_decide_eq_true (by kernel_rfl)) k1 (fun x hx => hb.same (hlt x (by simp [hx]))) (fun x hx => hsp x (by simp [hx]))) (trodAll_cons_mk (WideElems.Trod_stays laid (by kernel_rfl) (of_decide_eq_true (by kernel_rfl)) k2 (fun x hx => hb.same (hlt x (by simp [hx]))) (fun x hx => hsp x (by simp [hx]))) trodAll_mk0)))) (fun _ _ => rfl) (by simp)
    hb (ok_one (by kernel_rfl) rfl (okWide_bool_mk Try.underlying4 _))⟩

set_option maxRecDepth 100000 in
theorem lifted (os : Os) (started : os.Started) (H : Type) (enc : TypeId × Value → H) :
    ReturnsInHanded {} Try.checked os 5 .any (Rows.fnExactColourBySpec.pre6 enc Try.prog Try.f5 Rows.fnExactColourByRow.domain false) (Rows.fnExactColourBySpec.post enc Try.prog Try.f5 false true false false) := by
  refine returnsInHanded_of_change (C := Try.checked) own started (by kernel_rfl) Try.func5
    (ChangeSpec.witness6 (enc := enc) (C := Try.checked) false ⟨#[], #[.int .i64 0, .slice none 0 0, .slice none 0 0], []⟩ 8 (by kernel_rfl) (by kernel_rfl) (by kernel_rfl) (by kernel_rfl)) ?_
  intro W base args ds gs before hval hW _ _
  exact contract H enc W base args ds gs before hval hW

set_option maxRecDepth 100000 in
theorem proved : Rows.FnExactColourBySaid :=
  OpenClaim.holds_of_wide 5 Try.f5 rfl rfl rfl rfl rfl rfl rfl ⟨rfl, rfl, rfl, rfl, rfl⟩ rfl rfl rfl rfl rfl (by kernel_rfl) Try.func5 (by kernel_rfl)
    (of_decide_eq_true (by kernel_rfl)) (by unfold Func.isWrapper; first | (rw [if_pos (by decide +kernel)]; kernel_rfl) | (rw [if_neg (by decide +kernel)]; exact ⟨rfl, rfl⟩))
    (fun os started H enc _ => lifted os started H enc)
end Go.Proofs.Ytfidppepchobeaa.exactColourBy
