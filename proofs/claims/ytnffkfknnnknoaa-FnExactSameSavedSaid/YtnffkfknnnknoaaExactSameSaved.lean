/- when two lists of what is saved are the same -/
import Derived.Test.YtnffkfknnnknoaaRows
import Derived.Test.YtnffkfknnnknoaaSameSavedSpec
import Derived.Test.YtnffkfknnnknoaaSavedTo
import Derived.Test.YtnffkfknnnknoaaSavedRows
import Derived.ProofKit
import Derived.OpenShut
namespace Go.Proofs.Ytnffkfknnnknoaa.exactSameSaved
open Go.ChangeShapes Go.WideShapes Go.ChangeAt Go.RowKit Go.Lst

set_option maxHeartbeats 4000000 in
set_option maxRecDepth 100000 in
theorem walk (v0 : Value) (x0 : List SavedD) (hw0 : (∀ y ∈ x0, y.wf)) (v1 : Value) (x1 : List SavedD) (hw1 : (∀ y ∈ x1, y.wf)) (W : World) (h0 : LstSavedS W.heap.size W v0 x0) (h1 : LstSavedS W.heap.size W v1 x1) :
    Calls Try.prog 4 #[v0, v1] W fun e w' => e = .returned (.bool true) ∧ Below W.heap.size W w' := by
  obtain ⟨r0, hs, hi⟩ := sameSaved_both x0 x1 hw0 hw1
  have HS := Lib.hid hs
  have HI := Lib.hid hi
  clear hs hi hw0 hw1 
  obtain ⟨a0, cap0, hv0, hl0, -⟩ := id h0
  subst hv0
  have hL0 := Lib.hid h0
  clear h0
  generalize hn0 : x0.length = n0 at *
  have hN0 := Lib.hid hn0
  clear hn0
  unfold maxLen at hl0
  have hZ0 := Lib.hid (show vsz x0 = vsz x0 from rfl)
  obtain ⟨a1, cap1, hv1, hl1, -⟩ := id h1
  subst hv1
  have hL1 := Lib.hid h1
  clear h1
  generalize hn1 : x1.length = n1 at *
  have hN1 := Lib.hid hn1
  clear hn1
  unfold maxLen at hl1
  have hZ1 := Lib.hid (show vsz x1 = vsz x1 from rfl)
  by_cases hbig0 : 1048576 < (vsz x0)
  · go_enter Try.func4, Try.ntmps4
    go_wp2_with fail
    refine (szSavedS_over W.heap.size _ x0 _ _ (hL0.out.below (Below.refl W.heap.size W) (Nat.le_refl _)) (Below.size (Below.refl W.heap.size W)) (by omega) (by omega) (by omega)).mono ?_
    rintro e wz0 ⟨rfl, hz0⟩
    have HZ0 := Lib.hid (below_on (Below.refl W.heap.size W) (Nat.le_refl _) hz0)
    clear hz0
    go_wp2_with fail
    go_ret
    exact ⟨rfl, HZ0.out⟩
  · have hle0 : (vsz x0) ≤ 1048576 := by omega
    clear hbig0
    by_cases hbig1 : 1048576 < (vsz x0) + (vsz x1)
    · go_enter Try.func4, Try.ntmps4
      go_wp2_with fail
      refine (szSavedS_fits W.heap.size _ x0 _ _ (hL0.out.below (Below.refl W.heap.size W) (Nat.le_refl _)) (Below.size (Below.refl W.heap.size W)) (by omega) (by omega)).mono ?_
      rintro e wz0 ⟨rfl, hz0⟩
      have HZ0 := Lib.hid (below_on (Below.refl W.heap.size W) (Nat.le_refl _) hz0)
      clear hz0
      go_wp2_with fail
      refine (szSavedS_over W.heap.size _ x1 _ _ (hL1.out.below HZ0.out (Nat.le_refl _)) (Below.size HZ0.out) (by omega) (by omega) (by omega)).mono ?_
      rintro e wz1 ⟨rfl, hz1⟩
      have HZ1 := Lib.hid (below_on HZ0.out (Nat.le_refl _) hz1)
      clear hz1
      go_wp2_with fail
      go_ret
      exact ⟨rfl, HZ1.out⟩
    · have hle1 : (vsz x0) + (vsz x1) ≤ 1048576 := by omega
      clear hbig1
      have hle_0 := Lib.hid (show vsz x0 ≤ 1048576 by omega)
      have hle_1 := Lib.hid (show vsz x1 ≤ 1048576 by omega)
      go_enter Try.func4, Try.ntmps4
      go_wp2_with fail
      refine (szSavedS_fits W.heap.size _ x0 _ _ (hL0.out.below (Below.refl W.heap.size W) (Nat.le_refl _)) (Below.size (Below.refl W.heap.size W)) (by omega) (by omega)).mono ?_
      rintro e wz0 ⟨rfl, hz0⟩
      have HZ0 := Lib.hid (below_on (Below.refl W.heap.size W) (Nat.le_refl _) hz0)
      clear hz0
      go_wp2_with fail
      refine (szSavedS_fits W.heap.size _ x1 _ _ (hL1.out.below HZ0.out (Nat.le_refl _)) (Below.size HZ0.out) (by omega) (by omega)).mono ?_
      rintro e wz1 ⟨rfl, hz1⟩
      have HZ1 := Lib.hid (below_on HZ0.out (Nat.le_refl _) hz1)
      clear hz1
      have T0 := Lib.hid HZ1.out
      go_wp2_with fail
      refine (copiedSavedS W.heap.size _ x0 wz1 (hL0.out.below T0.out (Nat.le_refl _)) (Below.size T0.out) hle_0.out).mono ?_
      rintro e w1 ⟨u1, rfl, ho1, hb1⟩
      have P1 := Lib.hid ho1
      clear ho1
      have S1 := Lib.hid hb1
      clear hb1
      have T1 := Lib.hid (below_on T0.out (Nat.le_refl _) S1.out)
      go_wp2_with fail
      refine (copiedSavedS W.heap.size _ x1 w1 (hL1.out.below T1.out (Nat.le_refl _)) (Below.size T1.out) hle_1.out).mono ?_
      rintro e w2 ⟨u2, rfl, ho2, hb2⟩
      have P2 := Lib.hid ho2
      clear ho2
      have S2 := Lib.hid hb2
      clear hb2
      have T2 := Lib.hid (below_on T1.out (Nat.le_refl _) S2.out)
      have O1 := Lib.hid (P1.out.below S2.out (Nat.le_refl _))
      clear P1
      go_wp2_with fail
      refine (HS.out w2.heap.size _ _ w2 (O1.out.lst S2.out.size) (P2.out.lst (Nat.le_refl _)) (Nat.le_refl _)).mono ?_
      rintro e w3 ⟨rfl, hb3⟩
      have S3 := Lib.hid hb3
      clear hb3
      have T3 := Lib.hid (below_on T2.out (Nat.le_refl _) S3.out)
      have O2 := Lib.hid (O1.out.below S3.out S2.out.size)
      clear O1
      have O3 := Lib.hid (P2.out.below S3.out (Nat.le_refl _))
      clear P2
      go_wp2_with fail
      refine (copiedSavedS W.heap.size _ x0 w3 (hL0.out.below T3.out (Nat.le_refl _)) (Below.size T3.out) hle_0.out).mono ?_
      rintro e w4 ⟨u4, rfl, ho4, hb4⟩
      have P4 := Lib.hid ho4
      clear ho4
      have S4 := Lib.hid hb4
      clear hb4
      have T4 := Lib.hid (below_on T3.out (Nat.le_refl _) S4.out)
      have O4 := Lib.hid (O2.out.below S4.out (Nat.le_trans S2.out.size S3.out.size))
      clear O2
      have O5 := Lib.hid (O3.out.below S4.out S3.out.size)
      clear O3
      go_wp2_with fail
      refine (copiedSavedS W.heap.size _ x1 w4 (hL1.out.below T4.out (Nat.le_refl _)) (Below.size T4.out) hle_1.out).mono ?_
      rintro e w5 ⟨u5, rfl, ho5, hb5⟩
      have P5 := Lib.hid ho5
      clear ho5
      have S5 := Lib.hid hb5
      clear hb5
      have T5 := Lib.hid (below_on T4.out (Nat.le_refl _) S5.out)
      have O6 := Lib.hid (O4.out.below S5.out (Nat.le_trans S2.out.size (Nat.le_trans S3.out.size S4.out.size)))
      clear O4
      have O7 := Lib.hid (O5.out.below S5.out (Nat.le_trans S3.out.size S4.out.size))
      clear O5
      have O8 := Lib.hid (P4.out.below S5.out (Nat.le_refl _))
      clear P4
      go_wp2_with fail
      refine (HI.out w5.heap.size _ _ w5 (O8.out.lst S5.out.size) (P5.out.lst (Nat.le_refl _)) (Nat.le_refl _)).mono ?_
      rintro e w6 ⟨rfl, hb6⟩
      have S6 := Lib.hid hb6
      clear hb6
      have T6 := Lib.hid (below_on T5.out (Nat.le_refl _) S6.out)
      have O9 := Lib.hid (O6.out.below S6.out (Nat.le_trans S2.out.size (Nat.le_trans S3.out.size (Nat.le_trans S4.out.size S5.out.size))))
      clear O6
      have O10 := Lib.hid (O7.out.below S6.out (Nat.le_trans S3.out.size (Nat.le_trans S4.out.size S5.out.size)))
      clear O7
      have O11 := Lib.hid (O8.out.below S6.out S5.out.size)
      clear O8
      have O12 := Lib.hid (P5.out.below S6.out (Nat.le_refl _))
      clear P5
      go_wp2_with fail
      refine (copiedSavedS W.heap.size _ x0 w6 (hL0.out.below T6.out (Nat.le_refl _)) (Below.size T6.out) hle_0.out).mono ?_
      rintro e w7 ⟨u7, rfl, ho7, hb7⟩
      have P7 := Lib.hid ho7
      clear ho7
      have S7 := Lib.hid hb7
      clear hb7
      have T7 := Lib.hid (below_on T6.out (Nat.le_refl _) S7.out)
      have O13 := Lib.hid (O9.out.below S7.out (Nat.le_trans S2.out.size (Nat.le_trans S3.out.size (Nat.le_trans S4.out.size (Nat.le_trans S5.out.size S6.out.size)))))
      clear O9
      have O14 := Lib.hid (O10.out.below S7.out (Nat.le_trans S3.out.size (Nat.le_trans S4.out.size (Nat.le_trans S5.out.size S6.out.size))))
      clear O10
      have O15 := Lib.hid (O11.out.below S7.out (Nat.le_trans S5.out.size S6.out.size))
      clear O11
      have O16 := Lib.hid (O12.out.below S7.out S6.out.size)
      clear O12
      go_wp2_with fail
      refine (eqSavedS_yes w7.heap.size _ _ x0 w7 (O15.out.lst (Nat.le_trans S5.out.size (Nat.le_trans S6.out.size S7.out.size))) (P7.out.lst (Nat.le_refl _))).mono ?_
      rintro e w8 ⟨rfl, hb8⟩
      have S8 := Lib.hid hb8
      clear hb8
      have T8 := Lib.hid (below_on T7.out (Nat.le_refl _) S8.out)
      have O17 := Lib.hid (O13.out.below S8.out (Nat.le_trans S2.out.size (Nat.le_trans S3.out.size (Nat.le_trans S4.out.size (Nat.le_trans S5.out.size (Nat.le_trans S6.out.size S7.out.size))))))
      clear O13
      have O18 := Lib.hid (O14.out.below S8.out (Nat.le_trans S3.out.size (Nat.le_trans S4.out.size (Nat.le_trans S5.out.size (Nat.le_trans S6.out.size S7.out.size)))))
      clear O14
      have O19 := Lib.hid (O15.out.below S8.out (Nat.le_trans S5.out.size (Nat.le_trans S6.out.size S7.out.size)))
      clear O15
      have O20 := Lib.hid (O16.out.below S8.out (Nat.le_trans S6.out.size S7.out.size))
      clear O16
      have O21 := Lib.hid (P7.out.below S8.out (Nat.le_refl _))
      clear P7
      go_wp2_with fail
      refine (copiedSavedS W.heap.size _ x1 w8 (hL1.out.below T8.out (Nat.le_refl _)) (Below.size T8.out) hle_1.out).mono ?_
      rintro e w9 ⟨u9, rfl, ho9, hb9⟩
      have P9 := Lib.hid ho9
      clear ho9
      have S9 := Lib.hid hb9
      clear hb9
      have T9 := Lib.hid (below_on T8.out (Nat.le_refl _) S9.out)
      have O22 := Lib.hid (O17.out.below S9.out (Nat.le_trans S2.out.size (Nat.le_trans S3.out.size (Nat.le_trans S4.out.size (Nat.le_trans S5.out.size (Nat.le_trans S6.out.size (Nat.le_trans S7.out.size S8.out.size)))))))
      clear O17
      have O23 := Lib.hid (O18.out.below S9.out (Nat.le_trans S3.out.size (Nat.le_trans S4.out.size (Nat.le_trans S5.out.size (Nat.le_trans S6.out.size (Nat.le_trans S7.out.size S8.out.size))))))
      clear O18
      have O24 := Lib.hid (O19.out.below S9.out (Nat.le_trans S5.out.size (Nat.le_trans S6.out.size (Nat.le_trans S7.out.size S8.out.size))))
      clear O19
      have O25 := Lib.hid (O20.out.below S9.out (Nat.le_trans S6.out.size (Nat.le_trans S7.out.size S8.out.size)))
      clear O20
      go_wp2_with fail
      refine (eqSavedS_yes w9.heap.size _ _ x1 w9 (O25.out.lst (Nat.le_trans S6.out.size (Nat.le_trans S7.out.size (Nat.le_trans S8.out.size S9.out.size)))) (P9.out.lst (Nat.le_refl _))).mono ?_
      rintro e w10 ⟨rfl, hb10⟩
      have S10 := Lib.hid hb10
      clear hb10
      have T10 := Lib.hid (below_on T9.out (Nat.le_refl _) S10.out)
      have O26 := Lib.hid (O22.out.below S10.out (Nat.le_trans S2.out.size (Nat.le_trans S3.out.size (Nat.le_trans S4.out.size (Nat.le_trans S5.out.size (Nat.le_trans S6.out.size (Nat.le_trans S7.out.size (Nat.le_trans S8.out.size S9.out.size))))))))
      clear O22
      have O27 := Lib.hid (O23.out.below S10.out (Nat.le_trans S3.out.size (Nat.le_trans S4.out.size (Nat.le_trans S5.out.size (Nat.le_trans S6.out.size (Nat.le_trans S7.out.size (Nat.le_trans S8.out.size S9.out.size)))))))
      clear O23
      have O28 := Lib.hid (O24.out.below S10.out (Nat.le_trans S5.out.size (Nat.le_trans S6.out.size (Nat.le_trans S7.out.size (Nat.le_trans S8.out.size S9.out.size)))))
      clear O24
      have O29 := Lib.hid (O25.out.below S10.out (Nat.le_trans S6.out.size (Nat.le_trans S7.out.size (Nat.le_trans S8.out.size S9.out.size))))
      clear O25
      have O30 := Lib.hid (P9.out.below S10.out (Nat.le_refl _))
      clear P9
      go_wp2_with fail
      go_ret
      exact ⟨rfl, T10.out⟩

theorem own : ownKnob Try.prog.godebug = none := by kernel_rfl
theorem laid : laidOutB Try.prog = true := by kernel_rfl

set_option maxRecDepth 100000 in
theorem contract (H : Type) (enc : TypeId × Value → H) (W : World) (base : Nat) (args : Array Value) (ds gs : List (DataW H)) (before : List MemPlace)
    (hval : ∀ (j : Nat) t v, Try.f4.params[j]? = some t → args[j]? = some v → Value.okWide Try.prog W .any base t v)
    (hW : DataW.Whole enc Try.prog Try.f4.params.toList Rows.fnExactSameSavedSpec.vars false W args.toList ds gs before) :
    Calls Try.prog 4 args W fun e W' => ∃ v, e = .returned v ∧ Rows.fnExactSameSavedSpec.post enc Try.prog Try.f4 false true false false W args v W' := by
  have hW' := hW
  have hlt : ∀ x ∈ before, x.block < W.heap.size := fun x hx => hW'.lt x hx
  obtain ⟨p, q, hA0, hV, rfl, hfz, hnd⟩ := hW
  have hA : DataW.TrodAll enc Try.prog W 0 (fun _ => true) true Try.f4.params.toList args.toList ds p := hA0
  rw [Try.params4] at hA hval
  obtain ⟨v0, vs0, d0, ds0, p0, q0, hargs, rfl, rfl, h0, r0⟩ := trodAll_cons hA
  obtain ⟨v1, vs1, d1, ds1, p1, q1, rfl, rfl, rfl, h1, r1⟩ := trodAll_cons r0
  obtain ⟨rfl, rfl, rfl⟩ := trodAll_nil r1
  obtain rfl : args = #[v0, v1] := by first | exact Array.ext' (by exact hargs) | (cases args; simp_all)
  obtain ⟨rfl, rfl⟩ := trodVars_none hV
  clear hA0
  have k0 := h0
  have k1 := h1
  obtain ⟨a0, L0, w0⟩ := openRow_Saved (enc := enc) (hval 0 34 v0 rfl rfl) h0
  obtain ⟨a1, L1, w1⟩ := openRow_Saved (enc := enc) (hval 1 34 v1 rfl rfl) h1
  simp only [List.append_nil] at hW' hlt
  refine (walk v0 a0 w0 v1 a1 w1 W L0 L1).mono fun e W' ⟨he, hb⟩ => ?_
  subst he
  exact ⟨_, rfl, Go.Lst.post_new (pv := []) hW' (fun _ _ _ => (trodAll_cons_mk (shut_bool Try.underlying4 _) trodAll_mk0)) (fun sp hsp => (trodAll_cons_mk (WideElems.Trod_stays laid (by kernel_rfl) (of_decide_eq_true (by kernel_rfl)) k0 (fun x hx => hb.same (hlt x (by simp [hx]))) (fun x hx => hsp x (by simp [hx]))) (trodAll_cons_mk (WideElems.Trod_stays laid (by kernel_rfl) (of_decide_eq_true (by kernel_rfl)) k1 (fun x hx => hb.same (hlt x (by simp [hx]))) (fun x hx => hsp x (by simp [hx]))) trodAll_mk0))) (fun _ _ => rfl) (by simp)
    hb (ok_one (by kernel_rfl) rfl (okWide_bool_mk Try.underlying4 _))⟩

set_option maxRecDepth 100000 in
theorem lifted (os : Os) (started : os.Started) (H : Type) (enc : TypeId × Value → H) :
    ReturnsInHanded {} Try.checked os 4 .any (Rows.fnExactSameSavedSpec.pre6 enc Try.prog Try.f4 Rows.fnExactSameSavedRow.domain false) (Rows.fnExactSameSavedSpec.post enc Try.prog Try.f4 false true false false) := by
  refine returnsInHanded_of_change (C := Try.checked) own started (by kernel_rfl) Try.func4
    (ChangeSpec.witness6 (enc := enc) (C := Try.checked) false ⟨#[], #[.slice none 0 0, .slice none 0 0], []⟩ 8 (by kernel_rfl) (by kernel_rfl) (by kernel_rfl) (by kernel_rfl)) ?_
  intro W base args ds gs before hval hW _ _
  exact contract H enc W base args ds gs before hval hW

set_option maxRecDepth 100000 in
theorem proved : Rows.FnExactSameSavedSaid :=
  OpenClaim.holds_of_wide 4 Try.f4 rfl rfl rfl rfl rfl rfl rfl ⟨rfl, rfl, rfl, rfl, rfl⟩ rfl rfl rfl rfl rfl (by kernel_rfl) Try.func4 (by kernel_rfl)
    (of_decide_eq_true (by kernel_rfl)) (by unfold Func.isWrapper; first | (rw [if_pos (by decide +kernel)]; kernel_rfl) | (rw [if_neg (by decide +kernel)]; exact ⟨rfl, rfl⟩))
    (fun os started H enc _ => lifted os started H enc)
end Go.Proofs.Ytnffkfknnnknoaa.exactSameSaved
