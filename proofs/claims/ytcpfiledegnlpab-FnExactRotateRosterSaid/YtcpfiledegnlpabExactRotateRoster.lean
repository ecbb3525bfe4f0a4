/- The program's RotateRoster and the model's answer alike at every argument, write into none, and keep nothing of it. -/
import Derived.Test.YtcpfiledegnlpabRows
import Derived.Test.YtcpfiledegnlpabRosterSpec
import Derived.ProofKit
import Derived.OpenShut
namespace Go.Proofs.Ytcpfiledegnlpab.exactRotateRoster
open Go.ChangeShapes Go.WideShapes Go.ChangeAt Go.RowKit Go.Lst

set_option maxHeartbeats 4000000 in
set_option maxRecDepth 100000 in
theorem walk (x0 : ByteArray) (hw0 : x0.size ≤ maxLen) (x1 : Int) (hw1 : (Lit.int .i64 x1).wf = true) (x2 : Int) (hw2 : (Lit.int .i64 x2).wf = true) (x3 : Int) (hw3 : (Lit.int .i64 x3).wf = true) (W : World)  :
    Calls Try.prog 14 #[.string x0, .int .i64 x1, .int .i64 x2, .int .i64 x3] W fun e w' => e = .returned (.bool true) ∧ Below W.heap.size W w' := by
  obtain ⟨r0, r1, hb0, hs, hi⟩ := rotateRoster_both x0 x1 x2 x3 hw0 hw1 hw2 hw3
  have HS := Lib.hid hs
  have HI := Lib.hid hi
  have Hhb0 := Lib.hid hb0
  clear hs hi hw1 hw2 hw3 hb0
  unfold maxLen at hw0
  by_cases hbig0 : 1048576 < x0.size
  · go_enter Try.func14, Try.ntmps14
    go_wp2_with fail
    go_ret
    exact ⟨rfl, Below.refl _ _⟩
  · have hle0 : x0.size ≤ 1048576 := by omega
    clear hbig0
    go_enter Try.func14, Try.ntmps14
    have T0 := Lib.hid (Below.refl W.heap.size W)
    go_wp2_with fail
    skip
    refine (HS.out W.heap.size  W  (Nat.le_refl _)).mono ?_
    rintro e w1 ⟨y1_0, rfl, ho1_0, hb1⟩
    have P1_0 := Lib.hid ho1_0
    clear ho1_0
    have S1 := Lib.hid hb1
    clear hb1
    have T1 := Lib.hid (below_on T0.out (Nat.le_refl _) S1.out)
    go_wp2_with fail
    skip
    refine (HI.out w1.heap.size  w1  (Nat.le_refl _)).mono ?_
    rintro e w2 ⟨y2_0, rfl, ho2_0, hb2⟩
    have P2_0 := Lib.hid ho2_0
    clear ho2_0
    have S2 := Lib.hid hb2
    clear hb2
    have T2 := Lib.hid (below_on T1.out (Nat.le_refl _) S2.out)
    have O1 := Lib.hid (P1_0.out.below S2.out (Nat.le_refl _))
    clear P1_0
    go_wp2_with fail
    skip
    refine (eqStringS_yes w2.heap.size _ _ r0 w2 (P2_0.out.lstS (Nat.le_refl _)) (O1.out.lstS S2.out.size)).mono ?_
    rintro e w3 ⟨m3, rfl, hw3⟩
    have hb3 : Below w2.heap.size w2 w3 := by rw [hw3]; exact below_drawn _ _
    clear hw3
    have S3 := Lib.hid hb3
    clear hb3
    have T3 := Lib.hid (below_on T2.out (Nat.le_refl _) S3.out)
    have O2 := Lib.hid (O1.out.below S3.out S2.out.size)
    clear O1
    have O3 := Lib.hid (P2_0.out.below S3.out (Nat.le_refl _))
    clear P2_0
    go_wp2_with fail
    skip
    refine (markStringS_any _ _ _ _ _ _ w3 O3.out (by omega) (by omega) (by have := Hhb0.out; omega)).mono ?_
    rintro e w4 ⟨rfl, ho4, hb4⟩
    have P4 := Lib.hid ho4
    have S4 := Lib.hid hb4
    clear ho4 hb4
    have T4 := Lib.hid (T3.out.grown S4.out T3.out.size (fun g hg => Nat.le_trans S1.out.size (O3.out.block_ge g hg).1))
    have O4 := Lib.hid (O2.out.beside S4.out (fun g hg => .inr (Nat.le_trans (Nat.le_refl _) (O3.out.block_ge g hg).1)) (Nat.le_trans S2.out.size S3.out.size))
    clear O2
    go_wp2_with fail
    skip
    refine (heldStringS_any w4.heap.size _ _ _ w4 (P4.out.lst (Nat.le_trans S3.out.size S4.out.size)) (by omega) (by omega) (by have := Hhb0.out; omega)).mono ?_
    rintro e w5 ⟨rfl, hb5⟩
    have S5 := Lib.hid hb5
    clear hb5
    have T5 := Lib.hid (below_on T4.out (Nat.le_refl _) S5.out)
    have O5 := Lib.hid (O4.out.below S5.out (Nat.le_trans S2.out.size (Nat.le_trans S3.out.size S4.out.size)))
    clear O4
    have O6 := Lib.hid (P4.out.below S5.out (Nat.le_trans S3.out.size S4.out.size))
    clear P4
    go_wp2_with fail
    skip
    refine (HI.out w5.heap.size  w5  (Nat.le_refl _)).mono ?_
    rintro e w6 ⟨y6_0, rfl, ho6_0, hb6⟩
    have P6_0 := Lib.hid ho6_0
    clear ho6_0
    have S6 := Lib.hid hb6
    clear hb6
    have T6 := Lib.hid (below_on T5.out (Nat.le_refl _) S6.out)
    have O7 := Lib.hid (O5.out.below S6.out (Nat.le_trans S2.out.size (Nat.le_trans S3.out.size (Nat.le_trans S4.out.size S5.out.size))))
    clear O5
    have O8 := Lib.hid (O6.out.below S6.out (Nat.le_trans S3.out.size (Nat.le_trans S4.out.size S5.out.size)))
    clear O6
    go_wp2_with fail
    skip
    refine (eqStringS_yes w6.heap.size _ _ r0 w6 (P6_0.out.lstS (Nat.le_refl _)) (O7.out.lstS (Nat.le_trans S2.out.size (Nat.le_trans S3.out.size (Nat.le_trans S4.out.size (Nat.le_trans S5.out.size S6.out.size)))))).mono ?_
    rintro e w7 ⟨m7, rfl, hw7⟩
    have hb7 : Below w6.heap.size w6 w7 := by rw [hw7]; exact below_drawn _ _
    clear hw7
    have S7 := Lib.hid hb7
    clear hb7
    have T7 := Lib.hid (below_on T6.out (Nat.le_refl _) S7.out)
    have O9 := Lib.hid (O7.out.below S7.out (Nat.le_trans S2.out.size (Nat.le_trans S3.out.size (Nat.le_trans S4.out.size (Nat.le_trans S5.out.size S6.out.size)))))
    clear O7
    have O10 := Lib.hid (O8.out.below S7.out (Nat.le_trans S3.out.size (Nat.le_trans S4.out.size (Nat.le_trans S5.out.size S6.out.size))))
    clear O8
    have O11 := Lib.hid (P6_0.out.below S7.out (Nat.le_refl _))
    clear P6_0
    go_wp2_with fail
    skip
    refine (heldStringS_any w7.heap.size _ _ _ w7 (O10.out.lst (Nat.le_trans S3.out.size (Nat.le_trans S4.out.size (Nat.le_trans S5.out.size (Nat.le_trans S6.out.size S7.out.size))))) (by omega) (by omega) (by have := Hhb0.out; omega)).mono ?_
    rintro e w8 ⟨rfl, hb8⟩
    have S8 := Lib.hid hb8
    clear hb8
    have T8 := Lib.hid (below_on T7.out (Nat.le_refl _) S8.out)
    have O12 := Lib.hid (O9.out.below S8.out (Nat.le_trans S2.out.size (Nat.le_trans S3.out.size (Nat.le_trans S4.out.size (Nat.le_trans S5.out.size (Nat.le_trans S6.out.size S7.out.size))))))
    clear O9
    have O13 := Lib.hid (O10.out.below S8.out (Nat.le_trans S3.out.size (Nat.le_trans S4.out.size (Nat.le_trans S5.out.size (Nat.le_trans S6.out.size S7.out.size)))))
    clear O10
    have O14 := Lib.hid (O11.out.below S8.out S7.out.size)
    clear O11
    go_wp2_with fail
    go_ret
    exact ⟨rfl, T8.out⟩

theorem own : ownKnob Try.prog.godebug = none := by kernel_rfl
theorem laid : laidOutB Try.prog = true := by kernel_rfl

set_option maxRecDepth 100000 in
theorem contract (H : Type) (enc : TypeId × Value → H) (W : World) (base : Nat) (args : Array Value) (ds gs : List (DataW H)) (before : List MemPlace)
    (hval : ∀ (j : Nat) t v, Try.f14.params[j]? = some t → args[j]? = some v → Value.okWide Try.prog W .any base t v)
    (hW : DataW.Whole enc Try.prog Try.f14.params.toList Rows.fnExactRotateRosterSpec.vars false W args.toList ds gs before) :
    Calls Try.prog 14 args W fun e W' => ∃ v, e = .returned v ∧ Rows.fnExactRotateRosterSpec.post enc Try.prog Try.f14 false true false false W args v W' := by
  have hW' := hW
  have hlt : ∀ x ∈ before, x.block < W.heap.size := fun x hx => hW'.lt x hx
  obtain ⟨p, q, hA0, hV, rfl, hfz, hnd⟩ := hW
  have hA : DataW.TrodAll enc Try.prog W 0 (fun _ => true) true Try.f14.params.toList args.toList ds p := hA0
  rw [Try.params14] at hA hval
  obtain ⟨v0, vs0, d0, ds0, p0, q0, hargs, rfl, rfl, h0, r0⟩ := trodAll_cons hA
  obtain ⟨v1, vs1, d1, ds1, p1, q1, rfl, rfl, rfl, h1, r1⟩ := trodAll_cons r0
  obtain ⟨v2, vs2, d2, ds2, p2, q2, rfl, rfl, rfl, h2, r2⟩ := trodAll_cons r1
  obtain ⟨v3, vs3, d3, ds3, p3, q3, rfl, rfl, rfl, h3, r3⟩ := trodAll_cons r2
  obtain ⟨rfl, rfl, rfl⟩ := trodAll_nil r3
  obtain rfl : args = #[v0, v1, v2, v3] := by first | exact Array.ext' (by exact hargs) | (cases args; simp_all)
  obtain ⟨rfl, rfl⟩ := trodVars_none hV
  clear hA0
  have k0 := h0
  have k1 := h1
  have k2 := h2
  have k3 := h3
  obtain ⟨a0, rfl, _, _, w0⟩ := Go.ChangeMaps.open_string Try.underlying9 (hval 0 9 v0 rfl rfl) h0
  obtain ⟨a1, rfl, _, _, w1⟩ := open_int Try.underlying2 (hval 1 2 v1 rfl rfl) h1
  obtain ⟨a2, rfl, _, _, w2⟩ := open_int Try.underlying2 (hval 2 2 v2 rfl rfl) h2
  obtain ⟨a3, rfl, _, _, w3⟩ := open_int Try.underlying2 (hval 3 2 v3 rfl rfl) h3
  simp only [List.append_nil] at hW' hlt
  refine (walk a0 w0 a1 w1 a2 w2 a3 w3 W).mono fun e W' ⟨he, hb⟩ => ?_
  subst he
  exact ⟨_, rfl, Go.Lst.post_new (pv := []) hW' (fun _ _ _ => (trodAll_cons_mk (shut_bool Try.underlying4 _) trodAll_mk0)) (fun sp hsp => (trodAll_cons_mk (WideElems.Trod_stays laid (by kernel_rfl) (of_decide_eq_true (by kernel_rfl)) k0 (fun x hx => hb.same (hlt x (by simp [hx]))) (fun x hx => hsp x (by simp [hx]))) (trodAll_cons_mk (WideElems.Trod_stays laid (by kernel_rfl) (of_decide_eq_true (by kernel_rfl)) k1 (fun x hx => hb.same (hlt x (by simp [hx]))) (fun x hx => hsp x (by simp [hx]))) (trodAll_cons_mk (WideElems.Trod_stays laid (by kernel_rfl) (of_decide_eq_true (by kernel_rfl)) k2 (fun x hx => hb.same (hlt x (by simp [hx]))) (fun x hx => hsp x (by simp [hx]))) (trodAll_cons_mk (WideElems.Trod_stays laid (by kernel_rfl) (of_decide_eq_true (by kernel_rfl)) k3 (fun x hx => hb.same (hlt x (by simp [hx]))) (fun x hx => hsp x (by simp [hx]))) trodAll_mk0))))) (fun _ _ => rfl) (by simp)
    hb (ok_one (by kernel_rfl) rfl (okWide_bool_mk Try.underlying4 _))⟩

set_option maxRecDepth 100000 in
theorem lifted (os : Os) (started : os.Started) (H : Type) (enc : TypeId × Value → H) :
    ReturnsInHanded {} Try.checked os 14 .any (Rows.fnExactRotateRosterSpec.pre6 enc Try.prog Try.f14 Rows.fnExactRotateRosterRow.domain false) (Rows.fnExactRotateRosterSpec.post enc Try.prog Try.f14 false true false false) := by
  refine returnsInHanded_of_change (C := Try.checked) own started (by kernel_rfl) Try.func14
    (ChangeSpec.witness6 (enc := enc) (C := Try.checked) false ⟨#[], #[.string ⟨#[]⟩, .int .i64 0, .int .i64 0, .int .i64 0], []⟩ 8 (by kernel_rfl) (by kernel_rfl) (by kernel_rfl) (by kernel_rfl)) ?_
  intro W base args ds gs before hval hW _ _
  exact contract H enc W base args ds gs before hval hW

set_option maxRecDepth 100000 in
theorem proved : Rows.FnExactRotateRosterSaid :=
  OpenClaim.holds_of_wide 14 Try.f14 rfl rfl rfl rfl rfl rfl rfl ⟨rfl, rfl, rfl, rfl, rfl⟩ rfl rfl rfl rfl rfl (by kernel_rfl) Try.func14 (by kernel_rfl)
    (of_decide_eq_true (by kernel_rfl)) (by unfold Func.isWrapper; first | (rw [if_pos (by decide +kernel)]; kernel_rfl) | (rw [if_neg (by decide +kernel)]; exact ⟨rfl, rfl⟩))
    (fun os started H enc _ => lifted os started H enc)
end Go.Proofs.Ytcpfiledegnlpab.exactRotateRoster
