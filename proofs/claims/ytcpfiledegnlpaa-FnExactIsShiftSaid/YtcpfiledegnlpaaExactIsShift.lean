/- The program's IsShift and the model's answer alike at every argument, write into none, and keep nothing of it. -/
import Derived.Test.YtcpfiledegnlpaaRows
import Derived.Test.YtcpfiledegnlpaaShift
import Derived.ProofKit
import Derived.OpenShut
namespace Go.Proofs.Ytcpfiledegnlpaa.exactIsShift
open Go.ChangeShapes Go.WideShapes Go.ChangeAt Go.RowKit Go.Lst

set_option maxHeartbeats 4000000 in
set_option maxRecDepth 100000 in
theorem walk (x0 : ShiftRuleD) (hw0 : x0.wf) (x1 : ByteArray) (hw1 : x1.size ≤ maxLen) (W : World)  :
    Calls Try.prog 10 #[x0.agg, .string x1] W fun e w' => e = .returned (.bool true) ∧ Below W.heap.size W w' := by
  obtain ⟨r0, r1, hs, hi⟩ := isShift_both x0 x1 hw0 hw1
  have HS := Lib.hid hs
  have HI := Lib.hid hi
  clear hs hi hw0 
  unfold maxLen at hw1
  by_cases hbig0 : 1048576 < x1.size
  · go_enter Try.func10, Try.ntmps10
    go_wp2_with fail
    go_ret
    exact ⟨rfl, by repeat (first | exact Below.refl _ _ | refine below_alloc ?_ _)⟩
  · have hle0 : x1.size ≤ 1048576 := by omega
    clear hbig0
    go_enter Try.func10, Try.ntmps10
    have BX0 := Whole.made W 45 x0.cells rfl
    have T0 := Lib.hid (below_alloc (Below.refl W.heap.size W) (.cells (x0.cells) 45))
    have HX0 := Lib.hid BX0
    clear BX0
    have U0 := Lib.hid (Below.refl (W.alloc (.cells (x0.cells) 45)).heap.size (W.alloc (.cells (x0.cells) 45)))
    unfold ShiftRuleD.cells at T0 U0 HX0
    go_wp2_with fail
    generalize (W.alloc (.cells #[.int .i64 x0.Slots, .int .i64 x0.Least, .int .i64 x0.Most, .int .i64 x0.Row, .int .i64 x0.Pause] 45)) = w0 at *
    skip
    refine (toShiftRule_any x0 _).mono ?_
    rintro e w1 ⟨rfl, hb1⟩
    have S1 := Lib.hid hb1
    clear hb1
    have T1 := Lib.hid (below_on T0.out (Nat.le_refl _) S1.out)
    have U1 := Lib.hid (below_on U0.out (Nat.le_refl _) S1.out)
    go_wp2_with fail
    skip
    refine (HS.out w1.heap.size  w1  (Nat.le_refl _)).mono ?_
    rintro e w2 ⟨rfl, hb2⟩
    have S2 := Lib.hid hb2
    clear hb2
    have T2 := Lib.hid (below_on T1.out (Nat.le_refl _) S2.out)
    have U2 := Lib.hid (below_on U1.out (Nat.le_refl _) S2.out)
    have cb3_0 := (HX0.out.below U2.out HX0.out.size).at_ (i := 0) rfl
    have cb3_1 := (HX0.out.below U2.out HX0.out.size).at_ (i := 1) rfl
    have cb3_2 := (HX0.out.below U2.out HX0.out.size).at_ (i := 2) rfl
    have cb3_3 := (HX0.out.below U2.out HX0.out.size).at_ (i := 3) rfl
    have cb3_4 := (HX0.out.below U2.out HX0.out.size).at_ (i := 4) rfl
    go_wp2_with fail
    skip
    refine (toShiftRule_any x0 _).mono ?_
    rintro e w3 ⟨rfl, hb3⟩
    clear cb3_0 cb3_1 cb3_2 cb3_3 cb3_4
    have S3 := Lib.hid hb3
    clear hb3
    have T3 := Lib.hid (below_on T2.out (Nat.le_refl _) S3.out)
    have U3 := Lib.hid (below_on U2.out (Nat.le_refl _) S3.out)
    go_wp2_with fail
    skip
    refine (HI.out w3.heap.size  w3  (Nat.le_refl _)).mono ?_
    rintro e w4 ⟨rfl, hb4⟩
    have S4 := Lib.hid hb4
    clear hb4
    have T4 := Lib.hid (below_on T3.out (Nat.le_refl _) S4.out)
    have U4 := Lib.hid (below_on U3.out (Nat.le_refl _) S4.out)
    go_wp2_with fail
    go_ret
    exact ⟨rfl, T4.out⟩

theorem own : ownKnob Try.prog.godebug = none := by kernel_rfl
theorem laid : laidOutB Try.prog = true := by kernel_rfl

set_option maxRecDepth 100000 in
theorem contract (H : Type) (enc : TypeId × Value → H) (W : World) (base : Nat) (args : Array Value) (ds gs : List (DataW H)) (before : List MemPlace)
    (hval : ∀ (j : Nat) t v, Try.f10.params[j]? = some t → args[j]? = some v → Value.okWide Try.prog W .any base t v)
    (hW : DataW.Whole enc Try.prog Try.f10.params.toList Rows.fnExactIsShiftSpec.vars false W args.toList ds gs before) :
    Calls Try.prog 10 args W fun e W' => ∃ v, e = .returned v ∧ Rows.fnExactIsShiftSpec.post enc Try.prog Try.f10 false true false false W args v W' := by
  have hW' := hW
  have hlt : ∀ x ∈ before, x.block < W.heap.size := fun x hx => hW'.lt x hx
  obtain ⟨p, q, hA0, hV, rfl, hfz, hnd⟩ := hW
  have hA : DataW.TrodAll enc Try.prog W 0 (fun _ => true) true Try.f10.params.toList args.toList ds p := hA0
  rw [Try.params10] at hA hval
  obtain ⟨v0, vs0, d0, ds0, p0, q0, hargs, rfl, rfl, h0, r0⟩ := trodAll_cons hA
  obtain ⟨v1, vs1, d1, ds1, p1, q1, rfl, rfl, rfl, h1, r1⟩ := trodAll_cons r0
  obtain ⟨rfl, rfl, rfl⟩ := trodAll_nil r1
  obtain rfl : args = #[v0, v1] := by first | exact Array.ext' (by exact hargs) | (cases args; simp_all)
  obtain ⟨rfl, rfl⟩ := trodVars_none hV
  clear hA0
  have k0 := h0
  have k1 := h1
  obtain ⟨a0, rfl, w0⟩ := openAgg_ShiftRule (enc := enc) (hval 0 45 v0 rfl rfl) h0
  obtain ⟨a1, rfl, _, _, w1⟩ := Go.ChangeMaps.open_string Try.underlying9 (hval 1 9 v1 rfl rfl) h1
  simp only [List.append_nil] at hW' hlt
  refine (walk a0 w0 a1 w1 W).mono fun e W' ⟨he, hb⟩ => ?_
  subst he
  exact ⟨_, rfl, Go.Lst.post_new (pv := []) hW' (fun _ _ _ => (trodAll_cons_mk (shut_bool Try.underlying4 _) trodAll_mk0)) (fun sp hsp => (trodAll_cons_mk (WideElems.Trod_stays laid (by kernel_rfl) (of_decide_eq_true (by kernel_rfl)) k0 (fun x hx => hb.same (hlt x (by simp [hx]))) (fun x hx => hsp x (by simp [hx]))) (trodAll_cons_mk (WideElems.Trod_stays laid (by kernel_rfl) (of_decide_eq_true (by kernel_rfl)) k1 (fun x hx => hb.same (hlt x (by simp [hx]))) (fun x hx => hsp x (by simp [hx]))) trodAll_mk0))) (fun _ _ => rfl) (by simp)
    hb (ok_one (by kernel_rfl) rfl (okWide_bool_mk Try.underlying4 _))⟩

set_option maxRecDepth 100000 in
theorem lifted (os : Os) (started : os.Started) (H : Type) (enc : TypeId × Value → H) :
    ReturnsInHanded {} Try.checked os 10 .any (Rows.fnExactIsShiftSpec.pre6 enc Try.prog Try.f10 Rows.fnExactIsShiftRow.domain false) (Rows.fnExactIsShiftSpec.post enc Try.prog Try.f10 false true false false) := by
  refine returnsInHanded_of_change (C := Try.checked) own started (by kernel_rfl) Try.func10
    (ChangeSpec.witness6 (enc := enc) (C := Try.checked) false ⟨#[], #[.agg #[.int .i64 0, .int .i64 0, .int .i64 0, .int .i64 0, .int .i64 0], .string ⟨#[]⟩], []⟩ 8 (by kernel_rfl) (by kernel_rfl) (by kernel_rfl) (by kernel_rfl)) ?_
  intro W base args ds gs before hval hW _ _
  exact contract H enc W base args ds gs before hval hW

set_option maxRecDepth 100000 in
theorem proved : Rows.FnExactIsShiftSaid :=
  OpenClaim.holds_of_wide 10 Try.f10 rfl rfl rfl rfl rfl rfl rfl ⟨rfl, rfl, rfl, rfl, rfl⟩ rfl rfl rfl rfl rfl (by kernel_rfl) Try.func10 (by kernel_rfl)
    (of_decide_eq_true (by kernel_rfl)) (by unfold Func.isWrapper; first | (rw [if_pos (by decide +kernel)]; kernel_rfl) | (rw [if_neg (by decide +kernel)]; exact ⟨rfl, rfl⟩))
    (fun os started H enc _ => lifted os started H enc)
end Go.Proofs.Ytcpfiledegnlpaa.exactIsShift
