/- The program's SameRule and the model's answer alike at every argument, and keep nothing of it. -/
import Derived.Test.YtcpfiledegnlpaaRows
import Derived.Test.YtcpfiledegnlpaaShiftRule
import Derived.Test.YtcpfiledegnlpaaNear
import Derived.ProofKit
import Derived.OpenShut
namespace Go.Proofs.Ytcpfiledegnlpaa.exactSameRule
open Go.ChangeShapes Go.WideShapes Go.ChangeAt Go.RowKit Go.Lst

set_option maxHeartbeats 4000000 in
set_option maxRecDepth 100000 in
theorem walk (x0 : ShiftRuleD) (hw0 : x0.wf) (x1 : ShiftRuleD) (hw1 : x1.wf) (W : World)  :
    Calls Try.prog 9 #[x0.agg, x1.agg] W fun e w' => e = .returned (.bool true) ∧ Below W.heap.size W w' := by
  obtain ⟨r0, hs, hi⟩ := sameRule_both x0 x1 hw0 hw1
  have HS := Lib.hid hs
  have HI := Lib.hid hi
  clear hs hi hw0 hw1 
  go_enter Try.func9, Try.ntmps9
  have BX0 := Whole.made W 45 x0.cells rfl
  have BX1 := Whole.made (W.alloc (.cells (x0.cells) 45)) 45 x1.cells rfl
  replace BX0 := BX0.more (.cells (x1.cells) 45)
  have T0 := Lib.hid (below_alloc (below_alloc (Below.refl W.heap.size W) (.cells (x0.cells) 45)) (.cells (x1.cells) 45))
  have HX0 := Lib.hid BX0
  clear BX0
  have HX1 := Lib.hid BX1
  clear BX1
  have U0 := Lib.hid (Below.refl ((W.alloc (.cells (x0.cells) 45)).alloc (.cells (x1.cells) 45)).heap.size ((W.alloc (.cells (x0.cells) 45)).alloc (.cells (x1.cells) 45)))
  unfold ShiftRuleD.cells at T0 U0 HX0 HX1
  rw [World.size_alloc] at HX1
  go_wp2_with fail
  generalize ((W.alloc (.cells #[.int .i64 x0.Slots, .int .i64 x0.Least, .int .i64 x0.Most, .int .i64 x0.Row, .int .i64 x0.Pause] 45)).alloc (.cells #[.int .i64 x1.Slots, .int .i64 x1.Least, .int .i64 x1.Most, .int .i64 x1.Row, .int .i64 x1.Pause] 45)) = w0 at *
  have HX0 := HX0.out
  have HX1 := HX1.out
  have c1_0_0 := near_cell (HX0.at_ (i := 0) rfl)
  have c1_0_1 := near_cell (HX0.at_ (i := 1) rfl)
  have c1_0_2 := near_cell (HX0.at_ (i := 2) rfl)
  have c1_0_3 := near_cell (HX0.at_ (i := 3) rfl)
  have c1_0_4 := near_cell (HX0.at_ (i := 4) rfl)
  have c1_1_0 := near_cell (HX1.at_ (i := 0) rfl)
  have c1_1_1 := near_cell (HX1.at_ (i := 1) rfl)
  have c1_1_2 := near_cell (HX1.at_ (i := 2) rfl)
  have c1_1_3 := near_cell (HX1.at_ (i := 3) rfl)
  have c1_1_4 := near_cell (HX1.at_ (i := 4) rfl)
  have hT1 := Lib.hid (fun (p : Near w0.heap.size w0) (x : ShiftRuleD) => toShiftRule_any x p.at_)
  have hS1 := Lib.hid (fun (p : Near w0.heap.size w0) => HS.out p.at_.heap.size p.at_ (Nat.le_refl _))
  refine wp_region_near (by kernel_rfl) (by kernel_rfl) ?_
  repeat (go_big_quiet_step (first | (go_at_call 35; with_reducible exact near_of (Nat.le_refl _) (hT1.out _ _)) | (go_at_call 37; with_reducible exact near_of (Nat.le_refl _) (hS1.out _))))
  refine wpQuiet_nil ?_
  rintro _ ⟨p1, rfl⟩
  clear c1_0_0 c1_0_1 c1_0_2 c1_0_3 c1_0_4 c1_1_0 c1_1_1 c1_1_2 c1_1_3 c1_1_4
  have T1 := Lib.hid (below_on T0.out (Nat.le_refl _) p1.below)
  have HX0b := HX0.below p1.below HX0.size
  have HX1b := HX1.below p1.below HX1.size
  generalize p1.at_ = w1 at *
  go_wp2_with fail
  have c2_0_0 := near_cell (HX0b.at_ (i := 0) rfl)
  have c2_0_1 := near_cell (HX0b.at_ (i := 1) rfl)
  have c2_0_2 := near_cell (HX0b.at_ (i := 2) rfl)
  have c2_0_3 := near_cell (HX0b.at_ (i := 3) rfl)
  have c2_0_4 := near_cell (HX0b.at_ (i := 4) rfl)
  have c2_1_0 := near_cell (HX1b.at_ (i := 0) rfl)
  have c2_1_1 := near_cell (HX1b.at_ (i := 1) rfl)
  have c2_1_2 := near_cell (HX1b.at_ (i := 2) rfl)
  have c2_1_3 := near_cell (HX1b.at_ (i := 3) rfl)
  have c2_1_4 := near_cell (HX1b.at_ (i := 4) rfl)
  have hT2 := Lib.hid (fun (p : Near w1.heap.size w1) (x : ShiftRuleD) => toShiftRule_any x p.at_)
  have hS2 := Lib.hid (fun (p : Near w1.heap.size w1) => HI.out p.at_.heap.size p.at_ (Nat.le_refl _))
  refine wp_region_near (by kernel_rfl) (by kernel_rfl) ?_
  repeat (go_big_quiet_step (first | (go_at_call 35; with_reducible exact near_of (Nat.le_refl _) (hT2.out _ _)) | (go_at_call 38; with_reducible exact near_of (Nat.le_refl _) (hS2.out _))))
  refine wpQuiet_nil ?_
  rintro _ ⟨p2, rfl⟩
  clear c2_0_0 c2_0_1 c2_0_2 c2_0_3 c2_0_4 c2_1_0 c2_1_1 c2_1_2 c2_1_3 c2_1_4
  have T2 := Lib.hid (below_on T1.out (Nat.le_refl _) p2.below)
  generalize p2.at_ = w2 at *
  go_wp2_with fail
  go_ret
  exact ⟨rfl, T2.out⟩

theorem own : ownKnob Try.prog.godebug = none := by kernel_rfl
theorem laid : laidOutB Try.prog = true := by kernel_rfl

set_option maxRecDepth 100000 in
theorem contract (H : Type) (enc : TypeId × Value → H) (W : World) (base : Nat) (args : Array Value) (ds gs : List (DataW H)) (before : List MemPlace)
    (hval : ∀ (j : Nat) t v, Try.f9.params[j]? = some t → args[j]? = some v → Value.okWide Try.prog W .any base t v)
    (hW : DataW.Whole enc Try.prog Try.f9.params.toList Rows.fnExactSameRuleSpec.vars false W args.toList ds gs before) :
    Calls Try.prog 9 args W fun e W' => ∃ v, e = .returned v ∧ Rows.fnExactSameRuleSpec.post enc Try.prog Try.f9 false true false false W args v W' := by
  have hW' := hW
  have hlt : ∀ x ∈ before, x.block < W.heap.size := fun x hx => hW'.lt x hx
  obtain ⟨p, q, hA0, hV, rfl, hfz, hnd⟩ := hW
  have hA : DataW.TrodAll enc Try.prog W 0 (fun _ => true) true Try.f9.params.toList args.toList ds p := hA0
  rw [Try.params9] at hA hval
  obtain ⟨v0, vs0, d0, ds0, p0, q0, hargs, rfl, rfl, h0, r0⟩ := trodAll_cons hA
  obtain ⟨v1, vs1, d1, ds1, p1, q1, rfl, rfl, rfl, h1, r1⟩ := trodAll_cons r0
  obtain ⟨rfl, rfl, rfl⟩ := trodAll_nil r1
  obtain rfl : args = #[v0, v1] := by first | exact Array.ext' (by exact hargs) | (cases args; simp_all)
  obtain ⟨rfl, rfl⟩ := trodVars_none hV
  clear hA0
  have k0 := h0
  have k1 := h1
  obtain ⟨a0, rfl, w0⟩ := openAgg_ShiftRule (enc := enc) (hval 0 45 v0 rfl rfl) h0
  obtain ⟨a1, rfl, w1⟩ := openAgg_ShiftRule (enc := enc) (hval 1 45 v1 rfl rfl) h1
  simp only [List.append_nil] at hW' hlt
  refine (walk a0 w0 a1 w1 W).mono fun e W' ⟨he, hb⟩ => ?_
  subst he
  exact ⟨_, rfl, Go.Lst.post_new (pv := []) hW' (fun _ _ _ => (trodAll_cons_mk (shut_bool Try.underlying4 _) trodAll_mk0)) (fun sp hsp => (trodAll_cons_mk (WideElems.Trod_stays laid (by kernel_rfl) (of_decide_eq_true (by kernel_rfl)) k0 (fun x hx => hb.same (hlt x (by simp [hx]))) (fun x hx => hsp x (by simp [hx]))) (trodAll_cons_mk (WideElems.Trod_stays laid (by kernel_rfl) (of_decide_eq_true (by kernel_rfl)) k1 (fun x hx => hb.same (hlt x (by simp [hx]))) (fun x hx => hsp x (by simp [hx]))) trodAll_mk0))) (fun _ _ => rfl) (by simp)
    hb (ok_one (by kernel_rfl) rfl (okWide_bool_mk Try.underlying4 _))⟩

set_option maxRecDepth 100000 in
theorem lifted (os : Os) (started : os.Started) (H : Type) (enc : TypeId × Value → H) :
    ReturnsInHanded {} Try.checked os 9 .any (Rows.fnExactSameRuleSpec.pre6 enc Try.prog Try.f9 Rows.fnExactSameRuleRow.domain false) (Rows.fnExactSameRuleSpec.post enc Try.prog Try.f9 false true false false) := by
  refine returnsInHanded_of_change (C := Try.checked) own started (by kernel_rfl) Try.func9
    (ChangeSpec.witness6 (enc := enc) (C := Try.checked) false ⟨#[], #[.agg #[.int .i64 0, .int .i64 0, .int .i64 0, .int .i64 0, .int .i64 0], .agg #[.int .i64 0, .int .i64 0, .int .i64 0, .int .i64 0, .int .i64 0]], []⟩ 8 (by kernel_rfl) (by kernel_rfl) (by kernel_rfl) (by kernel_rfl)) ?_
  intro W base args ds gs before hval hW _ _
  exact contract H enc W base args ds gs before hval hW

set_option maxRecDepth 100000 in
theorem proved : Rows.FnExactSameRuleSaid :=
  OpenClaim.holds_of_wide 9 Try.f9 rfl rfl rfl rfl rfl rfl rfl ⟨rfl, rfl, rfl, rfl, rfl⟩ rfl rfl rfl rfl rfl (by kernel_rfl) Try.func9 (by kernel_rfl)
    (of_decide_eq_true (by kernel_rfl)) (by unfold Func.isWrapper; first | (rw [if_pos (by decide +kernel)]; kernel_rfl) | (rw [if_neg (by decide +kernel)]; exact ⟨rfl, rfl⟩))
    (fun os started H enc _ => lifted os started H enc)
end Go.Proofs.Ytcpfiledegnlpaa.exactSameRule
