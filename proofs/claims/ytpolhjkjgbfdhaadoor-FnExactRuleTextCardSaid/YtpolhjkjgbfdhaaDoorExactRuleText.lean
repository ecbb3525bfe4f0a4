/- The program's RuleText and the model's answer alike at every rule, and keep nothing of it. Conditions: the listed variables of Go's library lie as its text lays them. -/
import Derived.Test.YtpolhjkjgbfdhaaDoorRows
import Derived.Test.YtpolhjkjgbfdhaaDoorTie
import Derived.Test.YtpolhjkjgbfdhaaDoorCards
import Derived.Test.YtpolhjkjgbfdhaaDoorRuleText
import Derived.Test.YtpolhjkjgbfdhaaDoorNear
import Derived.ProofKit
import Derived.OpenShut
import Derived.LaidMore
import Derived.Lay
import Derived.SevenTiedAt
import Derived.Stop.Joined
import Derived.Stop.LaidErr
namespace Go.Proofs.YtpolhjkjgbfdhaaDoor.exactRuleText
open Go.ChangeShapes Go.WideShapes Go.ChangeAt Go.RowKit Go.Lst

set_option maxHeartbeats 4000000 in
set_option maxRecDepth 100000 in
theorem walk (x0 : ShiftRuleD) (hw0 : x0.wf) (W : World) (hT : Tab10 W) :
    Calls Tryd.prog 3 #[x0.agg] W fun e w' => e = .returned (.bool true) ∧ Below W.heap.size W w' := by
  have X0 := Lib.hid (Whole.made W 23 #[.int .i64 x0.Slots, .int .i64 x0.Least, .int .i64 x0.Most, .int .i64 x0.Row, .int .i64 x0.Pause] rfl)
  have B1 := Lib.hid (below_alloc (Below.refl W.heap.size W) (.cells #[.int .i64 x0.Slots, .int .i64 x0.Least, .int .i64 x0.Most, .int .i64 x0.Row, .int .i64 x0.Pause] 23))
  have hTo := Lib.hid (fun w' => toShiftRule_any x0 w')
  have hS := Lib.hid (fun w' => specRuleText_any x0 w')
  have hI := Lib.hid (fun w' (hb : Below W.heap.size W w') => ruleText_any x0 w' (hT.kept hb))
  generalize ruleR x0 = s at *
  generalize okRule x0 = q at *
  clear hw0 hT
  go_enter Tryd.func3, Tryd.ntmps3
  go_wp2_with fail
  generalize W.alloc _ = w1 at *
  refine (hTo.out w1).mono ?_
  rintro e w2 ⟨rfl, hb⟩
  have X2 := Lib.hid (X0.out.kept hb)
  have B2 := Lib.hid (below_on B1.out (Nat.le_refl _) hb)
  clear hb X0 B1
  go_wp2_with fail
  refine (hS.out w2).mono ?_
  rintro e w3 ⟨rfl, hb⟩
  have X3 := X2.out.kept hb
  have B3 := Lib.hid (below_on B2.out (Nat.le_refl _) hb)
  have c0 := X3.at_ (i := 0) rfl
  have c1 := X3.at_ (i := 1) rfl
  have c2 := X3.at_ (i := 2) rfl
  have c3 := X3.at_ (i := 3) rfl
  have c4 := X3.at_ (i := 4) rfl
  clear hb X2 B2 X3
  go_wp2_with fail
  refine (hTo.out w3).mono ?_
  rintro e w4 ⟨rfl, hb⟩
  have B4 := Lib.hid (below_on B3.out (Nat.le_refl _) hb)
  clear hb B3 c0 c1 c2 c3 c4
  go_wp2_with fail
  refine (hI.out w4 B4.out).mono ?_
  rintro e w5 ⟨rfl, hb⟩
  have B5 := Lib.hid (below_on B4.out (Nat.le_refl _) hb)
  clear hb B4
  go_wp2_with fail
  go_ret
  exact ⟨rfl, B5.out⟩

theorem own : ownKnob Tryd.prog.godebug = none := by kernel_rfl
theorem laid : laidOutB Tryd.prog = true := by kernel_rfl
theorem tab10 {W : World} (h : laidMetH Tryd.prog Rows.fnExactRuleTextRow.laid W) : Tab10 W := by
  rw [MakeChecks.laidMetH_plain _ _ _ (by kernel_rfl)] at h
  exact Lib.tabIs_of_head (g := 3) (t := 148) (e := 134) (n := 20) (by kernel_rfl) (by kernel_rfl) Tryd.underlying148 Tryd.underlying134 (by kernel_rfl) (by kernel_rfl) (show laidMet Tryd.prog ((Rows.fnExactRuleTextRow.laid.drop 2).head! :: _) W from h.tail.tail)
set_option maxRecDepth 100000 in
theorem contract (H : Type) (enc : TypeId × Value → H) (W : World) (base : Nat) (args : Array Value) (ds gs : List (DataW H)) (before : List MemPlace)
    (hval : ∀ (j : Nat) t v, Tryd.f3.params[j]? = some t → args[j]? = some v → Value.okWide Tryd.prog W .any base t v)
    (hW : DataW.Whole enc Tryd.prog Tryd.f3.params.toList Rows.fnExactRuleTextSpec.vars false W args.toList ds gs before) (hL : laidMetH Tryd.prog Rows.fnExactRuleTextRow.laid W) :
    Calls Tryd.prog 3 args W fun e W' => ∃ v, e = .returned v ∧ Rows.fnExactRuleTextSpec.post enc Tryd.prog Tryd.f3 false true false false W args v W' := by
  have hW' := hW
  have hlt : ∀ x ∈ before, x.block < W.heap.size := fun x hx => hW'.lt x hx
  obtain ⟨p, q, hA0, hV, rfl, hfz, hnd⟩ := hW
  have hA : DataW.TrodAll enc Tryd.prog W 0 (fun _ => true) true Tryd.f3.params.toList args.toList ds p := hA0
  rw [Tryd.params3] at hA hval
  obtain ⟨v0, vs0, d0, ds0, p0, q0, hargs, rfl, rfl, h0, r0⟩ := trodAll_cons hA
  obtain ⟨rfl, rfl, rfl⟩ := trodAll_nil r0
  obtain rfl : args = #[v0] := by first | exact Array.ext' (by exact hargs) | (cases args; simp_all)
  obtain ⟨rfl, rfl⟩ := trodVars_none hV
  clear hA0
  have k0 := h0
  obtain ⟨a0, rfl, w0⟩ := openAgg_ShiftRule (enc := enc) (hval 0 23 v0 rfl rfl) h0
  simp only [List.append_nil] at hW' hlt
  refine (walk a0 w0 W (tab10 hL)).mono fun e W' ⟨he, hb⟩ => ?_
  subst he
  exact ⟨_, rfl, Go.Lst.post_new (pv := []) hW' (fun _ _ _ => (trodAll_cons_mk (shut_bool Tryd.underlying4 _) trodAll_mk0)) (fun sp hsp => (trodAll_cons_mk (WideElems.Trod_stays laid (by kernel_rfl) (of_decide_eq_true (by kernel_rfl)) k0 (fun x hx => hb.same (hlt x (by simp [hx]))) (fun x hx => hsp x (by simp [hx]))) trodAll_mk0)) (fun _ _ => rfl) (by simp)
    hb (ok_one (by kernel_rfl) rfl (okWide_bool_mk Tryd.underlying4 _))⟩

set_option maxRecDepth 100000 in
theorem lifted (os : Os) (started : os.Started) (H : Type) (enc : TypeId × Value → H) :
    ReturnsInHanded {} Tryd.checked os 3 .any (fun w args => (Rows.fnExactRuleTextSpec.pre enc Tryd.prog Tryd.f3 Rows.fnExactRuleTextRow.domain false w args ∧ laidMetH Tryd.prog Rows.fnExactRuleTextRow.laid w) ∧ sizedMet enc Tryd.prog Tryd.f3 (OpenSpec.ofChange Rows.fnExactRuleTextSpec) false w args)
      (Rows.fnExactRuleTextSpec.post enc Tryd.prog Tryd.f3 false true false false) := by
  refine returnsInHanded_of_change_and (C := Tryd.checked) (X := fun w _ => laidMetH Tryd.prog Rows.fnExactRuleTextRow.laid w) (fun _ _ _ hh h => h.of_heap hh) own started (by kernel_rfl) Tryd.func3
    (ChangeSpec.witness_shaped (enc := enc) (C := Tryd.checked) (os := os) (X := fun w _ => laidMetH Tryd.prog Rows.fnExactRuleTextRow.laid w) false (World.laidAll Tryd.prog os Rows.fnExactRuleTextRow.laid) #[.agg #[.int .i64 0, .int .i64 0, .int .i64 0, .int .i64 0, .int .i64 0]] 8 (World.laidAll_os _ _ _)
      (World.shaped_of_ZipB (by kernel_rfl) (by kernel_rfl)) (by kernel_rfl) (by kernel_rfl) (by kernel_rfl)
      (by rw [MakeChecks.laidMetH_plain _ _ _ (by kernel_rfl)]; exact laidMet_laidAll _ (by kernel_rfl) (by kernel_rfl))) ?_
  intro W base args ds gs before hval hW _ _ hL _
  exact contract H enc W base args ds gs before hval hW hL

set_option maxRecDepth 100000 in
theorem holds : Rows.FnExactRuleTextSaid :=
  OpenClaim.holds_of_wide 3 Tryd.f3 rfl rfl rfl rfl rfl rfl rfl ⟨rfl, rfl, rfl, rfl, rfl⟩ rfl rfl rfl rfl rfl (by kernel_rfl) Tryd.func3 (by kernel_rfl)
    (of_decide_eq_true (by kernel_rfl)) (by unfold Func.isWrapper; first | (rw [if_pos (by decide +kernel)]; kernel_rfl) | (rw [if_neg (by decide +kernel)]; exact ⟨rfl, rfl⟩))
    (fun os started H enc _ => lifted os started H enc)
set_option maxRecDepth 100000 in
theorem proved : Rows.FnExactRuleTextCardSaid :=
  Claim7.holds_tied_plain_at .later [] [.data, .data, .data] true (true, "fe6c9ab9edf578206230e16a43b4af00a48104ef7f1e205a4c4207305310fc8b") true
    holds (fun _ h => by cases h) (by kernel_rfl) (fun _ h => by cases h) fnExactRuleText_row_tie rfl ⟨rfl, rfl⟩ (by kernel_rfl) rfl
    (fun f fn hf hfn => by
      obtain rfl : f = 3 := Option.some.inj ((show Tryd.prog.funcNamed Tryd.f3.name = some 3 by kernel_rfl).symm.trans hf) |>.symm
      obtain rfl : fn = Tryd.f3 := (Option.some.inj (Tryd.func3.symm.trans hfn)).symm
      exact ⟨by kernel_rfl, fun j t ht => by
        rw [Tryd.params3] at ht
        have hm : t ∈ [23] := by simpa using Array.mem_of_getElem? ht
        have hall : ([23].all fun u => !Tryd.prog.wantsStandIn u) = true := by kernel_rfl
        exact (show Tryd.prog.wantsStandIn t = false by simpa using List.all_eq_true.1 hall t hm)⟩)
    (by kernel_rfl)
end Go.Proofs.YtpolhjkjgbfdhaaDoor.exactRuleText
