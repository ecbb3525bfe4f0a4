/- The program's ReadRule and the model's answer alike at every string. Conditions: the listed variables of Go's library lie as its text lays them. -/
import Derived.Test.YtpolhjkjgbfdhaaDoorRows
import Derived.Test.YtpolhjkjgbfdhaaDoorRuleBoth
import Derived.Test.YtpolhjkjgbfdhaaDoorTie
import Derived.Test.YtpolhjkjgbfdhaaDoorCards
import Derived.Test.YtpolhjkjgbfdhaaDoorHandBoth
import Derived.ProofKit
import Derived.OpenShut
import Derived.LaidMore
import Derived.Lay
import Derived.SevenTiedAt
import Derived.Stop.Joined
import Derived.Stop.LaidErr
namespace Go.Proofs.YtpolhjkjgbfdhaaDoor.exactReadRule
open Go.ChangeShapes Go.WideShapes Go.ChangeAt Go.RowKit Go.Lst

set_option maxHeartbeats 4000000 in
set_option maxRecDepth 100000 in
theorem walk (x0 : ByteArray) (hw0 : x0.size ≤ maxLen) (W : World) (hT0 : LibAt W) :
    Calls Tryd.prog 8 #[.string x0] W fun e w' => e = .returned (.bool true) ∧ Below W.heap.size W w' := by
  unfold maxLen at hw0
  by_cases hbig0 : 1048576 < x0.size
  · go_enter Tryd.func8, Tryd.ntmps8
    go_wp2_with fail
    go_ret
    exact ⟨rfl, Below.refl _ _⟩
  · have hle0 : x0.size ≤ 1048576 := by omega
    clear hbig0
    obtain ⟨⟨a, b, c, d, e⟩, r1, hs, hi⟩ := readRule_both x0 (by omega)
    have HS := Lib.hid hs
    have HI := Lib.hid hi
    have HT := Lib.hid hT0
    have HQ := Lib.hid (fun w' => eqRule_yes ⟨a, b, c, d, e⟩ w')
    clear hT0 hs hi
    go_enter Tryd.func8, Tryd.ntmps8
    have T0 := Lib.hid (Below.refl W.heap.size W)
    go_wp2_with fail
    refine (HS.out W.heap.size W (Nat.le_refl _)).mono ?_
    rintro e' w1 ⟨rfl, hb1⟩
    have T1 := Lib.hid (below_on T0.out (Nat.le_refl _) hb1)
    have X1 := Lib.hid (Whole.made w1 26 #[.int .i64 a, .int .i64 b, .int .i64 c, .int .i64 d, .int .i64 e] rfl)
    have T2 := Lib.hid (below_alloc T1.out (.cells #[.int .i64 a, .int .i64 b, .int .i64 c, .int .i64 d, .int .i64 e] 26))
    clear hb1
    go_wp2_with fail
    generalize w1.alloc _ = w2 at *
    generalize w1.heap.size = b1 at *
    refine (HI.out w2.heap.size w2 (HT.out.kept T2.out) (Nat.le_refl _)).mono ?_
    rintro e' w3 ⟨rfl, hb3⟩
    have T3 := Lib.hid (below_on T2.out (Nat.le_refl _) hb3)
    have Y3 := Lib.hid ((X1.out.kept hb3).more (.cells #[.int .i64 a, .int .i64 b, .int .i64 c, .int .i64 d, .int .i64 e] 26))
    have X3 := Lib.hid (Whole.made w3 26 #[.int .i64 a, .int .i64 b, .int .i64 c, .int .i64 d, .int .i64 e] rfl)
    have T4 := Lib.hid (below_alloc T3.out (.cells #[.int .i64 a, .int .i64 b, .int .i64 c, .int .i64 d, .int .i64 e] 26))
    clear hb3 X1
    have p0 : (w3.alloc (.cells #[.int .i64 a, .int .i64 b, .int .i64 c, .int .i64 d, .int .i64 e] 26)).cell? ⟨b1, 0, none⟩ = some (.int .i64 a) := Y3.out.at_ (i := 0) rfl
    have p1 : (w3.alloc (.cells #[.int .i64 a, .int .i64 b, .int .i64 c, .int .i64 d, .int .i64 e] 26)).cell? ⟨b1, 1, none⟩ = some (.int .i64 b) := Y3.out.at_ (i := 1) rfl
    have p2 : (w3.alloc (.cells #[.int .i64 a, .int .i64 b, .int .i64 c, .int .i64 d, .int .i64 e] 26)).cell? ⟨b1, 2, none⟩ = some (.int .i64 c) := Y3.out.at_ (i := 2) rfl
    have p3 : (w3.alloc (.cells #[.int .i64 a, .int .i64 b, .int .i64 c, .int .i64 d, .int .i64 e] 26)).cell? ⟨b1, 3, none⟩ = some (.int .i64 d) := Y3.out.at_ (i := 3) rfl
    have p4 : (w3.alloc (.cells #[.int .i64 a, .int .i64 b, .int .i64 c, .int .i64 d, .int .i64 e] 26)).cell? ⟨b1, 4, none⟩ = some (.int .i64 e) := Y3.out.at_ (i := 4) rfl
    go_wp2_with fail
    refine (HQ.out _).mono ?_
    rintro e' w5 ⟨rfl, hb5⟩
    have T5 := Lib.hid (below_on T4.out (Nat.le_refl _) hb5)
    clear hb5 p0 p1 p2 p3 p4
    go_wp2_with fail
    go_ret
    exact ⟨rfl, T5.out⟩

theorem own : ownKnob Tryd.prog.godebug = none := by kernel_rfl
theorem laid : laidOutB Tryd.prog = true := by kernel_rfl
theorem tab10 {W : World} (h : laidMetH Tryd.prog Rows.fnExactReadRuleRow.laid W) : Tab10 W := by
  rw [MakeChecks.laidMetH_plain _ _ _ (by kernel_rfl)] at h
  exact Lib.tabIs_of_head (g := 3) (t := 148) (e := 134) (n := 20) (by kernel_rfl) (by kernel_rfl) Tryd.underlying148 Tryd.underlying134 (by kernel_rfl) (by kernel_rfl) (show laidMet Tryd.prog ((Rows.fnExactReadRuleRow.laid.drop 2).head! :: _) W from h.tail.tail)
theorem star : "*" ++ "errors.errorString" = "*errors.errorString" := by decide
theorem rowE (u : TypeId) (h : Tryd.prog.typeName? 3 u = some "*errors.errorString") : u = 165 := typeName_ptr_named (nm := "errors.errorString") (by rw [star]; kernel_rfl) (by kernel_rfl) (by decide) u (by rw [star]; exact h)
theorem errsAt {W : World} (h : laidMetH Tryd.prog Rows.fnExactReadRuleRow.laid W) : ErrsAt W := by
  rw [MakeChecks.laidMetH_plain _ _ _ (by kernel_rfl)] at h
  obtain ⟨a0, s0, hv0, -⟩ := laid_sentinel (show laidMet Tryd.prog (("strconv.ErrSyntax", Rows.laid_strconv_ErrSyntax) :: _) W from h.tail.tail.tail.tail.tail) Tryd.laysC174.m15 (by kernel_rfl) Tryd.underlying81 rowE Tryd.underlying165 Tryd.underlying167 rfl rfl Tryd.underlying9 (by kernel_rfl) (by kernel_rfl)
  obtain ⟨a1, s1, hv1, -⟩ := laid_sentinel (show laidMet Tryd.prog (("strconv.ErrRange", Rows.laid_strconv_ErrRange) :: _) W from h.tail.tail.tail.tail) Tryd.laysC174.m16 (by kernel_rfl) Tryd.underlying81 rowE Tryd.underlying165 Tryd.underlying167 rfl rfl Tryd.underlying9 (by kernel_rfl) (by kernel_rfl)
  have c0 := World.var?_cell Tryd.laysC174.m15 hv0 0
  have c1 := World.var?_cell Tryd.laysC174.m16 hv1 0
  exact ⟨⟨_, _, by simpa using c0⟩, _, _, by simpa using c1⟩
set_option maxRecDepth 100000 in
theorem contract (H : Type) (enc : TypeId × Value → H) (W : World) (base : Nat) (args : Array Value) (ds gs : List (DataW H)) (before : List MemPlace)
    (hval : ∀ (j : Nat) t v, Tryd.f8.params[j]? = some t → args[j]? = some v → Value.okWide Tryd.prog W .any base t v)
    (hW : DataW.Whole enc Tryd.prog Tryd.f8.params.toList Rows.fnExactReadRuleSpec.vars false W args.toList ds gs before) (hL : laidMetH Tryd.prog Rows.fnExactReadRuleRow.laid W) (hS : W.ShapedOpen Tryd.prog) :
    Calls Tryd.prog 8 args W fun e W' => ∃ v, e = .returned v ∧ Rows.fnExactReadRuleSpec.post enc Tryd.prog Tryd.f8 false true false false W args v W' := by
  have hW' := hW
  have hlt : ∀ x ∈ before, x.block < W.heap.size := fun x hx => hW'.lt x hx
  obtain ⟨p, q, hA0, hV, rfl, hfz, hnd⟩ := hW
  have hA : DataW.TrodAll enc Tryd.prog W 0 (fun _ => true) true Tryd.f8.params.toList args.toList ds p := hA0
  rw [Tryd.params8] at hA hval
  obtain ⟨v0, vs0, d0, ds0, p0, q0, hargs, rfl, rfl, h0, r0⟩ := trodAll_cons hA
  obtain ⟨rfl, rfl, rfl⟩ := trodAll_nil r0
  obtain rfl : args = #[v0] := by first | exact Array.ext' (by exact hargs) | (cases args; simp_all)
  obtain ⟨rfl, rfl⟩ := trodVars_none hV
  clear hA0
  have k0 := h0
  obtain ⟨a0, rfl, _, _, w0⟩ := Go.ChangeMaps.open_string Tryd.underlying9 (hval 0 9 v0 rfl rfl) h0
  simp only [List.append_nil] at hW' hlt
  refine (walk a0 w0 W ⟨tab10 hL, maxAt hS, errsAt hL⟩).mono fun e W' ⟨he, hb⟩ => ?_
  subst he
  exact ⟨_, rfl, Go.Lst.post_new (pv := []) hW' (fun _ _ _ => (trodAll_cons_mk (shut_bool Tryd.underlying4 _) trodAll_mk0)) (fun sp hsp => (trodAll_cons_mk (WideElems.Trod_stays laid (by kernel_rfl) (of_decide_eq_true (by kernel_rfl)) k0 (fun x hx => hb.same (hlt x (by simp [hx]))) (fun x hx => hsp x (by simp [hx]))) trodAll_mk0)) (fun _ _ => rfl) (by simp)
    hb (ok_one (by kernel_rfl) rfl (okWide_bool_mk Tryd.underlying4 _))⟩

set_option maxRecDepth 100000 in
theorem lifted (os : Os) (started : os.Started) (H : Type) (enc : TypeId × Value → H) :
    ReturnsInHanded {} Tryd.checked os 8 .any (fun w args => (Rows.fnExactReadRuleSpec.pre enc Tryd.prog Tryd.f8 Rows.fnExactReadRuleRow.domain false w args ∧ laidMetH Tryd.prog Rows.fnExactReadRuleRow.laid w) ∧ sizedMet enc Tryd.prog Tryd.f8 (OpenSpec.ofChange Rows.fnExactReadRuleSpec) false w args)
      (Rows.fnExactReadRuleSpec.post enc Tryd.prog Tryd.f8 false true false false) := by
  refine returnsInHanded_both (C := Tryd.checked) (X := fun w _ => laidMetH Tryd.prog Rows.fnExactReadRuleRow.laid w) (fun _ _ _ hh h => h.of_heap hh) own started (by kernel_rfl) Tryd.func8
    (ChangeSpec.witness_shaped (enc := enc) (C := Tryd.checked) (os := os) (X := fun w _ => laidMetH Tryd.prog Rows.fnExactReadRuleRow.laid w) false (World.laidAll Tryd.prog os Rows.fnExactReadRuleRow.laid) #[.string ⟨#[]⟩] 8 (World.laidAll_os _ _ _)
      (World.shaped_of_ZipB (by kernel_rfl) (by kernel_rfl)) (by kernel_rfl) (by kernel_rfl) (by kernel_rfl)
      (by rw [MakeChecks.laidMetH_plain _ _ _ (by kernel_rfl)]; exact laidMet_laidAll _ (by kernel_rfl) (by kernel_rfl))) ?_
  intro W base args ds gs before hval hW hL hS
  exact contract H enc W base args ds gs before hval hW hL hS

set_option maxRecDepth 100000 in
theorem holds : Rows.FnExactReadRuleSaid :=
  OpenClaim.holds_of_wide 8 Tryd.f8 rfl rfl rfl rfl rfl rfl rfl ⟨rfl, rfl, rfl, rfl, rfl⟩ rfl rfl rfl rfl rfl (by kernel_rfl) Tryd.func8 (by kernel_rfl)
    (of_decide_eq_true (by kernel_rfl)) (by unfold Func.isWrapper; first | (rw [if_pos (by decide +kernel)]; kernel_rfl) | (rw [if_neg (by decide +kernel)]; exact ⟨rfl, rfl⟩))
    (fun os started H enc _ => lifted os started H enc)
set_option maxRecDepth 100000 in
theorem proved : Rows.FnExactReadRuleCardSaid :=
  Claim7.holds_tied_plain_at .later [] [.data, .data, .data, .data, .sentinel, .sentinel, .pinned] true (true, "fe6c9ab9edf578206230e16a43b4af00a48104ef7f1e205a4c4207305310fc8b") true
    holds (fun _ h => by cases h) (by kernel_rfl) (fun _ h => by cases h) fnExactReadRule_row_tie rfl ⟨rfl, rfl⟩ (by kernel_rfl) rfl
    (fun f fn hf hfn => by
      obtain rfl : f = 8 := Option.some.inj ((show Tryd.prog.funcNamed Tryd.f8.name = some 8 by kernel_rfl).symm.trans hf) |>.symm
      obtain rfl : fn = Tryd.f8 := (Option.some.inj (Tryd.func8.symm.trans hfn)).symm
      exact ⟨by kernel_rfl, fun j t ht => by
        rw [Tryd.params8] at ht
        have hm : t ∈ [9] := by simpa using Array.mem_of_getElem? ht
        have hall : ([9].all fun u => !Tryd.prog.wantsStandIn u) = true := by kernel_rfl
        exact (show Tryd.prog.wantsStandIn t = false by simpa using List.all_eq_true.1 hall t hm)⟩)
    (by kernel_rfl)
end Go.Proofs.YtpolhjkjgbfdhaaDoor.exactReadRule
