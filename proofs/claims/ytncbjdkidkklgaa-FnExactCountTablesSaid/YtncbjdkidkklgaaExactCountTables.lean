/- The law on CountTables: the program answers as its model. -/
import Derived.Test.YtncbjdkidkklgaaRows
import Derived.Test.YtncbjdkidkklgaaTabBoth
import Derived.ProofKit
import Derived.OpenShut
namespace Go.Proofs.Ytncbjdkidkklgaa.exactCountTables
open Go.ChangeShapes Go.WideShapes Go.ChangeAt Go.RowKit Go.Lst

set_option maxHeartbeats 4000000 in
set_option maxRecDepth 100000 in
theorem walk (x0 : Int) (hw0 : (Lit.int .i64 x0).wf = true) (v1 : Value) (x1 : List RuleD) (hw1 : (∀ y ∈ x1, y.wf)) (x2 : Int) (hw2 : (Lit.int .i64 x2).wf = true) (W : World) (h1 : LstRule W.heap.size W v1 x1) :
    Calls Try.prog 4 #[.int .i64 x0, v1, .int .i64 x2] W fun e w' => e = .returned (.bool true) ∧ Below W.heap.size W w' := by
  obtain ⟨r0, r1, hs, hi⟩ := countTables_both x0 x1 x2 hw0 hw1 hw2
  have HS := Lib.hid hs
  have HI := Lib.hid hi
  clear hs hi hw0 hw1 hw2 
  obtain ⟨a1, cap1, hv1, hl1, -⟩ := id h1
  subst hv1
  have hL1 := Lib.hid h1
  clear h1
  generalize hn1 : x1.length = n1 at *
  have hN1 := Lib.hid hn1
  clear hn1
  unfold maxLen at hl1
  by_cases hbig0 : 1048576 < n1
  · go_enter Try.func4, Try.ntmps4
    go_wp2_with fail
    refine (szRuleS_over _ _ _ _ _ (by omega) (by omega) (by omega)).mono ?_
    rintro e w0 ⟨rfl, rfl⟩
    go_wp2_with fail
    go_ret
    exact ⟨rfl, Below.refl _ _⟩
  · have hle0 : n1 ≤ 1048576 := by omega
    clear hbig0
    have hle_1 := Lib.hid (show x1.length ≤ 1048576 by have := hN1.out; omega)
    go_enter Try.func4, Try.ntmps4
    go_wp2_with fail
    refine (szRuleS_fits _ _ _ _ _ (by omega) (by omega) (by omega)).mono ?_
    rintro e w0 ⟨rfl, rfl⟩
    have T0 := Lib.hid (Below.refl W.heap.size W)
    go_wp2_with fail
    skip
    refine (copiedRule W.heap.size _ x1 W (hL1.out.below T0.out (Nat.le_refl _)) T0.out.size hle_1.out).mono ?_
    rintro e w1 ⟨u1, rfl, ho1, hb1⟩
    have P1 := Lib.hid ho1
    clear ho1
    have S1 := Lib.hid hb1
    clear hb1
    have T1 := Lib.hid (below_on T0.out (Nat.le_refl _) S1.out)
    go_wp2_with fail
    skip
    refine (HS.out w1.heap.size _ w1  (P1.out.lstK (Nat.le_refl _)) (Nat.le_refl _)).mono ?_
    rintro e w2 ⟨rfl, hb2⟩
    have S2 := Lib.hid hb2
    clear hb2
    have T2 := Lib.hid (below_on T1.out (Nat.le_refl _) S2.out)
    have O1 := Lib.hid (P1.out.below S2.out (Nat.le_refl _))
    clear P1
    go_wp2_with fail
    skip
    refine (copiedRule W.heap.size _ x1 w2 (hL1.out.below T2.out (Nat.le_refl _)) T2.out.size hle_1.out).mono ?_
    rintro e w3 ⟨u3, rfl, ho3, hb3⟩
    have P3 := Lib.hid ho3
    clear ho3
    have S3 := Lib.hid hb3
    clear hb3
    have T3 := Lib.hid (below_on T2.out (Nat.le_refl _) S3.out)
    have O2 := Lib.hid (O1.out.below S3.out S2.out.size)
    clear O1
    go_wp2_with fail
    skip
    refine (HI.out w3.heap.size _ w3  (P3.out.lstK (Nat.le_refl _)) (Nat.le_refl _)).mono ?_
    rintro e w4 ⟨rfl, hb4⟩
    have S4 := Lib.hid hb4
    clear hb4
    have T4 := Lib.hid (below_on T3.out (Nat.le_refl _) S4.out)
    have O3 := Lib.hid (O2.out.below S4.out (Nat.le_trans S2.out.size S3.out.size))
    clear O2
    have O4 := Lib.hid (P3.out.below S4.out (Nat.le_refl _))
    clear P3
    go_wp2_with fail
    skip
    refine (copiedRule W.heap.size _ x1 w4 (hL1.out.below T4.out (Nat.le_refl _)) T4.out.size hle_1.out).mono ?_
    rintro e w5 ⟨u5, rfl, ho5, hb5⟩
    have P5 := Lib.hid ho5
    clear ho5
    have S5 := Lib.hid hb5
    clear hb5
    have T5 := Lib.hid (below_on T4.out (Nat.le_refl _) S5.out)
    have O5 := Lib.hid (O3.out.below S5.out (Nat.le_trans S2.out.size (Nat.le_trans S3.out.size S4.out.size)))
    clear O3
    have O6 := Lib.hid (O4.out.below S5.out S4.out.size)
    clear O4
    go_wp2_with fail
    skip
    refine (eqRuleS_yes w5.heap.size _ _ x1 w5 (O6.out.lstK (Nat.le_trans S4.out.size S5.out.size)) (P5.out.lstK (Nat.le_refl _))).mono ?_
    rintro e w6 ⟨rfl, hb6⟩
    have S6 := Lib.hid hb6
    clear hb6
    have T6 := Lib.hid (below_on T5.out (Nat.le_refl _) S6.out)
    have O7 := Lib.hid (O5.out.below S6.out (Nat.le_trans S2.out.size (Nat.le_trans S3.out.size (Nat.le_trans S4.out.size S5.out.size))))
    clear O5
    have O8 := Lib.hid (O6.out.below S6.out (Nat.le_trans S4.out.size S5.out.size))
    clear O6
    have O9 := Lib.hid (P5.out.below S6.out (Nat.le_refl _))
    clear P5
    go_wp2_with fail
    go_ret
    exact ⟨rfl, T6.out⟩

theorem own : ownKnob Try.prog.godebug = none := by kernel_rfl
theorem laid : laidOutB Try.prog = true := by kernel_rfl

set_option maxRecDepth 100000 in
theorem contract (H : Type) (enc : TypeId × Value → H) (W : World) (base : Nat) (args : Array Value) (ds gs : List (DataW H)) (before : List MemPlace)
    (hval : ∀ (j : Nat) t v, Try.f4.params[j]? = some t → args[j]? = some v → Value.okWide Try.prog W .any base t v)
    (hW : DataW.Whole enc Try.prog Try.f4.params.toList Rows.fnExactCountTablesSpec.vars false W args.toList ds gs before) :
    Calls Try.prog 4 args W fun e W' => ∃ v, e = .returned v ∧ Rows.fnExactCountTablesSpec.post enc Try.prog Try.f4 false true false false W args v W' := by
  have hW' := hW
  have hlt : ∀ x ∈ before, x.block < W.heap.size := fun x hx => hW'.lt x hx
  obtain ⟨p, q, hA0, hV, rfl, hfz, hnd⟩ := hW
  have hA : DataW.TrodAll enc Try.prog W 0 (fun _ => true) true Try.f4.params.toList args.toList ds p := hA0
  rw [Try.params4] at hA hval
  obtain ⟨v0, vs0, d0, ds0, p0, q0, hargs, rfl, rfl, h0, r0⟩ := trodAll_cons hA
  obtain ⟨v1, vs1, d1, ds1, p1, q1, rfl, rfl, rfl, h1, r1⟩ := trodAll_cons r0
  obtain ⟨v2, vs2, d2, ds2, p2, q2, rfl, rfl, rfl, h2, r2⟩ := trodAll_cons r1
  obtain ⟨rfl, rfl, rfl⟩ := trodAll_nil r2
  obtain rfl : args = #[v0, v1, v2] := by first | exact Array.ext' (by exact hargs) | (cases args; simp_all)
  obtain ⟨rfl, rfl⟩ := trodVars_none hV
  clear hA0
  have k0 := h0
  have k1 := h1
  have k2 := h2
  obtain ⟨a0, rfl, _, _, w0⟩ := open_int Try.underlying2 (hval 0 2 v0 rfl rfl) h0
  obtain ⟨a1, L1, w1⟩ := openRow_Rule (enc := enc) (hval 1 22 v1 rfl rfl) h1
  obtain ⟨a2, rfl, _, _, w2⟩ := open_int Try.underlying2 (hval 2 2 v2 rfl rfl) h2
  simp only [List.append_nil] at hW' hlt
  refine (walk a0 w0 v1 a1 w1 a2 w2 W L1).mono fun e W' ⟨he, hb⟩ => ?_
  subst he
  exact ⟨_, rfl, Go.Lst.post_new (pv := []) hW' (fun _ _ _ => (trodAll_cons_mk (shut_bool Try.underlying4 _) trodAll_mk0)) (fun sp hsp => (trodAll_cons_mk (WideElems.Trod_stays laid (by kernel_rfl) (of_decide_eq_true (by kernel_rfl)) k0 (fun x hx => hb.same (hlt x (by simp [hx]))) (fun x hx => hsp x (by simp [hx]))) (trodAll_cons_mk (WideElems.Trod_stays laid (by kernel_rfl) (of_decide_eq_true (by kernel_rfl)) k1 (fun x hx => hb.same (hlt x (by simp [hx]))) (fun x hx => hsp x (by simp [hx]))) (trodAll_cons_mk (WideElems.Trod_stays laid (by kernel_rfl) (of_decide_eq_true (by kernel_rfl)) k2 (fun x hx => hb.same (hlt x (by simp [hx]))) (fun x hx => hsp x (by simp [hx]))) trodAll_mk0)))) (fun _ _ => rfl) (by simp)
    hb (ok_one (by kernel_rfl) rfl (okWide_bool_mk Try.underlying4 _))⟩

set_option maxRecDepth 100000 in
theorem lifted (os : Os) (started : os.Started) (H : Type) (enc : TypeId × Value → H) :
    ReturnsInHanded {} Try.checked os 4 .any (Rows.fnExactCountTablesSpec.pre6 enc Try.prog Try.f4 Rows.fnExactCountTablesRow.domain false) (Rows.fnExactCountTablesSpec.post enc Try.prog Try.f4 false true false false) := by
  refine returnsInHanded_of_change (C := Try.checked) own started (by kernel_rfl) Try.func4
    (ChangeSpec.witness6 (enc := enc) (C := Try.checked) false ⟨#[], #[.int .i64 0, .slice none 0 0, .int .i64 0], []⟩ 8 (by kernel_rfl) (by kernel_rfl) (by kernel_rfl) (by kernel_rfl)) ?_
  intro W base args ds gs before hval hW _ _
  exact contract H enc W base args ds gs before hval hW

set_option maxRecDepth 100000 in
theorem proved : Rows.FnExactCountTablesSaid :=
  OpenClaim.holds_of_wide 4 Try.f4 rfl rfl rfl rfl rfl rfl rfl ⟨rfl, rfl, rfl, rfl, rfl⟩ rfl rfl rfl rfl rfl (by kernel_rfl) Try.func4 (by kernel_rfl)
    (of_decide_eq_true (by kernel_rfl)) (by unfold Func.isWrapper; first | (rw [if_pos (by decide +kernel)]; kernel_rfl) | (rw [if_neg (by decide +kernel)]; exact ⟨rfl, rfl⟩))
    (fun os started H enc _ => lifted os started H enc)
end Go.Proofs.Ytncbjdkidkklgaa.exactCountTables
