/- The most talks at once, and when: at every argument the program answers as the model does. -/
import Derived.Test.YtehobcmjjcmfnaaRows
import Derived.Test.YtehobcmjjcmfnaaMost
import Derived.ProofKit
import Derived.OpenShut
namespace Go.Proofs.Ytehobcmjjcmfnaa.exactMostAtOnce
open Go.ChangeShapes Go.WideShapes Go.ChangeAt Go.RowKit Go.Lst

set_option maxHeartbeats 4000000 in
set_option maxRecDepth 100000 in
theorem walk (v0 : Value) (x0 : List Int) (hw0 : (∀ y ∈ x0, (Lit.int .i64 y).wf = true)) (W : World) (h0 : LstI W.heap.size W v0 x0) :
    Calls Try.prog 6 #[v0] W fun e w' => e = .returned (.bool true) ∧ Below W.heap.size W w' := by
  obtain ⟨r0, r1, r2, hs, hi⟩ := mostAtOnce_both x0 hw0
  have HS := Lib.hid hs
  have HI := Lib.hid hi
  clear hs hi hw0 
  obtain ⟨a0, cap0, hv0, hl0, -⟩ := id h0
  subst hv0
  have hL0 := Lib.hid h0
  clear h0
  generalize hn0 : x0.length = n0 at *
  have hN0 := Lib.hid hn0
  clear hn0
  unfold maxLen at hl0
  by_cases hbig0 : 1048576 < n0
  · go_enter Try.func6, Try.ntmps6
    go_wp2_with fail
    go_ret
    exact ⟨rfl, Below.refl _ _⟩
  · have hle0 : n0 ≤ 1048576 := by omega
    clear hbig0
    have hle_0 := Lib.hid (show x0.length ≤ 1048576 by have := hN0.out; omega)
    go_enter Try.func6, Try.ntmps6
    have T0 := Lib.hid (Below.refl W.heap.size W)
    go_wp2_with fail
    skip
    refine (copiedI W.heap.size _ x0 W (hL0.out.below T0.out (Nat.le_refl _)) T0.out.size hle_0.out).mono ?_
    rintro e w1 ⟨u1, rfl, ho1, hb1⟩
    have P1 := Lib.hid ho1
    clear ho1
    have S1 := Lib.hid hb1
    clear hb1
    have T1 := Lib.hid (below_on T0.out (Nat.le_refl _) S1.out)
    go_wp2_with fail
    skip
    refine (HS.out w1.heap.size _ w1  (P1.out.lstI (Nat.le_refl _)) (Nat.le_refl _)).mono ?_
    rintro e w2 ⟨rfl, hb2⟩
    have S2 := Lib.hid hb2
    clear hb2
    have T2 := Lib.hid (below_on T1.out (Nat.le_refl _) S2.out)
    have O1 := Lib.hid (P1.out.below S2.out (Nat.le_refl _))
    clear P1
    go_wp2_with fail
    skip
    refine (copiedI W.heap.size _ x0 w2 (hL0.out.below T2.out (Nat.le_refl _)) T2.out.size hle_0.out).mono ?_
    rintro e w3 ⟨u3, rfl, ho3, hb3⟩
    have P3 := Lib.hid ho3
    clear ho3
    have S3 := Lib.hid hb3
    clear hb3
    have T3 := Lib.hid (below_on T2.out (Nat.le_refl _) S3.out)
    have O2 := Lib.hid (O1.out.below S3.out S2.out.size)
    clear O1
    go_wp2_with fail
    skip
    refine (HI.out w3.heap.size _ w3  (P3.out.lstI (Nat.le_refl _)) (Nat.le_refl _)).mono ?_
    rintro e w4 ⟨rfl, hb4⟩
    have S4 := Lib.hid hb4
    clear hb4
    have T4 := Lib.hid (below_on T3.out (Nat.le_refl _) S4.out)
    have O3 := Lib.hid (O2.out.below S4.out (Nat.le_trans S2.out.size S3.out.size))
    clear O2
    have O4 := Lib.hid (P3.out.below S4.out (Nat.le_refl _))
    clear P3
    go_wp2_with fail
    skip
    refine (copiedI W.heap.size _ x0 w4 (hL0.out.below T4.out (Nat.le_refl _)) T4.out.size hle_0.out).mono ?_
    rintro e w5 ⟨u5, rfl, ho5, hb5⟩
    have P5 := Lib.hid ho5
    clear ho5
    have S5 := Lib.hid hb5
    clear hb5
    have T5 := Lib.hid (below_on T4.out (Nat.le_refl _) S5.out)
    have O5 := Lib.hid (O3.out.below S5.out (Nat.le_trans S2.out.size (Nat.le_trans S3.out.size S4.out.size)))
    clear O3
    have O6 := Lib.hid (O4.out.below S5.out S4.out.size)
    clear O4
    go_wp2_with fail
    skip
    refine (eqInt64S_yes w5.heap.size _ _ x0 w5 (O6.out.lstI (Nat.le_trans S4.out.size S5.out.size)) (P5.out.lstI (Nat.le_refl _))).mono ?_
    rintro e w6 ⟨m6, rfl, hw6⟩
    have hb6 : Below w5.heap.size w5 w6 := by rw [hw6]; exact below_drawn _ _
    clear hw6
    have S6 := Lib.hid hb6
    clear hb6
    have T6 := Lib.hid (below_on T5.out (Nat.le_refl _) S6.out)
    have O7 := Lib.hid (O5.out.below S6.out (Nat.le_trans S2.out.size (Nat.le_trans S3.out.size (Nat.le_trans S4.out.size S5.out.size))))
    clear O5
    have O8 := Lib.hid (O6.out.below S6.out (Nat.le_trans S4.out.size S5.out.size))
    clear O6
    have O9 := Lib.hid (P5.out.below S6.out (Nat.le_refl _))
    clear P5
    go_wp2_with fail
    go_ret
    exact ⟨rfl, T6.out⟩

theorem own : ownKnob Try.prog.godebug = none := by kernel_rfl
theorem laid : laidOutB Try.prog = true := by kernel_rfl
theorem cells0 : Try.prog.cellsOf 2 = 1 := by kernel_rfl

set_option maxRecDepth 100000 in
theorem contract (H : Type) (enc : TypeId × Value → H) (W : World) (base : Nat) (args : Array Value) (ds gs : List (DataW H)) (before : List MemPlace)
    (hval : ∀ (j : Nat) t v, Try.f6.params[j]? = some t → args[j]? = some v → Value.okWide Try.prog W .any base t v)
    (hW : DataW.Whole enc Try.prog Try.f6.params.toList Rows.fnExactMostAtOnceSpec.vars false W args.toList ds gs before) :
    Calls Try.prog 6 args W fun e W' => ∃ v, e = .returned v ∧ Rows.fnExactMostAtOnceSpec.post enc Try.prog Try.f6 false true false false W args v W' := by
  have hW' := hW
  have hlt : ∀ x ∈ before, x.block < W.heap.size := fun x hx => hW'.lt x hx
  obtain ⟨p, q, hA0, hV, rfl, hfz, hnd⟩ := hW
  have hA : DataW.TrodAll enc Try.prog W 0 (fun _ => true) true Try.f6.params.toList args.toList ds p := hA0
  rw [Try.params6] at hA hval
  obtain ⟨v0, vs0, d0, ds0, p0, q0, hargs, rfl, rfl, h0, r0⟩ := trodAll_cons hA
  obtain ⟨rfl, rfl, rfl⟩ := trodAll_nil r0
  obtain rfl : args = #[v0] := by first | exact Array.ext' (by exact hargs) | (cases args; simp_all)
  obtain ⟨rfl, rfl⟩ := trodVars_none hV
  clear hA0
  have k0 := h0
  obtain ⟨a0, L0, w0⟩ := Go.Lst.open_intsI Try.underlying22 Try.underlying2 cells0 (hval 0 22 v0 rfl rfl) h0
  simp only [List.append_nil] at hW' hlt
  refine (walk v0 a0 w0 W L0).mono fun e W' ⟨he, hb⟩ => ?_
  subst he
  exact ⟨_, rfl, Go.Lst.post_new (pv := []) hW' (fun _ _ _ => (trodAll_cons_mk (shut_bool Try.underlying4 _) trodAll_mk0)) (fun sp hsp => (trodAll_cons_mk (WideElems.Trod_stays laid (by kernel_rfl) (of_decide_eq_true (by kernel_rfl)) k0 (fun x hx => hb.same (hlt x (by simp [hx]))) (fun x hx => hsp x (by simp [hx]))) trodAll_mk0)) (fun _ _ => rfl) (by simp)
    hb (ok_one (by kernel_rfl) rfl (okWide_bool_mk Try.underlying4 _))⟩

set_option maxRecDepth 100000 in
theorem lifted (os : Os) (started : os.Started) (H : Type) (enc : TypeId × Value → H) :
    ReturnsInHanded {} Try.checked os 6 .any (Rows.fnExactMostAtOnceSpec.pre6 enc Try.prog Try.f6 Rows.fnExactMostAtOnceRow.domain false) (Rows.fnExactMostAtOnceSpec.post enc Try.prog Try.f6 false true false false) := by
  refine returnsInHanded_of_change (C := Try.checked) own started (by kernel_rfl) Try.func6
    (ChangeSpec.witness6 (enc := enc) (C := Try.checked) false ⟨#[], #[.slice none 0 0], []⟩ 8 (by kernel_rfl) (by kernel_rfl) (by kernel_rfl) (by kernel_rfl)) ?_
  intro W base args ds gs before hval hW _ _
  exact contract H enc W base args ds gs before hval hW

set_option maxRecDepth 100000 in
theorem proved : Rows.FnExactMostAtOnceSaid :=
  OpenClaim.holds_of_wide 6 Try.f6 rfl rfl rfl rfl rfl rfl rfl ⟨rfl, rfl, rfl, rfl, rfl⟩ rfl rfl rfl rfl rfl (by kernel_rfl) Try.func6 (by kernel_rfl)
    (of_decide_eq_true (by kernel_rfl)) (by unfold Func.isWrapper; first | (rw [if_pos (by decide +kernel)]; kernel_rfl) | (rw [if_neg (by decide +kernel)]; exact ⟨rfl, rfl⟩))
    (fun os started H enc _ => lifted os started H enc)
end Go.Proofs.Ytehobcmjjcmfnaa.exactMostAtOnce
