/- The points of the unit circle: at every argument the program answers as the model does. -/
import Derived.Test.YtjpmliigepegaaaRows
import Derived.Test.YtjpmliigepegaaaPhasor
import Derived.Test.YtjpmliigepegaaaCplx
import Derived.ProofKit
import Derived.OpenShut
namespace Go.Proofs.Ytjpmliigepegaaa.exactPhasorOf
open Go.ChangeShapes Go.WideShapes Go.ChangeAt Go.RowKit Go.Lst FloatKit

set_option maxHeartbeats 4000000 in
set_option maxRecDepth 100000 in
theorem walk (x0 : Nat) (hw0 : (Lit.float .f64 x0).wf = true) (W : World)  :
    Calls Try.prog 3 #[.float .f64 x0] W fun e w' => e = .returned (.bool true) ∧ Below W.heap.size W w' := by
  obtain ⟨r0, i0, hs, hi⟩ := phasorOf_both x0 hw0
  have HS := Lib.hid hs
  have HI := Lib.hid hi
  clear hs hi hw0 
  go_enter Try.func3, Try.ntmps3
  have T0 := Lib.hid (Below.refl W.heap.size W)
  go_wp2_with fail
  skip
  refine (HS.out W.heap.size  W   (Nat.le_refl _)).mono ?_
  rintro e w1 ⟨z1, y1, rfl, hz1, hy1, hb1⟩
  have E1 := Lib.hid hz1
  have F1 := Lib.hid hy1
  clear hz1 hy1
  have S1 := Lib.hid hb1
  clear hb1
  have T1 := Lib.hid (below_on T0.out (Nat.le_refl _) S1.out)
  go_wp2_with fail
  skip
  refine (HI.out w1.heap.size  w1   (Nat.le_refl _)).mono ?_
  rintro e w2 ⟨z2, y2, rfl, hz2, hy2, hb2⟩
  have E2 := Lib.hid hz2
  have F2 := Lib.hid hy2
  clear hz2 hy2
  have S2 := Lib.hid hb2
  clear hb2
  have T2 := Lib.hid (below_on T1.out (Nat.le_refl _) S2.out)
  have E3 := Lib.hid (E2.out.trans E1.out.symm)
  have F3 := Lib.hid (F2.out.trans F1.out.symm)
  go_wp2_with (first | (refine wpList_widenC rfl _ _ _ rfl c64_some Try.underlying26 z2 y2 rfl ?_; intro r i k hr hi; have hR := Lib.hid hr; have hJ := Lib.hid hi; clear hr hi) | (refine wpList_widenC rfl _ _ _ rfl c64_some Try.underlying26 z1 y1 rfl ?_; intro r' i' k' hr hi; have hR' := Lib.hid hr; have hJ' := Lib.hid hi; clear hr hi) | (go_at_call 6; refine (sameComplex_eqv _ _ _ _ (by exact Wid.eqv hR.out hR'.out E3.out) (by exact Wid.eqv hJ.out hJ'.out F3.out) _).mono ?_; rintro e w' ⟨m, rfl, rfl⟩))
  generalize hw3 : w2.drewN _ = w3
  have hb3 : Below w2.heap.size w2 w3 := by rw [← hw3]; exact below_drawn _ _
  clear hw3
  have S3 := Lib.hid hb3
  clear hb3
  have T3 := Lib.hid (below_on T2.out (Nat.le_refl _) S3.out)
  go_wp2_with fail
  go_ret
  exact ⟨rfl, T3.out⟩

theorem own : ownKnob Try.prog.godebug = none := by kernel_rfl
theorem laid : laidOutB Try.prog = true := by kernel_rfl

set_option maxRecDepth 100000 in
theorem contract (H : Type) (enc : TypeId × Value → H) (W : World) (base : Nat) (args : Array Value) (ds gs : List (DataW H)) (before : List MemPlace)
    (hval : ∀ (j : Nat) t v, Try.f3.params[j]? = some t → args[j]? = some v → Value.okWide Try.prog W .any base t v)
    (hW : DataW.Whole enc Try.prog Try.f3.params.toList Rows.fnExactPhasorOfSpec.vars false W args.toList ds gs before) :
    Calls Try.prog 3 args W fun e W' => ∃ v, e = .returned v ∧ Rows.fnExactPhasorOfSpec.post enc Try.prog Try.f3 false true false false W args v W' := by
  have hW' := hW
  have hlt : ∀ x ∈ before, x.block < W.heap.size := fun x hx => hW'.lt x hx
  obtain ⟨p, q, hA0, hV, rfl, hfz, hnd⟩ := hW
  have hA : DataW.TrodAll enc Try.prog W 0 (fun _ => true) true Try.f3.params.toList args.toList ds p := hA0
  rw [Try.params3] at hA hval
  obtain ⟨v0, vs0, d0, ds0, p0, q0, hargs, rfl, rfl, h0, r0⟩ := trodAll_cons hA
  obtain ⟨rfl, rfl, rfl⟩ := trodAll_nil r0
  obtain rfl : args = #[v0] := by first | exact Array.ext' (by exact hargs) | (cases args; simp_all)
  obtain ⟨rfl, rfl⟩ := trodVars_none hV
  clear hA0
  have k0 := h0
  obtain ⟨a0, rfl, _, _, w0⟩ := open_float Try.underlying22 (hval 0 22 v0 rfl rfl) h0
  simp only [List.append_nil] at hW' hlt
  refine (walk a0 w0 W).mono fun e W' ⟨he, hb⟩ => ?_
  subst he
  exact ⟨_, rfl, Go.Lst.post_new (pv := []) hW' (fun _ _ _ => (trodAll_cons_mk (shut_bool Try.underlying4 _) trodAll_mk0)) (fun sp hsp => (trodAll_cons_mk (WideElems.Trod_stays laid (by kernel_rfl) (of_decide_eq_true (by kernel_rfl)) k0 (fun x hx => hb.same (hlt x (by simp [hx]))) (fun x hx => hsp x (by simp [hx]))) trodAll_mk0)) (fun _ _ => rfl) (by simp)
    hb (ok_one (by kernel_rfl) rfl (okWide_bool_mk Try.underlying4 _))⟩

set_option maxRecDepth 100000 in
theorem lifted (os : Os) (started : os.Started) (H : Type) (enc : TypeId × Value → H) :
    ReturnsInHanded {} Try.checked os 3 .any (Rows.fnExactPhasorOfSpec.pre6 enc Try.prog Try.f3 Rows.fnExactPhasorOfRow.domain false) (Rows.fnExactPhasorOfSpec.post enc Try.prog Try.f3 false true false false) := by
  refine returnsInHanded_of_change (C := Try.checked) own started (by kernel_rfl) Try.func3
    (ChangeSpec.witness6 (enc := enc) (C := Try.checked) false ⟨#[], #[.float .f64 0], []⟩ 8 (by kernel_rfl) (by kernel_rfl) (by kernel_rfl) (by kernel_rfl)) ?_
  intro W base args ds gs before hval hW _ _
  exact contract H enc W base args ds gs before hval hW

set_option maxRecDepth 100000 in
theorem proved : Rows.FnExactPhasorOfSaid :=
  OpenClaim.holds_of_wide 3 Try.f3 rfl rfl rfl rfl rfl rfl rfl ⟨rfl, rfl, rfl, rfl, rfl⟩ rfl rfl rfl rfl rfl (by kernel_rfl) Try.func3 (by kernel_rfl)
    (of_decide_eq_true (by kernel_rfl)) (by unfold Func.isWrapper; first | (rw [if_pos (by decide +kernel)]; kernel_rfl) | (rw [if_neg (by decide +kernel)]; exact ⟨rfl, rfl⟩))
    (fun os started H enc _ => lifted os started H enc)
end Go.Proofs.Ytjpmliigepegaaa.exactPhasorOf
