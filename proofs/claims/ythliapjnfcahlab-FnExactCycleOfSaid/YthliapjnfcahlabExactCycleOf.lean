/- For every list of float32 and every lost time, CycleOf answers as the model does. No condition. -/
import Derived.Test.YthliapjnfcahlabRows
import Derived.Test.YthliapjnfcahlabCycle
import Derived.ProofKit
import Derived.OpenShut
namespace Go.Proofs.Ythliapjnfcahlab.exactCycleOf
open Go.ChangeShapes Go.WideShapes Go.ChangeAt Go.RowKit Go.Lst FloatKit

set_option maxHeartbeats 1000000 in
set_option maxRecDepth 100000 in
theorem walk (v : Value) (xs : List Nat) (_ : ∀ x ∈ xs, (Lit.float .f32 x).wf = true) (f : Nat) (_ : (Lit.float .f32 f).wf = true) (W : World) (h : Lst W.heap.size W v (xs.map (Value.float .f32))) :
    Calls Try.prog 3 #[v, .float .f32 f] W fun e w' => e = .returned (.bool true) ∧ Below W.heap.size W w' := by
  obtain ⟨a, cap, hv, hl, _⟩ := id h
  rw [List.length_map] at hl hv
  subst hv
  have hL := Lib.hid h
  clear h
  generalize hn : xs.length = n at *
  have hN := Lib.hid hn
  clear hn
  unfold maxLen at hl
  by_cases hbig : 1048576 < n
  · go_enter Try.func3, Try.ntmps3
    go_wp2_with fail
    go_ret
    exact ⟨rfl, Below.refl _ _⟩
  · have hle := Lib.hid (show xs.length ≤ 1048576 by have := hN.out; omega)
    go_enter Try.func3, Try.ntmps3
    go_wp2_with fail
    refine (copied W.heap.size _ xs W hL.out (Nat.le_refl _) hle.out).mono ?_
    rintro e w1 ⟨v1, rfl, hC1⟩
    have H1 := Lib.hid hC1
    clear hC1
    go_wp2_with fail
    refine (specCycleOf_any _ v1 xs f w1 H1.out.2.1).mono ?_
    rintro e w2 ⟨r2, ok2, rfl, hE2, hw2⟩
    have B2 := Lib.hid (show Below W.heap.size W w2 from H1.out.1.trans (hw2.mono H1.out.1.size))
    have E2 := Lib.hid hE2
    clear hE2 hw2
    go_wp2_with fail
    refine (copied W.heap.size _ xs w2 (hL.out.below B2.out (Nat.le_refl _)) B2.out.size hle.out).mono ?_
    rintro e w3 ⟨v3, rfl, hC3⟩
    have H3 := Lib.hid hC3
    clear hC3
    have B3 := Lib.hid (B2.out.trans (H3.out.1.mono B2.out.size))
    go_wp2_with fail
    refine (implCycleOf_any _ v3 xs f w3 H3.out.2.1 (Nat.le_refl _)).mono ?_
    rintro e w4 ⟨r4, ok4, rfl, hE4, hw4⟩
    have B34 := Lib.hid (show Below w3.heap.size w3 w4 from hw4)
    have E4 := Lib.hid hE4
    clear hE4 hw4
    have B4 := Lib.hid (B3.out.trans (B34.out.mono B3.out.size))
    obtain ⟨rfl, rfl⟩ := E4.out.same E2.out
    go_wp2_with (first | (refine wpList_widen rfl _ _ _ rfl u32_some Try.underlying28 _ rfl ?_; intro r k hr; have hR := Lib.hid hr; clear hr) | (go_at_call 17; refine (sameFloat_eqv _ _ (by exact Wid.eqv (Hid.out ‹_›) (Hid.out ‹_›) (Eqv.refl _ _)) _).mono ?_; rintro e w' ⟨m, rfl, rfl⟩))
    generalize hw5 : w4.drewN _ = w5
    have B45 := Lib.hid (show Below w3.heap.size w3 w5 by rw [← hw5]; exact Lst.Below.drewN B34.out _)
    clear hw5
    have B5 := Lib.hid (B3.out.trans (B45.out.mono B3.out.size))
    refine (copied W.heap.size _ xs w5 (hL.out.below B5.out (Nat.le_refl _)) B5.out.size hle.out).mono ?_
    rintro e w6 ⟨v6, rfl, hC6⟩
    have H6 := Lib.hid hC6
    clear hC6
    have L3 := Lib.hid ((H3.out.2.1.below (B45.out.trans (H6.out.1.mono B45.out.size)) (Nat.le_refl _)).mono (Nat.le_trans B45.out.size H6.out.1.size))
    go_wp2_with fail
    refine (eqFloat32S_yes _ v3 v6 xs xs w6 L3.out H6.out.2.1 rfl (fun i x y hx hy => .inl (by rw [hx] at hy; exact Option.some.inj hy))).mono ?_
    rintro e w7 ⟨m7, rfl, hw7⟩
    have B7 := Lib.hid (show Below W.heap.size W w7 by rw [hw7]; exact Lst.Below.drewN (B5.out.trans (H6.out.1.mono B5.out.size)) _)
    clear hw7
    go_wp2_with fail
    go_ret
    exact ⟨rfl, B7.out⟩

theorem own : ownKnob Try.prog.godebug = none := by kernel_rfl
theorem laid : laidOutB Try.prog = true := by kernel_rfl
theorem cells0 : Try.prog.cellsOf 23 = 1 := by kernel_rfl

set_option maxRecDepth 100000 in
theorem contract (H : Type) (enc : TypeId × Value → H) (W : World) (base : Nat) (args : Array Value) (ds gs : List (DataW H)) (before : List MemPlace)
    (hval : ∀ (j : Nat) t v, Try.f3.params[j]? = some t → args[j]? = some v → Value.okWide Try.prog W .any base t v)
    (hW : DataW.Whole enc Try.prog Try.f3.params.toList Rows.fnExactCycleOfSpec.vars false W args.toList ds gs before) :
    Calls Try.prog 3 args W fun e W' => ∃ v, e = .returned v ∧ Rows.fnExactCycleOfSpec.post enc Try.prog Try.f3 false true false false W args v W' := by
  have hW' := hW
  have hlt : ∀ x ∈ before, x.block < W.heap.size := fun x hx => hW'.lt x hx
  obtain ⟨p, q, hA0, hV, rfl, hfz, hnd⟩ := hW
  have hA : DataW.TrodAll enc Try.prog W 0 (fun _ => true) true Try.f3.params.toList args.toList ds p := hA0
  rw [Try.params3] at hA hval
  obtain ⟨v0, vs0, d0, ds0, p0, q0, hargs, rfl, rfl, h0, r0⟩ := trodAll_cons hA
  obtain ⟨v1, vs1, d1, ds1, p1, q1, rfl, rfl, rfl, h1, r1⟩ := trodAll_cons r0
  obtain ⟨rfl, rfl, rfl⟩ := trodAll_nil r1
  obtain rfl : args = #[v0, v1] := by first | exact Array.ext' (by exact hargs) | (cases args; simp_all)
  obtain ⟨rfl, rfl⟩ := trodVars_none hV
  clear hA0
  have k0 := h0
  have k1 := h1
  obtain ⟨a0, L0, w0⟩ := Go.Lst.open_floats Try.underlying22 Try.underlying23 cells0 (hval 0 22 v0 rfl rfl) h0
  obtain ⟨a1, rfl, _, _, w1⟩ := open_float Try.underlying23 (hval 1 23 v1 rfl rfl) h1
  simp only [List.append_nil] at hW' hlt
  refine (walk v0 a0 w0 a1 w1 W L0).mono fun e W' ⟨he, hb⟩ => ?_
  subst he
  exact ⟨_, rfl, Go.Lst.post_new (pv := []) hW' (fun _ _ _ => (trodAll_cons_mk (shut_bool Try.underlying4 _) trodAll_mk0)) (fun sp hsp => (trodAll_cons_mk (WideElems.Trod_stays laid (by kernel_rfl) (of_decide_eq_true (by kernel_rfl)) k0 (fun x hx => hb.same (hlt x (by simp [hx]))) (fun x hx => hsp x (by simp [hx]))) (trodAll_cons_mk (WideElems.Trod_stays laid (by kernel_rfl) (of_decide_eq_true (by kernel_rfl)) k1 (fun x hx => hb.same (hlt x (by simp [hx]))) (fun x hx => hsp x (by simp [hx]))) trodAll_mk0))) (fun _ _ => rfl) (by simp)
    hb (ok_one (by kernel_rfl) rfl (okWide_bool_mk Try.underlying4 _))⟩

set_option maxRecDepth 100000 in
theorem lifted (os : Os) (started : os.Started) (H : Type) (enc : TypeId × Value → H) :
    ReturnsInHanded {} Try.checked os 3 .any (Rows.fnExactCycleOfSpec.pre6 enc Try.prog Try.f3 Rows.fnExactCycleOfRow.domain false) (Rows.fnExactCycleOfSpec.post enc Try.prog Try.f3 false true false false) := by
  refine returnsInHanded_of_change (C := Try.checked) own started (by kernel_rfl) Try.func3
    (ChangeSpec.witness6 (enc := enc) (C := Try.checked) false ⟨#[], #[.slice none 0 0, .float .f32 0], []⟩ 8 (by kernel_rfl) (by kernel_rfl) (by kernel_rfl) (by kernel_rfl)) ?_
  intro W base args ds gs before hval hW _ _
  exact contract H enc W base args ds gs before hval hW

set_option maxRecDepth 100000 in
theorem proved : Rows.FnExactCycleOfSaid :=
  OpenClaim.holds_of_wide 3 Try.f3 rfl rfl rfl rfl rfl rfl rfl ⟨rfl, rfl, rfl, rfl, rfl⟩ rfl rfl rfl rfl rfl (by kernel_rfl) Try.func3 (by kernel_rfl)
    (of_decide_eq_true (by kernel_rfl)) (by unfold Func.isWrapper; first | (rw [if_pos (by decide +kernel)]; kernel_rfl) | (rw [if_neg (by decide +kernel)]; exact ⟨rfl, rfl⟩))
    (fun os started H enc _ => lifted os started H enc)
end Go.Proofs.Ythliapjnfcahlab.exactCycleOf
