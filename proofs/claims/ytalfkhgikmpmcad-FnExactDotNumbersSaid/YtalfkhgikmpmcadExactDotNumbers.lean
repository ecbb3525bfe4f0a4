/- For every two lists of float32, DotNumbers answers as the model does: the sum of the products from left to right, and nothing for lists of different lengths, or of more than 256 numbers. No condition. -/
import Derived.Test.YtalfkhgikmpmcadRows
import Derived.Test.YtalfkhgikmpmcadDot
import Derived.ProofKit
import Derived.OpenShut
namespace Go.Proofs.Ytalfkhgikmpmcad.exactDotNumbers
open Go.ChangeShapes Go.WideShapes Go.ChangeAt Go.RowKit Go.Lst FloatKit

set_option maxHeartbeats 2000000 in
theorem walk (u1 : Value) (xs : List Nat) (_ : ∀ x ∈ xs, (Lit.float .f32 x).wf = true) (u2 : Value) (ys : List Nat) (_ : ∀ x ∈ ys, (Lit.float .f32 x).wf = true) (W : World)
    (h1 : Lst W.heap.size W u1 (xs.map (Value.float .f32))) (h2 : Lst W.heap.size W u2 (ys.map (Value.float .f32))) :
    Calls Try.prog 7 #[u1, u2] W fun e w' => e = .returned (.bool true) ∧ Below W.heap.size W w' := by
  obtain ⟨a1, cap1, hv1, hl1, _⟩ := id h1
  obtain ⟨a2, cap2, hv2, hl2, _⟩ := id h2
  rw [List.length_map] at hl1 hv1 hl2 hv2
  subst hv1
  subst hv2
  have P1 := Lib.hid h1
  have P2 := Lib.hid h2
  clear h1 h2
  generalize hn1 : xs.length = n1 at *
  generalize hn2 : ys.length = n2 at *
  have hN1 := Lib.hid hn1
  have hN2 := Lib.hid hn2
  clear hn1 hn2
  unfold maxLen at hl1 hl2
  by_cases hbig : 1048576 < n1
  · go_enter Try.func7, Try.ntmps7
    go_wp2_with fail
    go_ret
    exact ⟨rfl, Below.refl _ _⟩
  by_cases hbig2 : 1048576 < n2
  · go_enter Try.func7, Try.ntmps7
    go_wp2_with fail
    go_ret
    exact ⟨rfl, Below.refl _ _⟩
  · have hle1 := Lib.hid (show xs.length ≤ 1048576 by have := hN1.out; omega)
    have hle2 := Lib.hid (show ys.length ≤ 1048576 by have := hN2.out; omega)
    have B0 := Lib.hid (Below.refl W.heap.size W)
    go_enter Try.func7, Try.ntmps7
    go_wp2_with fail
    refine (copied W.heap.size _ xs W (P1.out.below B0.out (Nat.le_refl _)) B0.out.size hle1.out).mono ?_
    rintro e w1 ⟨v1, rfl, hC⟩
    have S1 := Lib.hid hC.1
    have L1 := Lib.hid hC.2.1
    clear hC
    have B1 := Lib.hid (below_on B0.out (Nat.le_refl _) S1.out)
    go_wp2_with fail
    refine (copied W.heap.size _ ys w1 (P2.out.below B1.out (Nat.le_refl _)) B1.out.size hle2.out).mono ?_
    rintro e w2 ⟨v2, rfl, hC⟩
    have S2 := Lib.hid hC.1
    have L2 := Lib.hid hC.2.1
    clear hC
    have B2 := Lib.hid (below_on B1.out (Nat.le_refl _) S2.out)
    have K1 := Lib.hid (lst_step L1.out S2.out)
    go_wp2_with fail
    refine ((dotNumbers_all _ v1 v2 xs ys w2 K1.out L2.out).2).mono ?_
    rintro e w3 ⟨r3, m3, rfl, hE3, hw3⟩
    have B3 := Lib.hid (show Below W.heap.size W w3 by rw [hw3]; exact below_on B2.out (Nat.le_refl _) (below_drewN _ _))
    have E3 := Lib.hid hE3
    clear hE3 hw3
    go_wp2_with fail
    refine (copied W.heap.size _ xs w3 (P1.out.below B3.out (Nat.le_refl _)) B3.out.size hle1.out).mono ?_
    rintro e w4 ⟨v4, rfl, hC⟩
    have S4 := Lib.hid hC.1
    have L4 := Lib.hid hC.2.1
    clear hC
    have B4 := Lib.hid (below_on B3.out (Nat.le_refl _) S4.out)
    go_wp2_with fail
    refine (copied W.heap.size _ ys w4 (P2.out.below B4.out (Nat.le_refl _)) B4.out.size hle2.out).mono ?_
    rintro e w5 ⟨v5, rfl, hC⟩
    have S5 := Lib.hid hC.1
    have L5 := Lib.hid hC.2.1
    clear hC
    have B5 := Lib.hid (below_on B4.out (Nat.le_refl _) S5.out)
    have K4 := Lib.hid (lst_step L4.out S5.out)
    go_wp2_with fail
    refine ((dotNumbers_all _ v4 v5 xs ys w5 K4.out L5.out).1).mono ?_
    rintro e w6 ⟨r6, m6, rfl, hE6, hw6⟩
    have S6 := Lib.hid (show Below w5.heap.size w5 w6 by rw [hw6]; exact below_drewN _ _)
    have E6 := Lib.hid hE6
    clear hE6 hw6
    have EE := Lib.hid (E6.out.trans E3.out.symm)
    go_wp2_with (first | (refine wpList_widen rfl _ _ _ rfl u32_some Try.underlying25 _ rfl ?_; intro r k hr; have hR := Lib.hid hr; clear hr) | (go_at_call 12; refine (sameFloat_eqv _ _ (by exact Wid.eqv (Hid.out ‹_›) (Hid.out ‹_›) EE.out) _).mono ?_; rintro e w' ⟨m, rfl, rfl⟩))
    generalize hw7 : w6.drewN _ = w7
    have S7 := Lib.hid (show Below w5.heap.size w5 w7 by rw [← hw7]; exact Lst.Below.drewN S6.out _)
    clear hw7
    have B7 := Lib.hid (below_on B5.out (Nat.le_refl _) S7.out)
    have M4 := Lib.hid (lst_step K4.out S7.out)
    have M5 := Lib.hid (lst_step L5.out S7.out)
    refine (copied W.heap.size _ xs w7 (P1.out.below B7.out (Nat.le_refl _)) B7.out.size hle1.out).mono ?_
    rintro e w8 ⟨v8, rfl, hC⟩
    have S8 := Lib.hid hC.1
    have L8 := Lib.hid hC.2.1
    clear hC
    have B8 := Lib.hid (below_on B7.out (Nat.le_refl _) S8.out)
    have N4 := Lib.hid (lst_step M4.out S8.out)
    have N5 := Lib.hid (lst_step M5.out S8.out)
    go_wp2_with fail
    refine (eqFloat32S_yes _ v4 v8 xs xs w8 N4.out L8.out rfl (fun i x y hx hy => .inl (by rw [hx] at hy; exact Option.some.inj hy))).mono ?_
    rintro e w9 ⟨m9, rfl, hw9⟩
    have S9 := Lib.hid (show Below w8.heap.size w8 w9 by rw [hw9]; exact below_drewN _ _)
    clear hw9
    have B9 := Lib.hid (below_on B8.out (Nat.le_refl _) S9.out)
    have Q5 := Lib.hid (lst_step N5.out S9.out)
    go_wp2_with fail
    refine (copied W.heap.size _ ys w9 (P2.out.below B9.out (Nat.le_refl _)) B9.out.size hle2.out).mono ?_
    rintro e w10 ⟨v10, rfl, hC⟩
    have S10 := Lib.hid hC.1
    have L10 := Lib.hid hC.2.1
    clear hC
    have B10 := Lib.hid (below_on B9.out (Nat.le_refl _) S10.out)
    have R5 := Lib.hid (lst_step Q5.out S10.out)
    go_wp2_with fail
    refine (eqFloat32S_yes _ v5 v10 ys ys w10 R5.out L10.out rfl (fun i x y hx hy => .inl (by rw [hx] at hy; exact Option.some.inj hy))).mono ?_
    rintro e w11 ⟨m11, rfl, hw11⟩
    have B11 := Lib.hid (show Below W.heap.size W w11 by rw [hw11]; exact below_on B10.out (Nat.le_refl _) (below_drewN _ _))
    clear hw11
    go_wp2_with fail
    go_ret
    exact ⟨rfl, B11.out⟩

theorem own : ownKnob Try.prog.godebug = none := by kernel_rfl
theorem laid : laidOutB Try.prog = true := by kernel_rfl
theorem cells0 : Try.prog.cellsOf 22 = 1 := by kernel_rfl
theorem cells1 : Try.prog.cellsOf 22 = 1 := by kernel_rfl

theorem contract (H : Type) (enc : TypeId × Value → H) (W : World) (base : Nat) (args : Array Value) (ds gs : List (DataW H)) (before : List MemPlace)
    (hval : ∀ (j : Nat) t v, Try.f7.params[j]? = some t → args[j]? = some v → Value.okWide Try.prog W .any base t v)
    (hW : DataW.Whole enc Try.prog Try.f7.params.toList Rows.fnExactDotNumbersSpec.vars false W args.toList ds gs before) :
    Calls Try.prog 7 args W fun e W' => ∃ v, e = .returned v ∧ Rows.fnExactDotNumbersSpec.post enc Try.prog Try.f7 false true false false W args v W' := by
  have hW' := hW
  have hlt : ∀ x ∈ before, x.block < W.heap.size := fun x hx => hW'.lt x hx
  obtain ⟨p, q, hA0, hV, rfl, hfz, hnd⟩ := hW
  have hA : DataW.TrodAll enc Try.prog W 0 (fun _ => true) true Try.f7.params.toList args.toList ds p := hA0
  rw [Try.params7] at hA hval
  obtain ⟨v0, vs0, d0, ds0, p0, q0, hargs, rfl, rfl, h0, r0⟩ := trodAll_cons hA
  obtain ⟨v1, vs1, d1, ds1, p1, q1, rfl, rfl, rfl, h1, r1⟩ := trodAll_cons r0
  obtain ⟨rfl, rfl, rfl⟩ := trodAll_nil r1
  obtain rfl : args = #[v0, v1] := by cases args; simp_all
  obtain ⟨rfl, rfl⟩ := trodVars_none hV
  clear hA0
  have k0 := h0
  have k1 := h1
  obtain ⟨a0, L0, w0⟩ := Go.Lst.open_floats Try.underlying29 Try.underlying22 cells0 (hval 0 29 v0 rfl rfl) h0
  obtain ⟨a1, L1, w1⟩ := Go.Lst.open_floats Try.underlying29 Try.underlying22 cells1 (hval 1 29 v1 rfl rfl) h1
  simp only [List.append_nil] at hW' hlt
  refine (walk v0 a0 w0 v1 a1 w1 W L0 L1).mono fun e W' ⟨he, hb⟩ => ?_
  subst he
  exact ⟨_, rfl, Go.Lst.post_new (pv := []) hW' (fun _ _ _ => (trodAll_cons_mk (shut_bool Try.underlying4 _) trodAll_mk0)) (fun sp hsp => (trodAll_cons_mk (WideElems.Trod_stays laid (by kernel_rfl) (of_decide_eq_true (by kernel_rfl)) k0 (fun x hx => hb.same (hlt x (by simp [hx]))) (fun x hx => hsp x (by simp [hx]))) (trodAll_cons_mk (WideElems.Trod_stays laid (by kernel_rfl) (of_decide_eq_true (by kernel_rfl)) k1 (fun x hx => hb.same (hlt x (by simp [hx]))) (fun x hx => hsp x (by simp [hx]))) trodAll_mk0))) (fun _ _ => rfl) (by simp)
    hb (ok_one (by kernel_rfl) rfl (okWide_bool_mk Try.underlying4 _))⟩

set_option maxRecDepth 100000 in
theorem lifted (os : Os) (started : os.Started) (H : Type) (enc : TypeId × Value → H) :
    ReturnsInHanded {} Try.checked os 7 .any (Rows.fnExactDotNumbersSpec.pre6 enc Try.prog Try.f7 Rows.fnExactDotNumbersRow.domain false) (Rows.fnExactDotNumbersSpec.post enc Try.prog Try.f7 false true false false) := by
  refine returnsInHanded_of_change (C := Try.checked) own started (by kernel_rfl) Try.func7
    (ChangeSpec.witness6 (enc := enc) (C := Try.checked) false ⟨#[], #[.slice none 0 0, .slice none 0 0], []⟩ 8 (by kernel_rfl) (by kernel_rfl) (by kernel_rfl) (by kernel_rfl)) ?_
  intro W base args ds gs before hval hW _ _
  exact contract H enc W base args ds gs before hval hW

theorem proved : Rows.FnExactDotNumbersSaid :=
  OpenClaim.holds_of_wide 7 Try.f7 rfl rfl rfl rfl rfl rfl rfl ⟨rfl, rfl, rfl, rfl, rfl⟩ rfl rfl rfl rfl rfl (by kernel_rfl) Try.func7 (by kernel_rfl)
    (of_decide_eq_true (by kernel_rfl)) (by unfold Func.isWrapper; first | (rw [if_pos (by decide +kernel)]; kernel_rfl) | (rw [if_neg (by decide +kernel)]; exact ⟨rfl, rfl⟩))
    (fun os started H enc _ => lifted os started H enc)
end Go.Proofs.Ytalfkhgikmpmcad.exactDotNumbers
