/- The program's NumbersText and the model's answer alike at every argument. Conditions: the listed variables of Go's library lie as its text lays them. -/
import Derived.Test.YtfidppepchobeaaDoorRows
import Derived.Test.YtfidppepchobeaaDoorTextDoor
import Derived.Test.YtfidppepchobeaaDoorTie
import Derived.Test.YtfidppepchobeaaDoorCards
import Derived.Test.YtfidppepchobeaaDoorHandBoth
import Derived.ProofKit
import Derived.OpenShut
import Derived.LaidMore
import Derived.Lay
import Derived.SevenTiedAt
import Derived.Stop.Joined
import Derived.Stop.LaidErr
namespace Go.Proofs.YtfidppepchobeaaDoor.exactNumbersText
open Go.ChangeShapes Go.WideShapes Go.ChangeAt Go.RowKit Go.Lst FloatKit

set_option maxHeartbeats 4000000 in
set_option maxRecDepth 100000 in
theorem walk (v0 : Value) (x0 : List Nat) (hw0 : (∀ y ∈ x0, (Lit.float .f32 y).wf = true)) (W : World) (h0 : Lst W.heap.size W v0 (x0.map (Value.float .f32))) (hT0 : TzAt W) :
    Calls Tryd.prog 3 #[v0] W fun e w' => e = .returned (.bool true) ∧ Below W.heap.size W w' := by
  obtain ⟨r0, r1, hs, hi⟩ := numbersText_both x0 hw0
  have HS := Lib.hid hs
  have HI := Lib.hid hi
  have HT := Lib.hid hT0
  clear hT0
  clear hs hi hw0 
  obtain ⟨a0, cap0, hv0, hl0, -⟩ := id h0
  rw [List.length_map] at hl0 hv0
  subst hv0
  have hL0 := Lib.hid h0
  clear h0
  generalize hn0 : x0.length = n0 at *
  have hN0 := Lib.hid hn0
  clear hn0
  unfold maxLen at hl0
  by_cases hbig0 : 1048576 < n0
  · go_enter Tryd.func3, Tryd.ntmps3
    go_wp2_with fail
    go_ret
    exact ⟨rfl, Below.refl _ _⟩
  · have hle0 : n0 ≤ 1048576 := by omega
    clear hbig0
    have hle_0 := Lib.hid (show x0.length ≤ 1048576 by have := hN0.out; omega)
    go_enter Tryd.func3, Tryd.ntmps3
    have T0 := Lib.hid (Below.refl W.heap.size W)
    go_wp2_with fail
    skip
    refine (copiedF W.heap.size _ x0 W (hL0.out.below T0.out (Nat.le_refl _)) T0.out.size hle_0.out).mono ?_
    rintro e w1 ⟨u1, rfl, ho1, hb1⟩
    have P1 := Lib.hid ho1
    clear ho1
    have S1 := Lib.hid hb1
    clear hb1
    have T1 := Lib.hid (below_on T0.out (Nat.le_refl _) S1.out)
    go_wp2_with fail
    skip
    refine (HS.out w1.heap.size _ w1  (P1.out.lst (Nat.le_refl _)) (Nat.le_refl _)).mono ?_
    rintro e w2 ⟨rfl, hb2⟩
    have S2 := Lib.hid hb2
    clear hb2
    have T2 := Lib.hid (below_on T1.out (Nat.le_refl _) S2.out)
    have O1 := Lib.hid (P1.out.below S2.out (Nat.le_refl _))
    clear P1
    go_wp2_with fail
    skip
    refine (copiedF W.heap.size _ x0 w2 (hL0.out.below T2.out (Nat.le_refl _)) T2.out.size hle_0.out).mono ?_
    rintro e w3 ⟨u3, rfl, ho3, hb3⟩
    have P3 := Lib.hid ho3
    clear ho3
    have S3 := Lib.hid hb3
    clear hb3
    have T3 := Lib.hid (below_on T2.out (Nat.le_refl _) S3.out)
    have O2 := Lib.hid (O1.out.below S3.out S2.out.size)
    clear O1
    go_wp2_with fail
    skip
    refine (HI.out w3.heap.size _ w3 (HT.out.kept T3.out) (P3.out.lst (Nat.le_refl _)) (Nat.le_refl _)).mono ?_
    rintro e w4 ⟨rfl, hb4⟩
    have S4 := Lib.hid hb4
    clear hb4
    have T4 := Lib.hid (below_on T3.out (Nat.le_refl _) S4.out)
    have O3 := Lib.hid (O2.out.below S4.out (Nat.le_trans S2.out.size S3.out.size))
    clear O2
    have O4 := Lib.hid (P3.out.below S4.out (Nat.le_refl _))
    clear P3
    go_wp2_with fail
    skip
    refine (copiedF W.heap.size _ x0 w4 (hL0.out.below T4.out (Nat.le_refl _)) T4.out.size hle_0.out).mono ?_
    rintro e w5 ⟨u5, rfl, ho5, hb5⟩
    have P5 := Lib.hid ho5
    clear ho5
    have S5 := Lib.hid hb5
    clear hb5
    have T5 := Lib.hid (below_on T4.out (Nat.le_refl _) S5.out)
    have O5 := Lib.hid (O3.out.below S5.out (Nat.le_trans S2.out.size (Nat.le_trans S3.out.size S4.out.size)))
    clear O3
    have O6 := Lib.hid (O4.out.below S5.out S4.out.size)
    clear O4
    go_wp2_with fail
    skip
    refine (eqF_yes w5.heap.size _ _ x0 w5 (O6.out.lst (Nat.le_trans S4.out.size S5.out.size)) (P5.out.lst (Nat.le_refl _))).mono ?_
    rintro e w6 ⟨m6, rfl, hw6⟩
    have hb6 : Below w5.heap.size w5 w6 := by rw [hw6]; exact below_drawn _ _
    clear hw6
    have S6 := Lib.hid hb6
    clear hb6
    have T6 := Lib.hid (below_on T5.out (Nat.le_refl _) S6.out)
    have O7 := Lib.hid (O5.out.below S6.out (Nat.le_trans S2.out.size (Nat.le_trans S3.out.size (Nat.le_trans S4.out.size S5.out.size))))
    clear O5
    have O8 := Lib.hid (O6.out.below S6.out (Nat.le_trans S4.out.size S5.out.size))
    clear O6
    have O9 := Lib.hid (P5.out.below S6.out (Nat.le_refl _))
    clear P5
    go_wp2_with fail
    go_ret
    exact ⟨rfl, T6.out⟩

theorem own : ownKnob Tryd.prog.godebug = none := by kernel_rfl
theorem laid : laidOutB Tryd.prog = true := by kernel_rfl
theorem cells0 : Tryd.prog.cellsOf 33 = 1 := by kernel_rfl
theorem tzAt {W : World} (h : laidMetH Tryd.prog Rows.fnExactNumbersTextRow.laid W) : TzAt W := by
  rw [MakeChecks.laidMetH_plain _ _ _ (by kernel_rfl)] at h
  have hg : Tryd.prog.globalNamed "math/bits.deBruijn64tab" = some 4 := by kernel_rfl
  exact Lib.TabIs.cell (k := .u8) (zs := [0, 1, 56, 2, 57, 49, 28, 3, 61, 58, 42, 50, 38, 29, 17, 4, 62, 47, 59, 36, 45, 43, 51, 22, 53, 39, 33, 30, 24, 18, 12, 5, 63, 55, 48, 27, 60, 41, 37, 16, 46, 35, 44, 21, 52, 32, 23, 11, 54, 26, 40, 15, 34, 20, 31, 10, 25, 14, 19, 9, 13, 8, 7, 6]) (Lib.tabIs_of_head (g := 4) (t := 102) (e := 5) (n := 64) hg (by kernel_rfl) Tryd.underlying102 Tryd.underlying5 (by kernel_rfl) (by kernel_rfl) (show laidMet Tryd.prog ((Rows.fnExactNumbersTextRow.laid.drop 1).head! :: _) W from h.tail)) hg 15 (by decide)
set_option maxRecDepth 100000 in
theorem contract (H : Type) (enc : TypeId × Value → H) (W : World) (base : Nat) (args : Array Value) (ds gs : List (DataW H)) (before : List MemPlace)
    (hval : ∀ (j : Nat) t v, Tryd.f3.params[j]? = some t → args[j]? = some v → Value.okWide Tryd.prog W .any base t v)
    (hW : DataW.Whole enc Tryd.prog Tryd.f3.params.toList Rows.fnExactNumbersTextSpec.vars false W args.toList ds gs before) (hL : laidMetH Tryd.prog Rows.fnExactNumbersTextRow.laid W) (hS : W.ShapedOpen Tryd.prog) :
    Calls Tryd.prog 3 args W fun e W' => ∃ v, e = .returned v ∧ Rows.fnExactNumbersTextSpec.post enc Tryd.prog Tryd.f3 false true false false W args v W' := by
  have hW' := hW
  have hlt : ∀ x ∈ before, x.block < W.heap.size := fun x hx => hW'.lt x hx
  obtain ⟨p, q, hA0, hV, rfl, hfz, hnd⟩ := hW
  have hA : DataW.TrodAll enc Tryd.prog W 0 (fun _ => true) true Tryd.f3.params.toList args.toList ds p := hA0
  rw [Tryd.params3] at hA hval
  obtain ⟨v0, vs0, d0, ds0, p0, q0, hargs, rfl, rfl, h0, r0⟩ := trodAll_cons hA
  obtain ⟨rfl, rfl, rfl⟩ := trodAll_nil r0
  obtain rfl : args = #[v0] := by first | exact Array.ext' (by exact hargs) | (cases args; simp_all)
  obtain ⟨rfl, rfl⟩ := trodVars_none hV
  clear hA0
  have k0 := h0
  obtain ⟨a0, L0, w0⟩ := Go.Lst.open_floats Tryd.underlying22 Tryd.underlying33 cells0 (hval 0 22 v0 rfl rfl) h0
  simp only [List.append_nil] at hW' hlt
  refine (walk v0 a0 w0 W L0 (tzAt hL)).mono fun e W' ⟨he, hb⟩ => ?_
  subst he
  exact ⟨_, rfl, Go.Lst.post_new (pv := []) hW' (fun _ _ _ => (trodAll_cons_mk (shut_bool Tryd.underlying4 _) trodAll_mk0)) (fun sp hsp => (trodAll_cons_mk (WideElems.Trod_stays laid (by kernel_rfl) (of_decide_eq_true (by kernel_rfl)) k0 (fun x hx => hb.same (hlt x (by simp [hx]))) (fun x hx => hsp x (by simp [hx]))) trodAll_mk0)) (fun _ _ => rfl) (by simp)
    hb (ok_one (by kernel_rfl) rfl (okWide_bool_mk Tryd.underlying4 _))⟩

set_option maxRecDepth 100000 in
theorem lifted (os : Os) (started : os.Started) (H : Type) (enc : TypeId × Value → H) :
    ReturnsInHanded {} Tryd.checked os 3 .any (fun w args => (Rows.fnExactNumbersTextSpec.pre enc Tryd.prog Tryd.f3 Rows.fnExactNumbersTextRow.domain false w args ∧ laidMetH Tryd.prog Rows.fnExactNumbersTextRow.laid w) ∧ sizedMet enc Tryd.prog Tryd.f3 (OpenSpec.ofChange Rows.fnExactNumbersTextSpec) false w args)
      (Rows.fnExactNumbersTextSpec.post enc Tryd.prog Tryd.f3 false true false false) := by
  refine returnsInHanded_both (C := Tryd.checked) (X := fun w _ => laidMetH Tryd.prog Rows.fnExactNumbersTextRow.laid w) (fun _ _ _ hh h => h.of_heap hh) own started (by kernel_rfl) Tryd.func3
    (ChangeSpec.witness_shaped (enc := enc) (C := Tryd.checked) (os := os) (X := fun w _ => laidMetH Tryd.prog Rows.fnExactNumbersTextRow.laid w) false (World.laidAll Tryd.prog os Rows.fnExactNumbersTextRow.laid) #[.slice none 0 0] 8 (World.laidAll_os _ _ _)
      (World.shaped_of_ZipB (by kernel_rfl) (by kernel_rfl)) (by kernel_rfl) (by kernel_rfl) (by kernel_rfl)
      (by rw [MakeChecks.laidMetH_plain _ _ _ (by kernel_rfl)]; exact laidMet_laidAll _ (by kernel_rfl) (by kernel_rfl))) ?_
  intro W base args ds gs before hval hW hL hS
  exact contract H enc W base args ds gs before hval hW hL hS

set_option maxRecDepth 100000 in
theorem holds : Rows.FnExactNumbersTextSaid :=
  OpenClaim.holds_of_wide 3 Tryd.f3 rfl rfl rfl rfl rfl rfl rfl ⟨rfl, rfl, rfl, rfl, rfl⟩ rfl rfl rfl rfl rfl (by kernel_rfl) Tryd.func3 (by kernel_rfl)
    (of_decide_eq_true (by kernel_rfl)) (by unfold Func.isWrapper; first | (rw [if_pos (by decide +kernel)]; kernel_rfl) | (rw [if_neg (by decide +kernel)]; exact ⟨rfl, rfl⟩))
    (fun os started H enc _ => lifted os started H enc)
set_option maxRecDepth 100000 in
theorem proved : Rows.FnExactNumbersTextCardSaid :=
  Claim7.holds_tied_plain_at .later [] [.data, .data, .data] true (true, "b34d47e9a5568b77253eff6c9b69b3c17fea8dd0655b9e16f0878a1302601d49") false
    holds (fun _ h => by cases h) (by kernel_rfl) (fun _ h => by cases h) fnExactNumbersText_row_tie rfl ⟨rfl, rfl⟩ (by kernel_rfl) rfl
    (fun f fn hf hfn => by
      obtain rfl : f = 3 := Option.some.inj ((show Tryd.prog.funcNamed Tryd.f3.name = some 3 by kernel_rfl).symm.trans hf) |>.symm
      obtain rfl : fn = Tryd.f3 := (Option.some.inj (Tryd.func3.symm.trans hfn)).symm
      exact ⟨by kernel_rfl, fun j t ht => by
        rw [Tryd.params3] at ht
        have hm : t ∈ [22] := by simpa using Array.mem_of_getElem? ht
        have hall : ([22].all fun u => !Tryd.prog.wantsStandIn u) = true := by kernel_rfl
        exact (show Tryd.prog.wantsStandIn t = false by simpa using List.all_eq_true.1 hall t hm)⟩)
    (by kernel_rfl)
end Go.Proofs.YtfidppepchobeaaDoor.exactNumbersText
