/- The program's ReadComplex and the model's answer alike at every string. Conditions: the listed variables of Go's library lie as its text lays them. -/
import Derived.Test.YtjpmliigepegaaaDoorRows
import Derived.Test.YtjpmliigepegaaaDoorCplxDoor
import Derived.Test.YtjpmliigepegaaaDoorTie
import Derived.Test.YtjpmliigepegaaaDoorCards
import Derived.Test.YtjpmliigepegaaaDoorHandBoth
import Derived.ProofKit
import Derived.OpenShut
import Derived.LaidMore
import Derived.Lay
import Derived.SevenTiedAt
import Derived.Stop.Joined
import Derived.Stop.LaidErr
namespace Go.Proofs.YtjpmliigepegaaaDoor.exactReadComplex
open Go.ChangeShapes Go.WideShapes Go.ChangeAt Go.RowKit Go.Lst FloatKit

set_option maxHeartbeats 4000000 in
set_option maxRecDepth 100000 in
theorem walk (x0 : ByteArray) (hw0 : x0.size ≤ maxLen) (W : World)  (hT0 : MaxAt W) :
    Calls Tryd.prog 3 #[.string x0] W fun e w' => e = .returned (.bool true) ∧ Below W.heap.size W w' := by
  unfold maxLen at hw0
  by_cases hbig0 : 1048576 < x0.size
  · go_enter Tryd.func3, Tryd.ntmps3
    go_wp2_with fail
    go_ret
    exact ⟨rfl, Below.refl _ _⟩
  · have hle0 : x0.size ≤ 1048576 := by omega
    clear hbig0
    obtain ⟨r0, r1, hb0, hs, hi⟩ := readComplex_both x0 (by omega)
    have HS := Lib.hid hs
    have HI := Lib.hid hi
    have HT := Lib.hid hT0
    clear hT0
    have Hhb0 := Lib.hid hb0
    clear hs hi  hb0
    go_enter Tryd.func3, Tryd.ntmps3
    have T0 := Lib.hid (Below.refl W.heap.size W)
    go_wp2_with fail
    skip
    refine (HS.out W.heap.size  W   (Nat.le_refl _)).mono ?_
    rintro e w1 ⟨y1_0, rfl, ho1_0, hb1⟩
    have P1_0 := Lib.hid ho1_0
    clear ho1_0
    have S1 := Lib.hid hb1
    clear hb1
    have T1 := Lib.hid (below_on T0.out (Nat.le_refl _) S1.out)
    go_wp2_with fail
    skip
    refine (HI.out w1.heap.size  w1 (HT.out.kept T1.out)  (Nat.le_refl _)).mono ?_
    rintro e w2 ⟨y2_0, rfl, ho2_0, hb2⟩
    have P2_0 := Lib.hid ho2_0
    clear ho2_0
    have S2 := Lib.hid hb2
    clear hb2
    have T2 := Lib.hid (below_on T1.out (Nat.le_refl _) S2.out)
    have O1 := Lib.hid (P1_0.out.below S2.out (Nat.le_refl _))
    clear P1_0
    go_wp2_with fail
    skip
    refine (eqC_yes w2.heap.size _ _ r0 w2 (P2_0.out.lst (Nat.le_refl _)) (O1.out.lst S2.out.size)).mono ?_
    rintro e w3 ⟨m3, rfl, hw3⟩
    have hb3 : Below w2.heap.size w2 w3 := by rw [hw3]; exact below_drawn _ _
    clear hw3
    have S3 := Lib.hid hb3
    clear hb3
    have T3 := Lib.hid (below_on T2.out (Nat.le_refl _) S3.out)
    have O2 := Lib.hid (O1.out.below S3.out S2.out.size)
    clear O1
    have O3 := Lib.hid (P2_0.out.below S3.out (Nat.le_refl _))
    clear P2_0
    go_wp2_with fail
    skip
    refine (markCx_any _ _ _ _ _ _ w3 O3.out (by omega) (by have := Hhb0.out; omega)).mono ?_
    rintro e w4 ⟨rfl, ho4, hb4⟩
    have P4 := Lib.hid ho4
    have S4 := Lib.hid hb4
    clear ho4 hb4
    have T4 := Lib.hid (T3.out.grown S4.out T3.out.size (fun g hg => Nat.le_trans S1.out.size (O3.out.block_ge g hg).1))
    have O4 := Lib.hid (O2.out.beside S4.out (fun g hg => .inr (Nat.le_trans (Nat.le_refl _) (O3.out.block_ge g hg).1)) (Nat.le_trans S2.out.size S3.out.size))
    clear O2
    go_wp2_with fail
    skip
    refine (heldCx_any w4.heap.size _ _ _ w4 (P4.out.lst (Nat.le_trans S3.out.size S4.out.size)) (by omega) (by have := Hhb0.out; omega)).mono ?_
    rintro e w5 ⟨m5, rfl, hw5⟩
    have hb5 : Below w4.heap.size w4 w5 := by rw [hw5]; exact below_drawn _ _
    clear hw5
    have S5 := Lib.hid hb5
    clear hb5
    have T5 := Lib.hid (below_on T4.out (Nat.le_refl _) S5.out)
    have O5 := Lib.hid (O4.out.below S5.out (Nat.le_trans S2.out.size (Nat.le_trans S3.out.size S4.out.size)))
    clear O4
    have O6 := Lib.hid (P4.out.below S5.out (Nat.le_trans S3.out.size S4.out.size))
    clear P4
    go_wp2_with fail
    skip
    refine (HI.out w5.heap.size  w5 (HT.out.kept T5.out)  (Nat.le_refl _)).mono ?_
    rintro e w6 ⟨y6_0, rfl, ho6_0, hb6⟩
    have P6_0 := Lib.hid ho6_0
    clear ho6_0
    have S6 := Lib.hid hb6
    clear hb6
    have T6 := Lib.hid (below_on T5.out (Nat.le_refl _) S6.out)
    have O7 := Lib.hid (O5.out.below S6.out (Nat.le_trans S2.out.size (Nat.le_trans S3.out.size (Nat.le_trans S4.out.size S5.out.size))))
    clear O5
    have O8 := Lib.hid (O6.out.below S6.out (Nat.le_trans S3.out.size (Nat.le_trans S4.out.size S5.out.size)))
    clear O6
    go_wp2_with fail
    skip
    refine (eqC_yes w6.heap.size _ _ r0 w6 (P6_0.out.lst (Nat.le_refl _)) (O7.out.lst (Nat.le_trans S2.out.size (Nat.le_trans S3.out.size (Nat.le_trans S4.out.size (Nat.le_trans S5.out.size S6.out.size)))))).mono ?_
    rintro e w7 ⟨m7, rfl, hw7⟩
    have hb7 : Below w6.heap.size w6 w7 := by rw [hw7]; exact below_drawn _ _
    clear hw7
    have S7 := Lib.hid hb7
    clear hb7
    have T7 := Lib.hid (below_on T6.out (Nat.le_refl _) S7.out)
    have O9 := Lib.hid (O7.out.below S7.out (Nat.le_trans S2.out.size (Nat.le_trans S3.out.size (Nat.le_trans S4.out.size (Nat.le_trans S5.out.size S6.out.size)))))
    clear O7
    have O10 := Lib.hid (O8.out.below S7.out (Nat.le_trans S3.out.size (Nat.le_trans S4.out.size (Nat.le_trans S5.out.size S6.out.size))))
    clear O8
    have O11 := Lib.hid (P6_0.out.below S7.out (Nat.le_refl _))
    clear P6_0
    go_wp2_with fail
    skip
    refine (heldCx_any w7.heap.size _ _ _ w7 (O10.out.lst (Nat.le_trans S3.out.size (Nat.le_trans S4.out.size (Nat.le_trans S5.out.size (Nat.le_trans S6.out.size S7.out.size))))) (by omega) (by have := Hhb0.out; omega)).mono ?_
    rintro e w8 ⟨m8, rfl, hw8⟩
    have hb8 : Below w7.heap.size w7 w8 := by rw [hw8]; exact below_drawn _ _
    clear hw8
    have S8 := Lib.hid hb8
    clear hb8
    have T8 := Lib.hid (below_on T7.out (Nat.le_refl _) S8.out)
    have O12 := Lib.hid (O9.out.below S8.out (Nat.le_trans S2.out.size (Nat.le_trans S3.out.size (Nat.le_trans S4.out.size (Nat.le_trans S5.out.size (Nat.le_trans S6.out.size S7.out.size))))))
    clear O9
    have O13 := Lib.hid (O10.out.below S8.out (Nat.le_trans S3.out.size (Nat.le_trans S4.out.size (Nat.le_trans S5.out.size (Nat.le_trans S6.out.size S7.out.size)))))
    clear O10
    have O14 := Lib.hid (O11.out.below S8.out S7.out.size)
    clear O11
    go_wp2_with fail
    go_ret
    exact ⟨rfl, T8.out⟩

theorem own : ownKnob Tryd.prog.godebug = none := by kernel_rfl
theorem laid : laidOutB Tryd.prog = true := by kernel_rfl
set_option maxRecDepth 100000 in
theorem contract (H : Type) (enc : TypeId × Value → H) (W : World) (base : Nat) (args : Array Value) (ds gs : List (DataW H)) (before : List MemPlace)
    (hval : ∀ (j : Nat) t v, Tryd.f3.params[j]? = some t → args[j]? = some v → Value.okWide Tryd.prog W .any base t v)
    (hW : DataW.Whole enc Tryd.prog Tryd.f3.params.toList Rows.fnExactReadComplexSpec.vars false W args.toList ds gs before) (hL : laidMetH Tryd.prog Rows.fnExactReadComplexRow.laid W) (hS : W.ShapedOpen Tryd.prog) :
    Calls Tryd.prog 3 args W fun e W' => ∃ v, e = .returned v ∧ Rows.fnExactReadComplexSpec.post enc Tryd.prog Tryd.f3 false true false false W args v W' := by
  have hW' := hW
  have hlt : ∀ x ∈ before, x.block < W.heap.size := fun x hx => hW'.lt x hx
  obtain ⟨p, q, hA0, hV, rfl, hfz, hnd⟩ := hW
  have hA : DataW.TrodAll enc Tryd.prog W 0 (fun _ => true) true Tryd.f3.params.toList args.toList ds p := hA0
  rw [Tryd.params3] at hA hval
  obtain ⟨v0, vs0, d0, ds0, p0, q0, hargs, rfl, rfl, h0, r0⟩ := trodAll_cons hA
  obtain ⟨rfl, rfl, rfl⟩ := trodAll_nil r0
  obtain rfl : args = #[v0] := by first | exact Array.ext' (by exact hargs) | (cases args; simp_all)
  obtain ⟨rfl, rfl⟩ := trodVars_none hV
  clear hA0
  have k0 := h0
  obtain ⟨a0, rfl, _, _, w0⟩ := Go.ChangeMaps.open_string Tryd.underlying9 (hval 0 9 v0 rfl rfl) h0
  simp only [List.append_nil] at hW' hlt
  refine (walk a0 w0 W (maxAt hS)).mono fun e W' ⟨he, hb⟩ => ?_
  subst he
  exact ⟨_, rfl, Go.Lst.post_new (pv := []) hW' (fun _ _ _ => (trodAll_cons_mk (shut_bool Tryd.underlying4 _) trodAll_mk0)) (fun sp hsp => (trodAll_cons_mk (WideElems.Trod_stays laid (by kernel_rfl) (of_decide_eq_true (by kernel_rfl)) k0 (fun x hx => hb.same (hlt x (by simp [hx]))) (fun x hx => hsp x (by simp [hx]))) trodAll_mk0)) (fun _ _ => rfl) (by simp)
    hb (ok_one (by kernel_rfl) rfl (okWide_bool_mk Tryd.underlying4 _))⟩

set_option maxRecDepth 100000 in
theorem lifted (os : Os) (started : os.Started) (H : Type) (enc : TypeId × Value → H) :
    ReturnsInHanded {} Tryd.checked os 3 .any (fun w args => (Rows.fnExactReadComplexSpec.pre enc Tryd.prog Tryd.f3 Rows.fnExactReadComplexRow.domain false w args ∧ laidMetH Tryd.prog Rows.fnExactReadComplexRow.laid w) ∧ sizedMet enc Tryd.prog Tryd.f3 (OpenSpec.ofChange Rows.fnExactReadComplexSpec) false w args)
      (Rows.fnExactReadComplexSpec.post enc Tryd.prog Tryd.f3 false true false false) := by
  refine returnsInHanded_both (C := Tryd.checked) (X := fun w _ => laidMetH Tryd.prog Rows.fnExactReadComplexRow.laid w) (fun _ _ _ hh h => h.of_heap hh) own started (by kernel_rfl) Tryd.func3
    (ChangeSpec.witness_shaped (enc := enc) (C := Tryd.checked) (os := os) (X := fun w _ => laidMetH Tryd.prog Rows.fnExactReadComplexRow.laid w) false (World.laidAll Tryd.prog os Rows.fnExactReadComplexRow.laid) #[.string ⟨#[]⟩] 8 (World.laidAll_os _ _ _)
      (World.shaped_of_ZipB (by kernel_rfl) (by kernel_rfl)) (by kernel_rfl) (by kernel_rfl) (by kernel_rfl)
      (by rw [MakeChecks.laidMetH_plain _ _ _ (by kernel_rfl)]; exact laidMet_laidAll _ (by kernel_rfl) (by kernel_rfl))) ?_
  intro W base args ds gs before hval hW hL hS
  exact contract H enc W base args ds gs before hval hW hL hS

set_option maxRecDepth 100000 in
theorem holds : Rows.FnExactReadComplexSaid :=
  OpenClaim.holds_of_wide 3 Tryd.f3 rfl rfl rfl rfl rfl rfl rfl ⟨rfl, rfl, rfl, rfl, rfl⟩ rfl rfl rfl rfl rfl (by kernel_rfl) Tryd.func3 (by kernel_rfl)
    (of_decide_eq_true (by kernel_rfl)) (by unfold Func.isWrapper; first | (rw [if_pos (by decide +kernel)]; kernel_rfl) | (rw [if_neg (by decide +kernel)]; exact ⟨rfl, rfl⟩))
    (fun os started H enc _ => lifted os started H enc)
set_option maxRecDepth 100000 in
theorem proved : Rows.FnExactReadComplexCardSaid :=
  Claim7.holds_tied_plain_at .later [] [.data, .pinned] true (true, "039e78108d770a27b008b6e2275e034fd363f36a2ed07ab80b279905fc03fb10") false
    holds (fun _ h => by cases h) (by kernel_rfl) (fun _ h => by cases h) fnExactReadComplex_row_tie rfl ⟨rfl, rfl⟩ (by kernel_rfl) rfl
    (fun f fn hf hfn => by
      obtain rfl : f = 3 := Option.some.inj ((show Tryd.prog.funcNamed Tryd.f3.name = some 3 by kernel_rfl).symm.trans hf) |>.symm
      obtain rfl : fn = Tryd.f3 := (Option.some.inj (Tryd.func3.symm.trans hfn)).symm
      exact ⟨by kernel_rfl, fun j t ht => by
        rw [Tryd.params3] at ht
        have hm : t ∈ [9] := by simpa using Array.mem_of_getElem? ht
        have hall : ([9].all fun u => !Tryd.prog.wantsStandIn u) = true := by kernel_rfl
        exact (show Tryd.prog.wantsStandIn t = false by simpa using List.all_eq_true.1 hall t hm)⟩)
    (by kernel_rfl)
end Go.Proofs.YtjpmliigepegaaaDoor.exactReadComplex
