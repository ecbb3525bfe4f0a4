/- The program's JournalOf and the model's answer alike at every list of lines, and keep nothing of it. Conditions: the listed variables of Go's library lie as its text lays them. -/
import Derived.Test.YtpolhjkjgbfdhaaDoorRows
import Derived.Test.YtpolhjkjgbfdhaaDoorJournalBoth
import Derived.Test.YtpolhjkjgbfdhaaDoorTie
import Derived.Test.YtpolhjkjgbfdhaaDoorCards
import Derived.Test.YtpolhjkjgbfdhaaDoorHandBoth
import Derived.ProofKit
import Derived.OpenShut
import Derived.LaidMore
import Derived.Lay
import Derived.SevenTiedAt
import Derived.Stop.Joined
import Derived.Stop.LaidErr
namespace Go.Proofs.YtpolhjkjgbfdhaaDoor.exactJournalOf
open Go.ChangeShapes Go.WideShapes Go.ChangeAt Go.RowKit Go.Lst

set_option maxHeartbeats 4000000 in
set_option maxRecDepth 100000 in
theorem walk (v0 : Value) (x0 : List ByteArray) (hw0 : ∀ y ∈ x0, y.size ≤ maxLen) (W : World) (h0 : LstS W.heap.size W v0 x0) (hT0 : Tab10 W) :
    Calls Tryd.prog 6 #[v0] W fun e w' => e = .returned (.bool true) ∧ Below W.heap.size W w' := by
  have HT := Lib.hid hT0
  clear hT0
  obtain ⟨a0, cap0, hv0, hl0, -⟩ := id h0
  subst hv0
  have hZ := Lib.hid (szStringS_any W.heap.size _ x0 1048576 W h0 (by omega) (fun y hy => by have := hw0 y hy; unfold maxLen at this; omega))
  have hL0 := Lib.hid h0
  clear h0 hw0
  generalize hn0 : x0.length = n0 at *
  have hN0 := Lib.hid hn0
  clear hn0
  unfold maxLen at hl0
  go_enter Tryd.func6, Tryd.ntmps6
  go_wp2_with fail
  refine hZ.out.mono ?_
  rintro e w0 ⟨r, rfl, rfl, hr1, hr2, hr3⟩
  by_cases hneg : r < 0
  · have hd : decide (r < 0) = true := decide_eq_true hneg
    clear hr3 hZ
    go_wp2_with fail
    go_ret
    exact ⟨rfl, Below.refl _ _⟩
  · have hd : decide (r < 0) = false := decide_eq_false hneg
    obtain ⟨hr4, hr5⟩ := hr3 (by omega)
    have hle0 : n0 ≤ 1048576 := by omega
    have hle_0 := Lib.hid (show x0.length ≤ 1048576 by have := hN0.out; omega)
    obtain ⟨r0, r1, hs, hi⟩ := journalOf_both x0 (fun y hy => by have := hr5 y hy; omega)
    have HS := Lib.hid hs
    have HI := Lib.hid hi
    clear hs hi hr4 hr5 hZ
    have T0 := Lib.hid (Below.refl W.heap.size W)
    go_wp2_with fail
    skip
    refine (copiedS W.heap.size _ x0 W (hL0.out.below T0.out (Nat.le_refl _)) T0.out.size hle_0.out).mono ?_
    rintro e w1 ⟨u1, rfl, ho1, hb1⟩
    have P1 := Lib.hid ho1
    clear ho1
    have S1 := Lib.hid hb1
    clear hb1
    have T1 := Lib.hid (below_on T0.out (Nat.le_refl _) S1.out)
    go_wp2_with fail
    skip
    refine (HS.out w1.heap.size _ w1  (P1.out.lstS (Nat.le_refl _)) (Nat.le_refl _)).mono ?_
    rintro e w2 ⟨rfl, hb2⟩
    have S2 := Lib.hid hb2
    clear hb2
    have T2 := Lib.hid (below_on T1.out (Nat.le_refl _) S2.out)
    have O1 := Lib.hid (P1.out.below S2.out (Nat.le_refl _))
    clear P1
    go_wp2_with fail
    skip
    refine (copiedS W.heap.size _ x0 w2 (hL0.out.below T2.out (Nat.le_refl _)) T2.out.size hle_0.out).mono ?_
    rintro e w3 ⟨u3, rfl, ho3, hb3⟩
    have P3 := Lib.hid ho3
    clear ho3
    have S3 := Lib.hid hb3
    clear hb3
    have T3 := Lib.hid (below_on T2.out (Nat.le_refl _) S3.out)
    have O2 := Lib.hid (O1.out.below S3.out S2.out.size)
    clear O1
    go_wp2_with fail
    skip
    refine (HI.out w3.heap.size _ w3 (HT.out.kept T3.out) (P3.out.lstS (Nat.le_refl _)) (Nat.le_refl _)).mono ?_
    rintro e w4 ⟨rfl, hb4⟩
    have S4 := Lib.hid hb4
    clear hb4
    have T4 := Lib.hid (below_on T3.out (Nat.le_refl _) S4.out)
    have O3 := Lib.hid (O2.out.below S4.out (Nat.le_trans S2.out.size S3.out.size))
    clear O2
    have O4 := Lib.hid (P3.out.below S4.out (Nat.le_refl _))
    clear P3
    go_wp2_with fail
    skip
    refine (copiedS W.heap.size _ x0 w4 (hL0.out.below T4.out (Nat.le_refl _)) T4.out.size hle_0.out).mono ?_
    rintro e w5 ⟨u5, rfl, ho5, hb5⟩
    have P5 := Lib.hid ho5
    clear ho5
    have S5 := Lib.hid hb5
    clear hb5
    have T5 := Lib.hid (below_on T4.out (Nat.le_refl _) S5.out)
    have O5 := Lib.hid (O3.out.below S5.out (Nat.le_trans S2.out.size (Nat.le_trans S3.out.size S4.out.size)))
    clear O3
    have O6 := Lib.hid (O4.out.below S5.out S4.out.size)
    clear O4
    go_wp2_with fail
    skip
    refine (eqStringS_yes w5.heap.size _ _ x0 w5 (O6.out.lstS (Nat.le_trans S4.out.size S5.out.size)) (P5.out.lstS (Nat.le_refl _))).mono ?_
    rintro e w6 ⟨m6, rfl, hw6⟩
    have hb6 : Below w5.heap.size w5 w6 := by rw [hw6]; exact below_drawn _ _
    clear hw6
    have S6 := Lib.hid hb6
    clear hb6
    have T6 := Lib.hid (below_on T5.out (Nat.le_refl _) S6.out)
    have O7 := Lib.hid (O5.out.below S6.out (Nat.le_trans S2.out.size (Nat.le_trans S3.out.size (Nat.le_trans S4.out.size S5.out.size))))
    clear O5
    have O8 := Lib.hid (O6.out.below S6.out (Nat.le_trans S4.out.size S5.out.size))
    clear O6
    have O9 := Lib.hid (P5.out.below S6.out (Nat.le_refl _))
    clear P5
    go_wp2_with fail
    go_ret
    exact ⟨rfl, T6.out⟩

theorem own : ownKnob Tryd.prog.godebug = none := by kernel_rfl
theorem laid : laidOutB Tryd.prog = true := by kernel_rfl
theorem cells0 : Tryd.prog.cellsOf 9 = 1 := by kernel_rfl
theorem tab10 {W : World} (h : laidMetH Tryd.prog Rows.fnExactJournalOfRow.laid W) : Tab10 W := by
  rw [MakeChecks.laidMetH_plain _ _ _ (by kernel_rfl)] at h
  exact Lib.tabIs_of_head (g := 3) (t := 148) (e := 134) (n := 20) (by kernel_rfl) (by kernel_rfl) Tryd.underlying148 Tryd.underlying134 (by kernel_rfl) (by kernel_rfl) (show laidMet Tryd.prog ((Rows.fnExactJournalOfRow.laid.drop 2).head! :: _) W from h.tail.tail)
set_option maxRecDepth 100000 in
theorem contract (H : Type) (enc : TypeId × Value → H) (W : World) (base : Nat) (args : Array Value) (ds gs : List (DataW H)) (before : List MemPlace)
    (hval : ∀ (j : Nat) t v, Tryd.f6.params[j]? = some t → args[j]? = some v → Value.okWide Tryd.prog W .any base t v)
    (hW : DataW.Whole enc Tryd.prog Tryd.f6.params.toList Rows.fnExactJournalOfSpec.vars false W args.toList ds gs before) (hL : laidMetH Tryd.prog Rows.fnExactJournalOfRow.laid W) (hS : W.ShapedOpen Tryd.prog) :
    Calls Tryd.prog 6 args W fun e W' => ∃ v, e = .returned v ∧ Rows.fnExactJournalOfSpec.post enc Tryd.prog Tryd.f6 false true false false W args v W' := by
  have hW' := hW
  have hlt : ∀ x ∈ before, x.block < W.heap.size := fun x hx => hW'.lt x hx
  obtain ⟨p, q, hA0, hV, rfl, hfz, hnd⟩ := hW
  have hA : DataW.TrodAll enc Tryd.prog W 0 (fun _ => true) true Tryd.f6.params.toList args.toList ds p := hA0
  rw [Tryd.params6] at hA hval
  obtain ⟨v0, vs0, d0, ds0, p0, q0, hargs, rfl, rfl, h0, r0⟩ := trodAll_cons hA
  obtain ⟨rfl, rfl, rfl⟩ := trodAll_nil r0
  obtain rfl : args = #[v0] := by first | exact Array.ext' (by exact hargs) | (cases args; simp_all)
  obtain ⟨rfl, rfl⟩ := trodVars_none hV
  clear hA0
  have k0 := h0
  obtain ⟨a0, L0, w0⟩ := Go.Lst.open_strsS Tryd.underlying39 Tryd.underlying9 cells0 (hval 0 39 v0 rfl rfl) h0
  simp only [List.append_nil] at hW' hlt
  refine (walk v0 a0 w0 W L0 (tab10 hL)).mono fun e W' ⟨he, hb⟩ => ?_
  subst he
  exact ⟨_, rfl, Go.Lst.post_new (pv := []) hW' (fun _ _ _ => (trodAll_cons_mk (shut_bool Tryd.underlying4 _) trodAll_mk0)) (fun sp hsp => (trodAll_cons_mk (WideElems.Trod_stays laid (by kernel_rfl) (of_decide_eq_true (by kernel_rfl)) k0 (fun x hx => hb.same (hlt x (by simp [hx]))) (fun x hx => hsp x (by simp [hx]))) trodAll_mk0)) (fun _ _ => rfl) (by simp)
    hb (ok_one (by kernel_rfl) rfl (okWide_bool_mk Tryd.underlying4 _))⟩

set_option maxRecDepth 100000 in
theorem lifted (os : Os) (started : os.Started) (H : Type) (enc : TypeId × Value → H) :
    ReturnsInHanded {} Tryd.checked os 6 .any (fun w args => (Rows.fnExactJournalOfSpec.pre enc Tryd.prog Tryd.f6 Rows.fnExactJournalOfRow.domain false w args ∧ laidMetH Tryd.prog Rows.fnExactJournalOfRow.laid w) ∧ sizedMet enc Tryd.prog Tryd.f6 (OpenSpec.ofChange Rows.fnExactJournalOfSpec) false w args)
      (Rows.fnExactJournalOfSpec.post enc Tryd.prog Tryd.f6 false true false false) := by
  refine returnsInHanded_both (C := Tryd.checked) (X := fun w _ => laidMetH Tryd.prog Rows.fnExactJournalOfRow.laid w) (fun _ _ _ hh h => h.of_heap hh) own started (by kernel_rfl) Tryd.func6
    (ChangeSpec.witness_shaped (enc := enc) (C := Tryd.checked) (os := os) (X := fun w _ => laidMetH Tryd.prog Rows.fnExactJournalOfRow.laid w) false (World.laidAll Tryd.prog os Rows.fnExactJournalOfRow.laid) #[.slice none 0 0] 8 (World.laidAll_os _ _ _)
      (World.shaped_of_ZipB (by kernel_rfl) (by kernel_rfl)) (by kernel_rfl) (by kernel_rfl) (by kernel_rfl)
      (by rw [MakeChecks.laidMetH_plain _ _ _ (by kernel_rfl)]; exact laidMet_laidAll _ (by kernel_rfl) (by kernel_rfl))) ?_
  intro W base args ds gs before hval hW hL hS
  exact contract H enc W base args ds gs before hval hW hL hS

set_option maxRecDepth 100000 in
theorem holds : Rows.FnExactJournalOfSaid :=
  OpenClaim.holds_of_wide 6 Tryd.f6 rfl rfl rfl rfl rfl rfl rfl ⟨rfl, rfl, rfl, rfl, rfl⟩ rfl rfl rfl rfl rfl (by kernel_rfl) Tryd.func6 (by kernel_rfl)
    (of_decide_eq_true (by kernel_rfl)) (by unfold Func.isWrapper; first | (rw [if_pos (by decide +kernel)]; kernel_rfl) | (rw [if_neg (by decide +kernel)]; exact ⟨rfl, rfl⟩))
    (fun os started H enc _ => lifted os started H enc)
set_option maxRecDepth 100000 in
theorem proved : Rows.FnExactJournalOfCardSaid :=
  Claim7.holds_tied_plain_at .later [] [.data, .data, .data] true (true, "fe6c9ab9edf578206230e16a43b4af00a48104ef7f1e205a4c4207305310fc8b") true
    holds (fun _ h => by cases h) (by kernel_rfl) (fun _ h => by cases h) fnExactJournalOf_row_tie rfl ⟨rfl, rfl⟩ (by kernel_rfl) rfl
    (fun f fn hf hfn => by
      obtain rfl : f = 6 := Option.some.inj ((show Tryd.prog.funcNamed Tryd.f6.name = some 6 by kernel_rfl).symm.trans hf) |>.symm
      obtain rfl : fn = Tryd.f6 := (Option.some.inj (Tryd.func6.symm.trans hfn)).symm
      exact ⟨by kernel_rfl, fun j t ht => by
        rw [Tryd.params6] at ht
        have hm : t ∈ [39] := by simpa using Array.mem_of_getElem? ht
        have hall : ([39].all fun u => !Tryd.prog.wantsStandIn u) = true := by kernel_rfl
        exact (show Tryd.prog.wantsStandIn t = false by simpa using List.all_eq_true.1 hall t hm)⟩)
    (by kernel_rfl)
end Go.Proofs.YtpolhjkjgbfdhaaDoor.exactJournalOf
