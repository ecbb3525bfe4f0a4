/- The program's StoreSaved and the model's give the same bytes at everything saved, and keep nothing of it. -/
import Derived.Test.YtdggbjpfllnenaaRows
import Derived.Test.YtdggbjpfllnenaaStoreSpec
import Derived.Test.YtdggbjpfllnenaaSavedOpen
import Derived.ProofKit
import Derived.OpenShut
import Derived.Deep.RegionHeld3
namespace Go.Proofs.Ytdggbjpfllnenaa.exactStoreSaved
open Go.ChangeShapes Go.WideShapes Go.ChangeAt Go.RowKit Go.Lst

set_option maxHeartbeats 4000000 in
set_option maxRecDepth 100000 in
theorem walk (v0 : Value) (x0 : SavedD) (hw0 : x0.wf) (W : World) (h0 : LstSaved W.heap.size W v0 x0) :
    Calls Try.prog 3 #[v0] W fun e w' => e = .returned (.bool true) ∧ Below W.heap.size W w' := by
  obtain ⟨vj, vc, rfl, hj, hc⟩ := id h0
  have hp := Lib.hid hw0.1
  have hSz := Lib.hid (fun w' (hb : Below W.heap.size W w') => szSaved_any W.heap.size (savedV x0.name vj vc) x0 w' (h0.below hb (Nat.le_refl _)) hb.size hp.out)
  have hFit := Lib.hid (fun h => szV_fits (nn := x0.name.size) (nt := tsz x0.tasks) (ns := x0.starts.length) h)
  obtain ⟨hle, hge⟩ := szV_le x0.name.size (tsz x0.tasks) x0.starts.length
  have hTo := Lib.hid (fun w' (hb : Below W.heap.size W w') (hf : tsz x0.tasks ≤ 1048576 ∧ x0.starts.length ≤ 1048576) => toSaved_any W.heap.size (savedV x0.name vj vc) x0 w' (h0.below hb (Nat.le_refl _)) hf.1 hf.2 hb.size)
  have hSp := Lib.hid (fun U w' (hU : LstSaved w'.heap.size w' U x0) => specStoreSaved_any w'.heap.size U x0 w' hU hp.out (Nat.le_refl _))
  have hIm := Lib.hid (fun U w' (hU : LstSaved w'.heap.size w' U x0) => implStoreSaved_any w'.heap.size U x0 w' hU hp.out (Nat.le_refl _))
  have hEq := Lib.hid (fun U1 U2 w' (h1 : LstSaved w'.heap.size w' U1 x0) (h2 : LstSaved w'.heap.size w' U2 x0) => eqSaved_yes w'.heap.size U1 U2 x0 w' h1 h2 (Nat.le_refl _))
  obtain ⟨a1, k1, rfl, -⟩ := hj
  obtain ⟨b1, l1, rfl, -⟩ := hc
  generalize szV x0.name.size (tsz x0.tasks) x0.starts.length = z at *
  have hMk : Hid (∀ B w' V, LstSaved B w' V x0 → ∃ a1 k1 b1 l1, V = savedV x0.name (.slice a1 x0.tasks.length k1) (.slice b1 x0.starts.length l1)) := Lib.hid fun B w' V hV => by
    obtain ⟨vj, vc, rfl, ⟨a, c, rfl, -⟩, ⟨b, d, rfl, -⟩⟩ := hV
    exact ⟨a, c, b, d, rfl⟩
  generalize tsz x0.tasks = tz at *
  generalize x0.tasks.length = n1 at *
  generalize x0.starts.length = m1 at *
  generalize hP : x0.name = p at *
  obtain ⟨s0, q, hR⟩ : ∃ s0 q, storeR x0 = .tuple #[.string s0, .bool q] := by
    unfold storeR
    split
    · exact ⟨_, _, rfl⟩
    · exact ⟨_, _, rfl⟩
  generalize storeR x0 = rr at *
  subst hR
  clear h0 hw0 hP
  have X0 := Lib.hid (Whole.made W 25 #[Value.string p, Value.slice a1 n1 k1, Value.slice b1 m1 l1] rfl)
  have T0 := Lib.hid (below_alloc (Below.refl W.heap.size W) (.cells #[Value.string p, Value.slice a1 n1 k1, Value.slice b1 m1 l1] 25))
  go_enter Try.func3, Try.ntmps3
  go_wp2_with fail
  generalize (W.alloc (.cells #[Value.string p, Value.slice a1 n1 k1, Value.slice b1 m1 l1] 25)) = w1 at *
  refine (hSz.out w1 T0.out).mono ?_
  rintro e w2 ⟨rfl, b2⟩
  have X1 := Lib.hid (X0.out.kept b2); have T1 := Lib.hid (below_on T0.out (Nat.le_refl _) b2)
  clear b2 X0 T0 hSz
  by_cases hneg : z < 0
  · go_wp2_with fail
    go_ret
    exact ⟨rfl, T1.out⟩
  have hFx := Lib.hid (hFit.out (by omega))
  have c0 : w2.cell? ⟨W.heap.size, 0, none⟩ = some (Value.string p) := X1.out.at_ (i := 0) rfl
  have c1 : w2.cell? ⟨W.heap.size, 1, none⟩ = some (Value.slice a1 n1 k1) := X1.out.at_ (i := 1) rfl
  have c2 : w2.cell? ⟨W.heap.size, 2, none⟩ = some (Value.slice b1 m1 l1) := X1.out.at_ (i := 2) rfl
  go_wp2_with fail
  refine (hTo.out w2 T1.out hFx.out).mono ?_
  rintro e w3 ⟨U, rfl, hU, b3⟩
  have hU3 := Lib.hid hU; have X3 := Lib.hid (X1.out.kept b3); have T3 := Lib.hid (below_on T1.out (Nat.le_refl _) b3)
  clear hU b3 X1 T1 c0 c1 c2
  go_wp2_with fail
  refine (hSp.out U w3 hU3.out).mono ?_
  rintro e w4 ⟨rfl, b4⟩
  have X4 := Lib.hid (X3.out.kept b4); have T4 := Lib.hid (below_on T3.out (Nat.le_refl _) b4)
  clear b4 X3 T3 hU3 hSp
  have c0 : w4.cell? ⟨W.heap.size, 0, none⟩ = some (Value.string p) := X4.out.at_ (i := 0) rfl
  have c1 : w4.cell? ⟨W.heap.size, 1, none⟩ = some (Value.slice a1 n1 k1) := X4.out.at_ (i := 1) rfl
  have c2 : w4.cell? ⟨W.heap.size, 2, none⟩ = some (Value.slice b1 m1 l1) := X4.out.at_ (i := 2) rfl
  go_wp2_with fail
  refine (hTo.out w4 T4.out hFx.out).mono ?_
  rintro e w5 ⟨U5, rfl, hU, b5⟩
  obtain ⟨a5, k5, b5', l5, rfl⟩ := hMk.out _ _ _ hU
  have hU5 := Lib.hid hU; have X5 := Lib.hid (X4.out.kept b5); have T5 := Lib.hid (below_on T4.out (Nat.le_refl _) b5)
  clear hU b5 X4 T4 c0 c1 c2
  go_wp2_with fail
  have hV6 := Lib.hid (((hU5.out.below (below_alloc (Below.refl _ _) (.cells #[Value.string p, Value.slice a5 n1 k5, Value.slice b5' m1 l5] 31)) (Nat.le_refl _)).mono (below_alloc (Below.refl w5.heap.size w5) (.cells #[Value.string p, Value.slice a5 n1 k5, Value.slice b5' m1 l5] 31)).size))
  have X6 := Lib.hid (X5.out.more (.cells #[Value.string p, Value.slice a5 n1 k5, Value.slice b5' m1 l5] 31)); have T6 := Lib.hid (below_alloc T5.out (.cells #[Value.string p, Value.slice a5 n1 k5, Value.slice b5' m1 l5] 31))
  have Y6 := Lib.hid (Whole.made w5 31 #[Value.string p, Value.slice a5 n1 k5, Value.slice b5' m1 l5] rfl)
  have hS5 := Lib.hid (show W.heap.size < w5.heap.size from X5.out.size)
  generalize hw6 : (w5.alloc (.cells #[Value.string p, Value.slice a5 n1 k5, Value.slice b5' m1 l5] 31)) = w6 at *
  generalize w5.heap.size = g5 at *
  clear hU5 X5 T5 hw6
  refine (hIm.out _ w6 hV6.out).mono ?_
  rintro e w7 ⟨rfl, b7⟩
  have X7 := Lib.hid (X6.out.kept b7); have Y7 := Lib.hid (Y6.out.kept b7); have T7 := Lib.hid (below_on T6.out (Nat.le_refl _) b7); have hV7 := Lib.hid ((hV6.out.below b7 (Nat.le_refl _)).mono b7.size)
  clear b7 X6 Y6 T6 hV6 hIm
  go_wp2_with fail
  have hV8 := Lib.hid (fun w' (hb : Below w7.heap.size w7 w') => ((hV7.out.below hb (Nat.le_refl _)).mono hb.size : LstSaved w'.heap.size w' (savedV p (Value.slice a5 n1 k5) (Value.slice b5' m1 l5)) x0))
  have hS0 : Hid (∀ w' : World, Below w7.heap.size w7 w' → (w'.cell? ⟨W.heap.size, 0, none⟩ = some (Value.string p) ∧ w'.cell? ⟨W.heap.size, 1, none⟩ = some (Value.slice a1 n1 k1) ∧ w'.cell? ⟨W.heap.size, 2, none⟩ = some (Value.slice b1 m1 l1) ∧ w'.cell? ⟨g5, 0, none⟩ = some (Value.string p) ∧ w'.cell? ⟨g5, 1, none⟩ = some (Value.slice a5 n1 k5) ∧ w'.cell? ⟨g5, 2, none⟩ = some (Value.slice b5' m1 l5)) ∧ Below w7.heap.size w7 w') := Lib.hid fun w' hb => ⟨⟨(X7.out.kept hb).at_ (i := 0) rfl, (X7.out.kept hb).at_ (i := 1) rfl, (X7.out.kept hb).at_ (i := 2) rfl, (Y7.out.kept hb).at_ (i := 0) rfl, (Y7.out.kept hb).at_ (i := 1) rfl, (Y7.out.kept hb).at_ (i := 2) rfl⟩, hb⟩
  have c0 : w7.cell? ⟨W.heap.size, 0, none⟩ = some (Value.string p) := X7.out.at_ (i := 0) rfl
  have c1 : w7.cell? ⟨W.heap.size, 1, none⟩ = some (Value.slice a1 n1 k1) := X7.out.at_ (i := 1) rfl
  have c2 : w7.cell? ⟨W.heap.size, 2, none⟩ = some (Value.slice b1 m1 l1) := X7.out.at_ (i := 2) rfl
  have d0 : w7.cell? ⟨g5, 0, none⟩ = some (Value.string p) := Y7.out.at_ (i := 0) rfl
  have d1 : w7.cell? ⟨g5, 1, none⟩ = some (Value.slice a5 n1 k5) := Y7.out.at_ (i := 1) rfl
  have d2 : w7.cell? ⟨g5, 2, none⟩ = some (Value.slice b5' m1 l5) := Y7.out.at_ (i := 2) rfl
  have hR0 := Below.refl w7.heap.size w7
  go_region_held3 (fun w' => (w'.cell? ⟨W.heap.size, 0, none⟩ = some (Value.string p) ∧ w'.cell? ⟨W.heap.size, 1, none⟩ = some (Value.slice a1 n1 k1) ∧ w'.cell? ⟨W.heap.size, 2, none⟩ = some (Value.slice b1 m1 l1) ∧ w'.cell? ⟨g5, 0, none⟩ = some (Value.string p) ∧ w'.cell? ⟨g5, 1, none⟩ = some (Value.slice a5 n1 k5) ∧ w'.cell? ⟨g5, 2, none⟩ = some (Value.slice b5' m1 l5)) ∧ Below w7.heap.size w7 w') ((first | exact hS0.out _ hR0 | exact hS0.out _ hR0.drew | exact hS0.out _ hR0.drew.drew | exact hS0.out _ hB8.out | exact hS0.out _ hB8.out.drew | exact hS0.out _ hB8.out.drew.drew | exact hS0.out _ hB9.out | exact hS0.out _ hB9.out.drew)) ((first | (go_at_call 6; refine (hTo.out _ (by first | exact T7.out | exact T7.out.drew | exact T7.out.drew.drew) hFx.out).mono ?_; rintro e w8 ⟨U8, rfl, hU, b8⟩; have hU8 := Lib.hid hU; have hB8 : Hid (Below w7.heap.size w7 w8) := Lib.hid (by first | exact below_on hR0 (Nat.le_refl _) b8 | exact below_on hR0.drew (Nat.le_refl _) b8 | exact below_on hR0.drew.drew (Nat.le_refl _) b8); clear hU b8) | (go_at_call 8; refine (hEq.out _ _ _ (hV8.out _ (by first | exact hB8.out | exact hB8.out.drew | exact hB8.out.drew.drew)) (by first | exact hU8.out | exact hU8.out.below (Below.refl _ _).drew (Nat.le_refl _) | exact hU8.out.below (Below.refl _ _).drew.drew (Nat.le_refl _))).mono ?_; rintro e w9 ⟨rfl, b9⟩; have hB9 : Hid (Below w7.heap.size w7 w9) := Lib.hid (by first | exact below_on hB8.out (Nat.le_refl _) b9 | exact below_on hB8.out.drew (Nat.le_refl _) b9 | exact below_on hB8.out.drew.drew (Nat.le_refl _) b9); clear b9)))
  all_goals
    have hT9 : Hid (Below W.heap.size W w9) := Lib.hid (below_on T7.out (Nat.le_refl _) hB9.out)
    clear hB9 hB8 hS0 hR0 c0 d0 c1 d1 c2 d2
    go_wp2_with fail
    go_ret
    exact ⟨rfl, by first | exact hT9.out | exact hT9.out.drew⟩

theorem own : ownKnob Try.prog.godebug = none := by kernel_rfl
theorem laid : laidOutB Try.prog = true := by kernel_rfl

set_option maxRecDepth 100000 in
theorem contract (H : Type) (enc : TypeId × Value → H) (W : World) (base : Nat) (args : Array Value) (ds gs : List (DataW H)) (before : List MemPlace)
    (hval : ∀ (j : Nat) t v, Try.f3.params[j]? = some t → args[j]? = some v → Value.okWide Try.prog W .any base t v)
    (hW : DataW.Whole enc Try.prog Try.f3.params.toList Rows.fnExactStoreSavedSpec.vars false W args.toList ds gs before) :
    Calls Try.prog 3 args W fun e W' => ∃ v, e = .returned v ∧ Rows.fnExactStoreSavedSpec.post enc Try.prog Try.f3 false true false false W args v W' := by
  have hW' := hW
  have hlt : ∀ x ∈ before, x.block < W.heap.size := fun x hx => hW'.lt x hx
  obtain ⟨p, q, hA0, hV, rfl, hfz, hnd⟩ := hW
  have hA : DataW.TrodAll enc Try.prog W 0 (fun _ => true) true Try.f3.params.toList args.toList ds p := hA0
  rw [Try.params3] at hA hval
  obtain ⟨v0, vs0, d0, ds0, p0, q0, hargs, rfl, rfl, h0, r0⟩ := trodAll_cons hA
  obtain ⟨rfl, rfl, rfl⟩ := trodAll_nil r0
  obtain rfl : args = #[v0] := by first | exact Array.ext' (by exact hargs) | (cases args; simp_all)
  obtain ⟨rfl, rfl⟩ := trodVars_none hV
  clear hA0
  have k0 := h0
  obtain ⟨a0, L0, w0⟩ := openSaved (enc := enc) (hval 0 25 v0 rfl rfl) h0
  simp only [List.append_nil] at hW' hlt
  refine (walk v0 a0 w0 W L0).mono fun e W' ⟨he, hb⟩ => ?_
  subst he
  exact ⟨_, rfl, Go.Lst.post_new (pv := []) hW' (fun _ _ _ => (trodAll_cons_mk (shut_bool Try.underlying4 _) trodAll_mk0)) (fun sp hsp => (trodAll_cons_mk (WideElems.Trod_stays laid (by kernel_rfl) (of_decide_eq_true (by kernel_rfl)) k0 (fun x hx => hb.same (hlt x (by simp [hx]))) (fun x hx => hsp x (by simp [hx]))) trodAll_mk0)) (fun _ _ => rfl) (by simp)
    hb (ok_one (by kernel_rfl) rfl (okWide_bool_mk Try.underlying4 _))⟩

set_option maxRecDepth 100000 in
theorem lifted (os : Os) (started : os.Started) (H : Type) (enc : TypeId × Value → H) :
    ReturnsInHanded {} Try.checked os 3 .any (Rows.fnExactStoreSavedSpec.pre6 enc Try.prog Try.f3 Rows.fnExactStoreSavedRow.domain false) (Rows.fnExactStoreSavedSpec.post enc Try.prog Try.f3 false true false false) := by
  refine returnsInHanded_of_change (C := Try.checked) own started (by kernel_rfl) Try.func3
    (ChangeSpec.witness6 (enc := enc) (C := Try.checked) false ⟨#[], #[.agg #[.string ⟨#[]⟩, .slice none 0 0, .slice none 0 0]], []⟩ 8 (by kernel_rfl) (by kernel_rfl) (by kernel_rfl) (by kernel_rfl)) ?_
  intro W base args ds gs before hval hW _ _
  exact contract H enc W base args ds gs before hval hW

set_option maxRecDepth 100000 in
theorem proved : Rows.FnExactStoreSavedSaid :=
  OpenClaim.holds_of_wide 3 Try.f3 rfl rfl rfl rfl rfl rfl rfl ⟨rfl, rfl, rfl, rfl, rfl⟩ rfl rfl rfl rfl rfl (by kernel_rfl) Try.func3 (by kernel_rfl)
    (of_decide_eq_true (by kernel_rfl)) (by unfold Func.isWrapper; first | (rw [if_pos (by decide +kernel)]; kernel_rfl) | (rw [if_neg (by decide +kernel)]; exact ⟨rfl, rfl⟩))
    (fun os started H enc _ => lifted os started H enc)
end Go.Proofs.Ytdggbjpfllnenaa.exactStoreSaved
