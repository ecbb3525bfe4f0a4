/- Contracts of the two angles of points, for all float32. -/
import Derived.Test.YtalfkhgikmpmcadAngle
namespace Go.Proofs.Ytalfkhgikmpmcad
open Go.RowKit FloatKit

theorem sub_test {r z : Nat} (h : Eqv Ieee.double r (fop .sub .f64 z z)) : (FloatKind.f64.format.order r 0 != some .eq) = !finite Ieee.double z := by
  have h1 := dsub_self z
  have e : FloatKind.f64.format.order r 0 = FloatKind.f64.format.order (fop .sub .f64 z z) 0 := h.order (Eqv.refl _ 0)
  unfold bne
  rw [e]
  exact congrArg Bool.not h1

theorem nan_word : isNaN Ieee.double 9221120237041090561 = true := by decide
set_option maxHeartbeats 400000 in
theorem nan_any (w : World) : Calls Try.prog 61 #[] w fun e w' => e = .returned (.float .f64 9221120237041090561) ∧ w = w' := by
  go_enter Try.func61, Try.ntmps61
  go_wp2
  go_ret
  exact ⟨rfl, rfl⟩
set_option maxHeartbeats 1000000 in
theorem l01AngleWide_nan (Y X : Nat) (h : (finite Ieee.double Y && finite Ieee.double X) = false) (w : World) :
    Calls Try.prog 56 #[.float .f64 Y, .float .f64 X] w fun e w' => ∃ n, e = .returned (.float .f64 9221120237041090561) ∧ w' = w.drewN n := by
  cases hy : finite Ieee.double Y
  · clear h
    go_enter Try.func56, Try.ntmps56
    go_wp2_with (first | (refine wpList_farith rfl _ _ _ _ _ rfl _ _ _ rfl rfl (by rfl) ?_; intro r2 j hr hlt2; have ht := sub_test hr; clear hr hlt2) | (go_at_call 61; refine (nan_any _).mono ?_; rintro e w' ⟨rfl, rfl⟩))
    go_ret
    exact ⟨_, rfl, rfl⟩
  · have hx : finite Ieee.double X = false := by rw [hy] at h; exact h
    clear h
    go_enter Try.func56, Try.ntmps56
    go_wp2_with (first | (refine wpList_farith rfl _ _ _ _ _ rfl _ _ _ rfl rfl (by rfl) ?_; intro r2 j hr hlt2; have ht := sub_test hr; clear hr hlt2) | (go_at_call 61; refine (nan_any _).mono ?_; rintro e w' ⟨rfl, rfl⟩))
    go_ret
    exact ⟨_, rfl, rfl⟩

set_option maxHeartbeats 1000000 in
theorem l01AngleWide_origin (Y X : Nat) (hy : finite Ieee.double Y = true) (hx : finite Ieee.double X = true) (hzx : (FloatKind.f64.format.order X 0 == some .eq) = true) (hzy : (FloatKind.f64.format.order Y 0 == some .eq) = true) (w : World) :
    Calls Try.prog 56 #[.float .f64 Y, .float .f64 X] w fun e w' => ∃ n, e = .returned (.float .f64 0) ∧ w' = w.drewN n := by
  go_enter Try.func56, Try.ntmps56
  go_wp2_with (first | (refine wpList_farith rfl _ _ _ _ _ rfl _ _ _ rfl rfl (by rfl) ?_; intro r2 j hr hlt2; have ht := sub_test hr; clear hr hlt2))
  go_ret
  exact ⟨_, rfl, rfl⟩

theorem order_zero_widen {x : Nat} (h : finite Ieee.single x = true) : Ieee.double.order (widen x) 0 = Ieee.single.order x 0 := by
  have hw0 : widen 0 = 0 := by decide
  have h1 := order_widen (finite_nan h) (show isNaN Ieee.single 0 = false by decide)
  rw [hw0] at h1
  exact h1

theorem nar_nan {r : Nat} (h : Nar 9221120237041090561 r) : isNaN Ieee.single r = true := by
  obtain ⟨s, t, hr⟩ := read_nan nan_word
  obtain ⟨_, h⟩ := h
  rw [hr] at h
  exact h
theorem nar_plus {r : Nat} (h : Nar 0 r) : r = 0 := nar_zero (s := 0) (by omega) h

set_option maxHeartbeats 1000000 in
theorem l01Angle_any (y x : Nat) (w : World) : Calls Try.prog 36 #[.float .f32 y, .float .f32 x] w (RetAngle y x w) := by
  cases hf : (finite Ieee.single y && finite Ieee.single x)
  · have hF := Lib.hid hf
    clear hf
    go_enter Try.func36, Try.ntmps36
    go_wp2_with (first | (refine wpList_widen rfl _ _ _ rfl u32_some Try.underlying25 _ rfl ?_; intro r k hr; have hR := Lib.hid hr.finite; clear hr) | (go_at_call 56; refine (l01AngleWide_nan _ _ (by rw [Hid.out ‹Hid (finite Ieee.double _ = finite Ieee.single y)›, Hid.out ‹Hid (finite Ieee.double _ = finite Ieee.single x)›]; exact hF.out) _).mono ?_; rintro e w' ⟨m, rfl, rfl⟩) | (go_at_call 51; refine (l01Narrow_any _ _).mono ?_; rintro e w' ⟨r, m, rfl, hr, rfl⟩; have hN := Lib.hid (nar_nan hr); clear hr))
    go_ret
    exact RetAngle.none hF.out hN.out
  · obtain ⟨hy, hx⟩ := (Bool.and_eq_true _ _ ▸ hf : finite Ieee.single y = true ∧ finite Ieee.single x = true)
    have hcy := run_widen_num (P := Try.prog) 22 25 u32_some Try.underlying25 y (finite_nan hy)
    have hcx := run_widen_num (P := Try.prog) 22 25 u32_some Try.underlying25 x (finite_nan hx)
    have hY := Lib.hid hy
    have hX := Lib.hid hx
    have hYf := Lib.hid ((finite_widen (finite_nan hy)).trans hy)
    have hXf := Lib.hid ((finite_widen (finite_nan hx)).trans hx)
    clear hf hy hx
    cases hz : ((Ieee.single.order x 0 == some .eq) && (Ieee.single.order y 0 == some .eq))
    · have hZ := Lib.hid hz
      clear hz
      go_enter Try.func36, Try.ntmps36
      go_wp2_with (first | (go_at_call 56; refine (l01AngleWide_point _ _ hYf.out hXf.out (widen_lt _) (widen_lt _) (by rw [order_zero_widen hX.out, order_zero_widen hY.out]; exact hZ.out) _).mono ?_; rintro e w' ⟨d, m, rfl, hd, _, rfl⟩; have hD := Lib.hid hd; clear hd) | (go_at_call 51; refine (l01Narrow_any _ _).mono ?_; rintro e w' ⟨r, m, rfl, hr, rfl⟩; have hN := Lib.hid hr; clear hr))
      go_ret
      exact RetAngle.point hY.out hX.out hZ.out hD.out hN.out
    · have hZ := Lib.hid hz
      obtain ⟨h1, h2⟩ := (Bool.and_eq_true _ _ ▸ hz : (Ieee.single.order x 0 == some .eq) = true ∧ (Ieee.single.order y 0 == some .eq) = true)
      have hZ1 := Lib.hid h1
      have hZ2 := Lib.hid h2
      clear hz h1 h2
      go_enter Try.func36, Try.ntmps36
      go_wp2_with (first | (go_at_call 56; refine (l01AngleWide_origin _ _ hYf.out hXf.out (by show (Ieee.double.order _ 0 == _) = true; rw [order_zero_widen hX.out]; exact hZ1.out) (by show (Ieee.double.order _ 0 == _) = true; rw [order_zero_widen hY.out]; exact hZ2.out) _).mono ?_; rintro e w' ⟨m, rfl, rfl⟩) | (go_at_call 51; refine (l01Narrow_any _ _).mono ?_; rintro e w' ⟨r, m, rfl, hr, rfl⟩; obtain rfl := nar_plus hr; clear hr))
      go_ret
      exact RetAngle.origin hY.out hX.out hZ.out
set_option maxHeartbeats 400000 in
theorem notNumber_any (w : World) : Calls Try.prog 32 #[] w fun e w' => e = .returned (.float .f32 2143289344) ∧ w = w' := by
  go_enter Try.func32, Try.ntmps32
  go_wp2
  go_ret
  exact ⟨rfl, rfl⟩

set_option maxHeartbeats 1000000 in
theorem angleTurns_none (y x : Nat) (h : (finite Ieee.single y && finite Ieee.single x) = false) (w : World) : Calls Try.prog 16 #[.float .f32 y, .float .f32 x] w (RetAngle y x w) := by
  have hF := Lib.hid h
  have hq : isNaN Ieee.single 2143289344 = true := by decide
  have hQ := Lib.hid hq
  clear hq
  cases hx : finite Ieee.single x
  · clear h
    go_enter Try.func16, Try.ntmps16
    go_wp2_with fail
    refine (isFinite_any x _).mono ?_
    rintro e w1 ⟨m1, rfl, rfl⟩
    go_wp2_with (go_at_call 32; refine (notNumber_any _).mono ?_; rintro e w' ⟨rfl, rfl⟩)
    go_ret
    exact RetAngle.none hF.out hQ.out
  · have hy : finite Ieee.single y = false := by rw [hx, Bool.and_true] at h; exact h
    clear h
    go_enter Try.func16, Try.ntmps16
    go_wp2_with fail
    refine (isFinite_any x _).mono ?_
    rintro e w1 ⟨m1, rfl, rfl⟩
    go_wp2_with fail
    refine (isFinite_any y _).mono ?_
    rintro e w1 ⟨m2, rfl, rfl⟩
    go_wp2_with (go_at_call 32; refine (notNumber_any _).mono ?_; rintro e w' ⟨rfl, rfl⟩)
    go_ret
    exact RetAngle.none hF.out hQ.out

theorem flatC_eqv {x y : Nat} (h : Eqv Ieee.double x y) : flatC x = flatC y := by
  unfold flatC
  rw [halfC_eqv h]

set_option maxHeartbeats 1000000 in
theorem angleTurns_origin (y x : Nat) (hy : finite Ieee.single y = true) (hx : finite Ieee.single x = true) (hzx : (FloatKind.f32.format.order x 0 == some .eq) = true) (hzy : (FloatKind.f32.format.order y 0 == some .eq) = true) (w : World) :
    Calls Try.prog 16 #[.float .f32 y, .float .f32 x] w (RetAngle y x w) := by
  have hY := Lib.hid hy
  have hX := Lib.hid hx
  have hZ := Lib.hid (show ((Ieee.single.order x 0 == some .eq) && (Ieee.single.order y 0 == some .eq)) = true from by
    rw [show (Ieee.single.order x 0 == some .eq) = true from hzx, show (Ieee.single.order y 0 == some .eq) = true from hzy]; rfl)
  go_enter Try.func16, Try.ntmps16
  go_wp2_with fail
  refine (isFinite_any x _).mono ?_
  rintro e w1 ⟨m1, rfl, rfl⟩
  go_wp2_with fail
  refine (isFinite_any y _).mono ?_
  rintro e w1 ⟨m2, rfl, rfl⟩
  go_wp2_with fail
  go_ret
  exact RetAngle.origin hY.out hX.out hZ.out

set_option maxHeartbeats 2000000 in
theorem angleTurns_point (y x : Nat) (hy : finite Ieee.single y = true) (hx : finite Ieee.single x = true) (hz : ((Ieee.single.order x 0 == some .eq) && (Ieee.single.order y 0 == some .eq)) = false) (w : World) :
    Calls Try.prog 16 #[.float .f32 y, .float .f32 x] w (RetAngle y x w) := by
  have hcy := run_widen_num (P := Try.prog) 22 25 u32_some Try.underlying25 y (finite_nan hy)
  have hcx := run_widen_num (P := Try.prog) 22 25 u32_some Try.underlying25 x (finite_nan hx)
  have hY := Lib.hid hy
  have hX := Lib.hid hx
  have hZ := Lib.hid hz
  generalize hF : pointC (widen y) (widen x) = F
  have HP : Hid (∀ (d r n : Nat), Eqv Ieee.double d F → Nar d r → RetAngle y x w (.returned (.float .f32 r)) (w.drewN n)) := Lib.hid fun d r n h h2 => RetAngle.point hY.out hX.out hZ.out (by rw [hF]; exact h) h2
  unfold pointC tanC at hF
  rw [order_zero_widen hx, order_zero_widen hy] at hF
  have hzx : (FloatKind.f32.format.order x 0 == some .eq) = (Ieee.single.order x 0 == some .eq) := rfl
  have hzy : (FloatKind.f32.format.order y 0 == some .eq) = (Ieee.single.order y 0 == some .eq) := rfl
  have hlx : (FloatKind.f32.format.order x 0 == some .lt) = (Ieee.single.order x 0 == some .lt) := rfl
  have hly : (FloatKind.f32.format.order y 0 == some .lt) = (Ieee.single.order y 0 == some .lt) := rfl
  have hov : (FloatKind.f64.format.order (widen y % 9223372036854775808) (widen x % 9223372036854775808) == some .gt) = (Ieee.double.order (widen y % 9223372036854775808) (widen x % 9223372036854775808) == some .gt) := rfl
  generalize (Ieee.single.order x 0 == some .lt) = xneg at *
  generalize (Ieee.single.order y 0 == some .lt) = yneg at *
  generalize (Ieee.double.order (widen y % 9223372036854775808) (widen x % 9223372036854775808) == some .gt) = over at *
  generalize (Ieee.single.order x 0 == some .eq) = zx at *
  generalize (Ieee.single.order y 0 == some .eq) = zy at *
  have HF := Lib.hid hF
  clear hF
  have hXN := Lib.hid hlx
  have hYN := Lib.hid hly
  have hOV := Lib.hid hov
  have hz2 : zx = false ∨ (zx = true ∧ zy = false) := by cases zx <;> cases zy <;> simp_all
  clear hlx hly hov hz
  generalize hPost : RetAngle y x w = Post at *
  have hPo := Lib.hid hPost
  clear hPost
  have hz3 : Hid (zx = false ∨ (zx = true ∧ zy = false)) := Lib.hid hz2
  clear hz2
  cases zx
  · skip
    go_enter Try.func16, Try.ntmps16
    go_wp2_with fail
    refine (isFinite_any x _).mono ?_
    rintro e w1 ⟨m1, rfl, rfl⟩
    go_wp2_with fail
    refine (isFinite_any y _).mono ?_
    rintro e w1 ⟨m2, rfl, rfl⟩
    go_wp2_with fail
    refine (abs_any _ (widen_lt y) _).mono ?_
    rintro e w1 ⟨m3, rfl, rfl⟩
    go_wp2_with fail
    refine (abs_any _ (widen_lt x) _).mono ?_
    rintro e w1 ⟨m4, rfl, rfl⟩
    have hov := hOV.out
    have hlx := hXN.out
    have hly := hYN.out
    clear hOV hXN hYN hcy hcx
    cases over <;> cases xneg <;> cases yneg
    · go_wp2_with (first | (refine wpList_farith rfl _ _ _ _ _ rfl _ _ _ rfl rfl (by rfl) ?_; intro r2 j hr hlt2; have hE2 := Lib.hid hr; clear hr hlt2) | (go_at_call 38; refine (flatAngle_any _ _).mono ?_; rintro e w' ⟨f, m, rfl, hf, _, rfl⟩; have hFl := Lib.hid hf; clear hf) | (go_at_call 34; refine (narrowNumber_any _ _).mono ?_; rintro e w' ⟨r, m, rfl, hr, rfl⟩; have hN := Lib.hid hr; clear hr))
      exact HP.out _ _ _ (by rw [← HF.out]; show Eqv _ _ (angleC false false false (fop .quo .f64 _ _)); exact (hFl.out.trans (.inl (flatC_eqv (Hid.out ‹_›))))) hN.out
    · go_wp2_with (first | (refine wpList_farith rfl _ _ _ _ _ rfl _ _ _ rfl rfl (by rfl) ?_; intro r2 j hr hlt2; have hE2 := Lib.hid hr; clear hr hlt2) | (go_at_call 38; refine (flatAngle_any _ _).mono ?_; rintro e w' ⟨f, m, rfl, hf, _, rfl⟩; have hFl := Lib.hid hf; clear hf) | (go_at_call 34; refine (narrowNumber_any _ _).mono ?_; rintro e w' ⟨r, m, rfl, hr, rfl⟩; have hN := Lib.hid hr; clear hr))
      exact HP.out _ _ _ (by rw [← HF.out]; show Eqv _ _ (angleC false false true (fop .quo .f64 _ _)); exact (negC_eqv (hFl.out.trans (.inl (flatC_eqv (Hid.out ‹_›)))))) hN.out
    · go_wp2_with (first | (refine wpList_farith rfl _ _ _ _ _ rfl _ _ _ rfl rfl (by rfl) ?_; intro r2 j hr hlt2; have hE2 := Lib.hid hr; clear hr hlt2) | (go_at_call 38; refine (flatAngle_any _ _).mono ?_; rintro e w' ⟨f, m, rfl, hf, _, rfl⟩; have hFl := Lib.hid hf; clear hf) | (go_at_call 34; refine (narrowNumber_any _ _).mono ?_; rintro e w' ⟨r, m, rfl, hr, rfl⟩; have hN := Lib.hid hr; clear hr))
      exact HP.out _ _ _ (by rw [← HF.out]; show Eqv _ _ (angleC false true false (fop .quo .f64 _ _)); exact (sub_chain (hFl.out.trans (.inl (flatC_eqv (Hid.out ‹_›)))) (Hid.out ‹_›))) hN.out
    · go_wp2_with (first | (refine wpList_farith rfl _ _ _ _ _ rfl _ _ _ rfl rfl (by rfl) ?_; intro r2 j hr hlt2; have hE2 := Lib.hid hr; clear hr hlt2) | (go_at_call 38; refine (flatAngle_any _ _).mono ?_; rintro e w' ⟨f, m, rfl, hf, _, rfl⟩; have hFl := Lib.hid hf; clear hf) | (go_at_call 34; refine (narrowNumber_any _ _).mono ?_; rintro e w' ⟨r, m, rfl, hr, rfl⟩; have hN := Lib.hid hr; clear hr))
      exact HP.out _ _ _ (by rw [← HF.out]; show Eqv _ _ (angleC false true true (fop .quo .f64 _ _)); exact (negC_eqv (sub_chain (hFl.out.trans (.inl (flatC_eqv (Hid.out ‹_›)))) (Hid.out ‹_›)))) hN.out
    · go_wp2_with (first | (refine wpList_farith rfl _ _ _ _ _ rfl _ _ _ rfl rfl (by rfl) ?_; intro r2 j hr hlt2; have hE2 := Lib.hid hr; clear hr hlt2) | (go_at_call 38; refine (flatAngle_any _ _).mono ?_; rintro e w' ⟨f, m, rfl, hf, _, rfl⟩; have hFl := Lib.hid hf; clear hf) | (go_at_call 34; refine (narrowNumber_any _ _).mono ?_; rintro e w' ⟨r, m, rfl, hr, rfl⟩; have hN := Lib.hid hr; clear hr))
      exact HP.out _ _ _ (by rw [← HF.out]; show Eqv _ _ (angleC true false false (fop .quo .f64 _ _)); exact (sub_chain (hFl.out.trans (.inl (flatC_eqv (Hid.out ‹_›)))) (Hid.out ‹_›))) hN.out
    · go_wp2_with (first | (refine wpList_farith rfl _ _ _ _ _ rfl _ _ _ rfl rfl (by rfl) ?_; intro r2 j hr hlt2; have hE2 := Lib.hid hr; clear hr hlt2) | (go_at_call 38; refine (flatAngle_any _ _).mono ?_; rintro e w' ⟨f, m, rfl, hf, _, rfl⟩; have hFl := Lib.hid hf; clear hf) | (go_at_call 34; refine (narrowNumber_any _ _).mono ?_; rintro e w' ⟨r, m, rfl, hr, rfl⟩; have hN := Lib.hid hr; clear hr))
      exact HP.out _ _ _ (by rw [← HF.out]; show Eqv _ _ (angleC true false true (fop .quo .f64 _ _)); exact (negC_eqv (sub_chain (hFl.out.trans (.inl (flatC_eqv (Hid.out ‹_›)))) (Hid.out ‹_›)))) hN.out
    · go_wp2_with (first | (refine wpList_farith rfl _ _ _ _ _ rfl _ _ _ rfl rfl (by rfl) ?_; intro r2 j hr hlt2; have hE2 := Lib.hid hr; clear hr hlt2) | (go_at_call 38; refine (flatAngle_any _ _).mono ?_; rintro e w' ⟨f, m, rfl, hf, _, rfl⟩; have hFl := Lib.hid hf; clear hf) | (go_at_call 34; refine (narrowNumber_any _ _).mono ?_; rintro e w' ⟨r, m, rfl, hr, rfl⟩; have hN := Lib.hid hr; clear hr))
      exact HP.out _ _ _ (by rw [← HF.out]; show Eqv _ _ (angleC true true false (fop .quo .f64 _ _)); exact (sub_chain (sub_chain (hFl.out.trans (.inl (flatC_eqv (Hid.out ‹_›)))) (Hid.out ‹_›)) (Hid.out ‹_›))) hN.out
    · go_wp2_with (first | (refine wpList_farith rfl _ _ _ _ _ rfl _ _ _ rfl rfl (by rfl) ?_; intro r2 j hr hlt2; have hE2 := Lib.hid hr; clear hr hlt2) | (go_at_call 38; refine (flatAngle_any _ _).mono ?_; rintro e w' ⟨f, m, rfl, hf, _, rfl⟩; have hFl := Lib.hid hf; clear hf) | (go_at_call 34; refine (narrowNumber_any _ _).mono ?_; rintro e w' ⟨r, m, rfl, hr, rfl⟩; have hN := Lib.hid hr; clear hr))
      exact HP.out _ _ _ (by rw [← HF.out]; show Eqv _ _ (angleC true true true (fop .quo .f64 _ _)); exact (negC_eqv (sub_chain (sub_chain (hFl.out.trans (.inl (flatC_eqv (Hid.out ‹_›)))) (Hid.out ‹_›)) (Hid.out ‹_›)))) hN.out
  · cases zy
    · skip
      go_enter Try.func16, Try.ntmps16
      go_wp2_with fail
      refine (isFinite_any x _).mono ?_
      rintro e w1 ⟨m1, rfl, rfl⟩
      go_wp2_with fail
      refine (isFinite_any y _).mono ?_
      rintro e w1 ⟨m2, rfl, rfl⟩
      go_wp2_with fail
      refine (abs_any _ (widen_lt y) _).mono ?_
      rintro e w1 ⟨m3, rfl, rfl⟩
      go_wp2_with fail
      refine (abs_any _ (widen_lt x) _).mono ?_
      rintro e w1 ⟨m4, rfl, rfl⟩
      have hov := hOV.out
      have hlx := hXN.out
      have hly := hYN.out
      clear hOV hXN hYN hcy hcx
      cases over <;> cases xneg <;> cases yneg
      · go_wp2_with (first | (refine wpList_farith rfl _ _ _ _ _ rfl _ _ _ rfl rfl (by rfl) ?_; intro r2 j hr hlt2; have hE2 := Lib.hid hr; clear hr hlt2) | (go_at_call 38; refine (flatAngle_any _ _).mono ?_; rintro e w' ⟨f, m, rfl, hf, _, rfl⟩; have hFl := Lib.hid hf; clear hf) | (go_at_call 34; refine (narrowNumber_any _ _).mono ?_; rintro e w' ⟨r, m, rfl, hr, rfl⟩; have hN := Lib.hid hr; clear hr))
        exact HP.out _ _ _ (by rw [← HF.out]; show Eqv _ _ (angleC false false false (fop .quo .f64 _ _)); exact (hFl.out.trans (.inl (flatC_eqv (Hid.out ‹_›))))) hN.out
      · go_wp2_with (first | (refine wpList_farith rfl _ _ _ _ _ rfl _ _ _ rfl rfl (by rfl) ?_; intro r2 j hr hlt2; have hE2 := Lib.hid hr; clear hr hlt2) | (go_at_call 38; refine (flatAngle_any _ _).mono ?_; rintro e w' ⟨f, m, rfl, hf, _, rfl⟩; have hFl := Lib.hid hf; clear hf) | (go_at_call 34; refine (narrowNumber_any _ _).mono ?_; rintro e w' ⟨r, m, rfl, hr, rfl⟩; have hN := Lib.hid hr; clear hr))
        exact HP.out _ _ _ (by rw [← HF.out]; show Eqv _ _ (angleC false false true (fop .quo .f64 _ _)); exact (negC_eqv (hFl.out.trans (.inl (flatC_eqv (Hid.out ‹_›)))))) hN.out
      · go_wp2_with (first | (refine wpList_farith rfl _ _ _ _ _ rfl _ _ _ rfl rfl (by rfl) ?_; intro r2 j hr hlt2; have hE2 := Lib.hid hr; clear hr hlt2) | (go_at_call 38; refine (flatAngle_any _ _).mono ?_; rintro e w' ⟨f, m, rfl, hf, _, rfl⟩; have hFl := Lib.hid hf; clear hf) | (go_at_call 34; refine (narrowNumber_any _ _).mono ?_; rintro e w' ⟨r, m, rfl, hr, rfl⟩; have hN := Lib.hid hr; clear hr))
        exact HP.out _ _ _ (by rw [← HF.out]; show Eqv _ _ (angleC false true false (fop .quo .f64 _ _)); exact (sub_chain (hFl.out.trans (.inl (flatC_eqv (Hid.out ‹_›)))) (Hid.out ‹_›))) hN.out
      · go_wp2_with (first | (refine wpList_farith rfl _ _ _ _ _ rfl _ _ _ rfl rfl (by rfl) ?_; intro r2 j hr hlt2; have hE2 := Lib.hid hr; clear hr hlt2) | (go_at_call 38; refine (flatAngle_any _ _).mono ?_; rintro e w' ⟨f, m, rfl, hf, _, rfl⟩; have hFl := Lib.hid hf; clear hf) | (go_at_call 34; refine (narrowNumber_any _ _).mono ?_; rintro e w' ⟨r, m, rfl, hr, rfl⟩; have hN := Lib.hid hr; clear hr))
        exact HP.out _ _ _ (by rw [← HF.out]; show Eqv _ _ (angleC false true true (fop .quo .f64 _ _)); exact (negC_eqv (sub_chain (hFl.out.trans (.inl (flatC_eqv (Hid.out ‹_›)))) (Hid.out ‹_›)))) hN.out
      · go_wp2_with (first | (refine wpList_farith rfl _ _ _ _ _ rfl _ _ _ rfl rfl (by rfl) ?_; intro r2 j hr hlt2; have hE2 := Lib.hid hr; clear hr hlt2) | (go_at_call 38; refine (flatAngle_any _ _).mono ?_; rintro e w' ⟨f, m, rfl, hf, _, rfl⟩; have hFl := Lib.hid hf; clear hf) | (go_at_call 34; refine (narrowNumber_any _ _).mono ?_; rintro e w' ⟨r, m, rfl, hr, rfl⟩; have hN := Lib.hid hr; clear hr))
        exact HP.out _ _ _ (by rw [← HF.out]; show Eqv _ _ (angleC true false false (fop .quo .f64 _ _)); exact (sub_chain (hFl.out.trans (.inl (flatC_eqv (Hid.out ‹_›)))) (Hid.out ‹_›))) hN.out
      · go_wp2_with (first | (refine wpList_farith rfl _ _ _ _ _ rfl _ _ _ rfl rfl (by rfl) ?_; intro r2 j hr hlt2; have hE2 := Lib.hid hr; clear hr hlt2) | (go_at_call 38; refine (flatAngle_any _ _).mono ?_; rintro e w' ⟨f, m, rfl, hf, _, rfl⟩; have hFl := Lib.hid hf; clear hf) | (go_at_call 34; refine (narrowNumber_any _ _).mono ?_; rintro e w' ⟨r, m, rfl, hr, rfl⟩; have hN := Lib.hid hr; clear hr))
        exact HP.out _ _ _ (by rw [← HF.out]; show Eqv _ _ (angleC true false true (fop .quo .f64 _ _)); exact (negC_eqv (sub_chain (hFl.out.trans (.inl (flatC_eqv (Hid.out ‹_›)))) (Hid.out ‹_›)))) hN.out
      · go_wp2_with (first | (refine wpList_farith rfl _ _ _ _ _ rfl _ _ _ rfl rfl (by rfl) ?_; intro r2 j hr hlt2; have hE2 := Lib.hid hr; clear hr hlt2) | (go_at_call 38; refine (flatAngle_any _ _).mono ?_; rintro e w' ⟨f, m, rfl, hf, _, rfl⟩; have hFl := Lib.hid hf; clear hf) | (go_at_call 34; refine (narrowNumber_any _ _).mono ?_; rintro e w' ⟨r, m, rfl, hr, rfl⟩; have hN := Lib.hid hr; clear hr))
        exact HP.out _ _ _ (by rw [← HF.out]; show Eqv _ _ (angleC true true false (fop .quo .f64 _ _)); exact (sub_chain (sub_chain (hFl.out.trans (.inl (flatC_eqv (Hid.out ‹_›)))) (Hid.out ‹_›)) (Hid.out ‹_›))) hN.out
      · go_wp2_with (first | (refine wpList_farith rfl _ _ _ _ _ rfl _ _ _ rfl rfl (by rfl) ?_; intro r2 j hr hlt2; have hE2 := Lib.hid hr; clear hr hlt2) | (go_at_call 38; refine (flatAngle_any _ _).mono ?_; rintro e w' ⟨f, m, rfl, hf, _, rfl⟩; have hFl := Lib.hid hf; clear hf) | (go_at_call 34; refine (narrowNumber_any _ _).mono ?_; rintro e w' ⟨r, m, rfl, hr, rfl⟩; have hN := Lib.hid hr; clear hr))
        exact HP.out _ _ _ (by rw [← HF.out]; show Eqv _ _ (angleC true true true (fop .quo .f64 _ _)); exact (negC_eqv (sub_chain (sub_chain (hFl.out.trans (.inl (flatC_eqv (Hid.out ‹_›)))) (Hid.out ‹_›)) (Hid.out ‹_›)))) hN.out
    · exact absurd hz3.out (by simp)

theorem angleTurns_any (y x : Nat) (w : World) : Calls Try.prog 16 #[.float .f32 y, .float .f32 x] w (RetAngle y x w) := by
  cases hf : (finite Ieee.single y && finite Ieee.single x)
  · exact angleTurns_none y x hf w
  · obtain ⟨hy, hx⟩ := (Bool.and_eq_true _ _ ▸ hf : finite Ieee.single y = true ∧ finite Ieee.single x = true)
    cases hz : ((Ieee.single.order x 0 == some .eq) && (Ieee.single.order y 0 == some .eq))
    · exact angleTurns_point y x hy hx hz w
    · obtain ⟨h1, h2⟩ := (Bool.and_eq_true _ _ ▸ hz : (Ieee.single.order x 0 == some .eq) = true ∧ (Ieee.single.order y 0 == some .eq) = true)
      exact angleTurns_origin y x hy hx h1 h2 w
end Go.Proofs.Ytalfkhgikmpmcad
