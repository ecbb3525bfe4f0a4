/- Contracts: sines in 64 bits, the program's and the model's. -/
import Derived.Test.YtjpmliigepegaaaRoot
import Derived.Test.YtjpmliigepegaaaFlush
import Derived.Test.YtjpmliigepegaaaFloatSine
import Derived.LoopTactic
import Derived.Outline
namespace Go.Proofs.Ytjpmliigepegaaa
open Go.RowKit FloatKit

theorem some_fop {op : BinOp} {k : FloatKind} {x y : Nat} {p : Nat → Prop} (h : ∃ r, floatBits op k x y = some r ∧ p r) : floatBits op k x y = some (fop op k x y) := by
  obtain ⟨r, hr, _⟩ := h
  rw [hr, fop_some hr]
theorem trunc_run {y : Nat} (hy : Mag 1126 y) (w : World) : (convert 22 2 (.float .f64 y)).run Try.prog w = .ok (.int .i64 (intC y)) w := by
  obtain ⟨h1, h2⟩ := intC_le (k := 52) hy (by omega)
  refine run_convert_float_int w 22 2 .f64 .i64 y (intC y) u64_some Try.underlying2 ?_
  unfold floatToIntVal
  show (match (Ieee.double.read y).toInt .zero with | some n => if IntKind.i64.min ≤ n ∧ n ≤ IntKind.i64.max then some n else none | none => none) = _
  rw [h1]
  have e1 : IntKind.i64.min = -9223372036854775808 := rfl
  have e2 : IntKind.i64.max = 9223372036854775807 := rfl
  show (if IntKind.i64.min ≤ intC y ∧ intC y ≤ IntKind.i64.max then some (intC y) else none) = _
  rw [e1, e2, if_pos (by omega)]
set_option maxHeartbeats 1000000 in
theorem partOfTurn_any (y : Nat) (hy : Mag 1126 y) (w : World) : Calls Try.prog 11 #[.float .f64 y] w fun e w' => e = .returned (.float .f64 (partC y)) ∧ w = w' := by
  have ht := trunc_run hy
  have hs := run_fop_some (P := Try.prog) (op := .sub) 22 .f64 y _ _ (some_fop (part_sub hy))
  have hd := fop_of (p := Mag 1074) (part_sub hy)
  unfold partC
  generalize fop .sub .f64 y (floatOfInt .f64 (intC y)) = d at *
  have ha := run_fop_some (P := Try.prog) (op := .add) 22 .f64 d one _ (some_fop (hd.add (Mag.const (k := 1074) (by omega) (by omega) (by decide)) (by omega) (by omega)))
  unfold one at ha ⊢
  generalize fop .add .f64 d 4607182418800017408 = d1 at *
  have ho : (FloatKind.f64.format.order d 0 == some .lt) = (Ieee.double.order d 0 == some .lt) := rfl
  generalize (Ieee.double.order d 0 == some .lt) = q at *
  clear hy hd
  cases q
  · go_enter Try.func11, Try.ntmps11
    go_wp2_with fail
    go_ret
    exact ⟨rfl, rfl⟩
  · go_enter Try.func11, Try.ntmps11
    go_wp2_with fail
    go_ret
    exact ⟨rfl, rfl⟩
def geC (x c : Nat) : Bool := (Ieee.double.order x c == some .gt) || (Ieee.double.order x c == some .eq)
def sineW (y : Nat) : Nat := waveC (geC (partC y) halfW) (Ieee.double.order (sideC (geC (partC y) halfW) (partC y)) quartW == some .gt) (partC y)
theorem sineW_mag {y : Nat} (hy : Mag 1126 y) : Mag 1201 (sineW y) := waveC_mag (partC_mag hy) _ _
/-- All that the walks want of the steps behind the part of a turn. -/
structure Wave (below over : Bool) (f g F z u : Nat) : Prop where
  w1 : below = true → floatBits .sub .f64 f 4602678819172646912 = some g
  w2 : below = false → g = f
  w3 : over = true → floatBits .sub .f64 4602678819172646912 g = some F
  w4 : over = false → F = g
  w5 : floatBits .mul .f64 F 4618760256179416344 = some z
  w6 : floatBits .mul .f64 z z = some u
  w7 : ∀ j, j < 8 → floatBits .mul .f64 u (serS u j) = some (fop .mul .f64 u (serS u j))
  w8 : ∀ j, j < 8 → floatBits .quo .f64 (fop .mul .f64 u (serS u j)) (floatOfInt .f64 (2 * ((8 - j : Nat) : Int) * (2 * ((8 - j : Nat) : Int) + 1))) = some (fop .quo .f64 (fop .mul .f64 u (serS u j)) (floatOfInt .f64 (2 * ((8 - j : Nat) : Int) * (2 * ((8 - j : Nat) : Int) + 1))))
  w9 : ∀ j, j < 8 → floatBits .sub .f64 4607182418800017408 (fop .quo .f64 (fop .mul .f64 u (serS u j)) (floatOfInt .f64 (2 * ((8 - j : Nat) : Int) * (2 * ((8 - j : Nat) : Int) + 1)))) = some (serS u (j + 1))
  w10 : floatBits .mul .f64 z (serS u 8) = some (fop .mul .f64 z (serS u 8))
theorem wave_of {f : Nat} (h : Mag 1075 f) (below over : Bool) : Wave below over f (sideC below f) (foldC over (sideC below f)) (fop .mul .f64 (foldC over (sideC below f)) circleW) (fop .mul .f64 (fop .mul .f64 (foldC over (sideC below f)) circleW) (fop .mul .f64 (foldC over (sideC below f)) circleW)) := by
  have hH : ∀ k, 1074 ≤ k → k ≤ 2000 → Mag k halfW := fun k h1 h2 => Mag.const (by omega) (by omega) (by have : halfW = 4602678819172646912 := rfl; omega)
  have s1 := h.sub (hH 1075 (by omega) (by omega)) (by omega) (by omega)
  have h1 : Mag 1076 (sideC below f) := by
    unfold sideC
    split
    · exact fop_of (p := Mag 1076) s1
    · exact h.mono (by omega)
  have s2 := (hH 1076 (by omega) (by omega)).sub h1 (by omega) (by omega)
  have h2 : Mag 1077 (foldC over (sideC below f)) := by
    unfold foldC
    split
    · exact fop_of (p := Mag 1077) s2
    · exact h1.mono (by omega)
  have s3 := h2.mul (c := 1080) (Mag.const (k := 1077) (x := circleW) (by omega) (by omega) (by decide)) (by omega) (by omega) (by omega) (by omega) (by omega)
  have hg : below = true → floatBits .sub .f64 f 4602678819172646912 = some (sideC below f) := fun hb => by
    rw [hb]; exact some_fop s1
  have hg0 : below = false → sideC below f = f := fun hb => by rw [hb]; rfl
  have hF : over = true → floatBits .sub .f64 4602678819172646912 (sideC below f) = some (foldC over (sideC below f)) := fun hb => by
    rw [hb]; exact some_fop s2
  have hF0 : over = false → foldC over (sideC below f) = sideC below f := fun hb => by rw [hb]; rfl
  generalize foldC over (sideC below f) = F at *
  have hz := some_fop s3
  have h3 := fop_of (p := Mag 1080) s3
  generalize fop .mul .f64 F circleW = z at *
  have s4 := h3.mul (c := 1086) h3 (by omega) (by omega) (by omega) (by omega) (by omega)
  have hu := some_fop s4
  have h4 := (fop_of (p := Mag 1086) s4).mono (b := 1090) (by omega)
  generalize fop .mul .f64 z z = u at *
  have t1 := fun j (hj : j < 8) => h4.mul (c := 1090 + 15 * j) (serS_mag h4 j (by omega)) (by omega) (by omega) (by omega) (by omega) (by omega)
  have t2 := fun j (hj : j < 8) => (fop_of (p := Mag _) (t1 j hj)).div (c := 1088 + 15 * j) (den_least j hj).1 (den_least j hj).2 (by omega) (by omega) (by omega) (by omega)
  have t3 := fun j (hj : j < 8) => (Mag.const (k := 1088 + 15 * j) (x := one) (by omega) (by omega) (by have : one = 4607182418800017408 := rfl; omega)).sub (fop_of (p := Mag _) (t2 j hj)) (by omega) (by omega)
  have t4 := h3.mul (c := 1201) (serS_mag h4 8 (by omega)) (by omega) (by omega) (by omega) (by omega) (by omega)
  exact ⟨hg, hg0, hF, hF0, hz, hu, fun j hj => some_fop (t1 j hj), fun j hj => some_fop (t2 j hj), fun j hj => some_fop (t3 j hj), some_fop t4⟩
theorem den_wraps : ∀ j, j < 8 → IntKind.i64.wrap (2 * ((8 - j : Nat) : Int)) = 2 * ((8 - j : Nat) : Int) ∧ IntKind.i64.wrap (2 * ((8 - j : Nat) : Int) + 1) = 2 * ((8 - j : Nat) : Int) + 1 ∧ IntKind.i64.wrap (2 * ((8 - j : Nat) : Int) * (2 * ((8 - j : Nat) : Int) + 1)) = 2 * ((8 - j : Nat) : Int) * (2 * ((8 - j : Nat) : Int) + 1) ∧ IntKind.i64.wrap (((8 - j : Nat) : Int) - 1) = ((8 - (j + 1) : Nat) : Int) ∧ 1 ≤ ((8 - j : Nat) : Int) := by decide
set_option maxHeartbeats 2000000 in
theorem sineOf_any (y : Nat) (hy : Mag 1126 y) (w : World) : Calls Try.prog 14 #[.float .f64 y] w fun e w' => e = .returned (.float .f64 (sineW y)) ∧ w = w' := by
  have hid64 := run_same (P := Try.prog) 22 .f64 Try.underlying22
  have hp := Lib.hid (partOfTurn_any y hy w)
  have hw := wave_of (partC_mag hy) (geC (partC y) halfW) (Ieee.double.order (sideC (geC (partC y) halfW) (partC y)) quartW == some .gt)
  unfold sineW waveC
  have hb : (FloatKind.f64.format.order (partC y) 4602678819172646912 == some .gt || FloatKind.f64.format.order (partC y) 4602678819172646912 == some .eq) = geC (partC y) halfW := rfl
  have ho : (FloatKind.f64.format.order (sideC (geC (partC y) halfW) (partC y)) 4598175219545276416 == some .gt) = (Ieee.double.order (sideC (geC (partC y) halfW) (partC y)) quartW == some .gt) := rfl
  generalize (Ieee.double.order (sideC (geC (partC y) halfW) (partC y)) quartW == some .gt) = over at *
  generalize geC (partC y) halfW = below at *
  generalize partC y = f at *
  generalize sideC below f = g at *
  generalize foldC over g = F at *
  dsimp only
  generalize fop .mul .f64 F circleW = z at *
  generalize fop .mul .f64 z z = u at *
  obtain ⟨k1, k2, k3, k4, k5, k6, k7, k8, k9, k10⟩ := hw
  have r5 := run_fop_some (P := Try.prog) (op := .mul) 22 .f64 F 4618760256179416344 z k5
  have r6 := run_fop_some (P := Try.prog) (op := .mul) 22 .f64 z z u k6
  have r10 := run_fop_some (P := Try.prog) (op := .mul) 22 .f64 z (serS u 8) _ k10
  generalize fop .mul .f64 z (serS u 8) = S at *
  have hR : Hid (∀ j, j < 8 → (∀ W, (binOp .mul 22 (.float .f64 u) (.float .f64 (serS u j))).run Try.prog W = .ok (.float .f64 (fop .mul .f64 u (serS u j))) W) ∧ (∀ W, (binOp .quo 22 (.float .f64 (fop .mul .f64 u (serS u j))) (.float .f64 (floatOfInt .f64 (2 * ((8 - j : Nat) : Int) * (2 * ((8 - j : Nat) : Int) + 1))))).run Try.prog W = .ok (.float .f64 (fop .quo .f64 (fop .mul .f64 u (serS u j)) (floatOfInt .f64 (2 * ((8 - j : Nat) : Int) * (2 * ((8 - j : Nat) : Int) + 1))))) W) ∧ (∀ W, (binOp .sub 22 (.float .f64 4607182418800017408) (.float .f64 (fop .quo .f64 (fop .mul .f64 u (serS u j)) (floatOfInt .f64 (2 * ((8 - j : Nat) : Int) * (2 * ((8 - j : Nat) : Int) + 1)))))).run Try.prog W = .ok (.float .f64 (serS u (j + 1))) W)) :=
    Lib.hid fun j hj => ⟨run_fop_some (P := Try.prog) (op := .mul) 22 .f64 _ _ _ (k7 j hj), run_fop_some (P := Try.prog) (op := .quo) 22 .f64 _ _ _ (k8 j hj), run_fop_some (P := Try.prog) (op := .sub) 22 .f64 _ _ _ (k9 j hj)⟩
  have hs0 : Hid (serS u 0 = 4607182418800017408) := Lib.hid rfl
  clear hy k5 k6 k7 k8 k9 k10
  generalize serS u = P at *
  cases below <;> cases over
  · obtain rfl := k2 rfl
    obtain rfl := k4 rfl
    clear k1 k2 k3 k4
    go_enter Try.func14, Try.ntmps14
    go_wp2_with (first | (go_at_call 11; (with_reducible refine hp.out.mono ?_); rintro e w' ⟨rfl, rfl⟩))
    go_loopw [7, 8] (fun pv iv wr => ∃ j : Nat, j ≤ 8 ∧ iv = .int .i64 ((8 - j : Nat) : Int) ∧ pv = .float .f64 (P j) ∧ wr = w) (fun _ iv _ => (intOf iv).toNat)
    case atStart => exact ⟨0, by omega, rfl, by rw [hs0.out], rfl⟩
    case round =>
      obtain ⟨j, hj, rfl, rfl, rfl⟩ := hrel
      by_cases hlt : j < 8
      · obtain ⟨a1, a2, a3⟩ := hR.out j hlt
        obtain ⟨d1, d2, d3, d4, d5⟩ := den_wraps j hlt
        have hK1 := Lib.hid (show ((8 - (j + 1) : Nat) : Int) < ((8 - j : Nat) : Int) ∧ 0 ≤ ((8 - (j + 1) : Nat) : Int) by omega)
        generalize fop .quo .f64 (fop .mul .f64 u (P j)) _ = Y at *
        generalize fop .mul .f64 u (P j) = X at *
        generalize ((8 - j : Nat) : Int) = K at *
        generalize hK2 : ((8 - (j + 1) : Nat) : Int) = K2 at *
        have hK3 := Lib.hid hK2
        clear hK2
        have d6 : decide ((1 : Int) ≤ K) = true := decide_eq_true d5
        go_wp2_with fail
        go_roundw
        case rel => exact ⟨j + 1, by omega, by rw [hK3.out], rfl, by trivial⟩
        case measure => simp [intOf]; have := hK1.out; omega
      · obtain rfl : j = 8 := by omega
        go_wp2_with fail
        go_ret
        exact ⟨rfl, rfl⟩
  · obtain rfl := k2 rfl
    have r4 := run_fop_some (P := Try.prog) (op := .sub) 22 .f64 _ _ _ (k3 rfl)
    clear k1 k2 k3 k4
    go_enter Try.func14, Try.ntmps14
    go_wp2_with (first | (go_at_call 11; (with_reducible refine hp.out.mono ?_); rintro e w' ⟨rfl, rfl⟩))
    go_loopw [7, 8] (fun pv iv wr => ∃ j : Nat, j ≤ 8 ∧ iv = .int .i64 ((8 - j : Nat) : Int) ∧ pv = .float .f64 (P j) ∧ wr = w) (fun _ iv _ => (intOf iv).toNat)
    case atStart => exact ⟨0, by omega, rfl, by rw [hs0.out], rfl⟩
    case round =>
      obtain ⟨j, hj, rfl, rfl, rfl⟩ := hrel
      by_cases hlt : j < 8
      · obtain ⟨a1, a2, a3⟩ := hR.out j hlt
        obtain ⟨d1, d2, d3, d4, d5⟩ := den_wraps j hlt
        have hK1 := Lib.hid (show ((8 - (j + 1) : Nat) : Int) < ((8 - j : Nat) : Int) ∧ 0 ≤ ((8 - (j + 1) : Nat) : Int) by omega)
        generalize fop .quo .f64 (fop .mul .f64 u (P j)) _ = Y at *
        generalize fop .mul .f64 u (P j) = X at *
        generalize ((8 - j : Nat) : Int) = K at *
        generalize hK2 : ((8 - (j + 1) : Nat) : Int) = K2 at *
        have hK3 := Lib.hid hK2
        clear hK2
        have d6 : decide ((1 : Int) ≤ K) = true := decide_eq_true d5
        go_wp2_with fail
        go_roundw
        case rel => exact ⟨j + 1, by omega, by rw [hK3.out], rfl, by trivial⟩
        case measure => simp [intOf]; have := hK1.out; omega
      · obtain rfl : j = 8 := by omega
        go_wp2_with fail
        go_ret
        exact ⟨rfl, rfl⟩
  · have r3 := run_fop_some (P := Try.prog) (op := .sub) 22 .f64 _ _ _ (k1 rfl)
    obtain rfl := k4 rfl
    clear k1 k2 k3 k4
    go_enter Try.func14, Try.ntmps14
    go_wp2_with (first | (go_at_call 11; (with_reducible refine hp.out.mono ?_); rintro e w' ⟨rfl, rfl⟩))
    go_loopw [7, 8] (fun pv iv wr => ∃ j : Nat, j ≤ 8 ∧ iv = .int .i64 ((8 - j : Nat) : Int) ∧ pv = .float .f64 (P j) ∧ wr = w) (fun _ iv _ => (intOf iv).toNat)
    case atStart => exact ⟨0, by omega, rfl, by rw [hs0.out], rfl⟩
    case round =>
      obtain ⟨j, hj, rfl, rfl, rfl⟩ := hrel
      by_cases hlt : j < 8
      · obtain ⟨a1, a2, a3⟩ := hR.out j hlt
        obtain ⟨d1, d2, d3, d4, d5⟩ := den_wraps j hlt
        have hK1 := Lib.hid (show ((8 - (j + 1) : Nat) : Int) < ((8 - j : Nat) : Int) ∧ 0 ≤ ((8 - (j + 1) : Nat) : Int) by omega)
        generalize fop .quo .f64 (fop .mul .f64 u (P j)) _ = Y at *
        generalize fop .mul .f64 u (P j) = X at *
        generalize ((8 - j : Nat) : Int) = K at *
        generalize hK2 : ((8 - (j + 1) : Nat) : Int) = K2 at *
        have hK3 := Lib.hid hK2
        clear hK2
        have d6 : decide ((1 : Int) ≤ K) = true := decide_eq_true d5
        go_wp2_with fail
        go_roundw
        case rel => exact ⟨j + 1, by omega, by rw [hK3.out], rfl, by trivial⟩
        case measure => simp [intOf]; have := hK1.out; omega
      · obtain rfl : j = 8 := by omega
        go_wp2_with fail
        go_ret
        exact ⟨rfl, rfl⟩
  · have r3 := run_fop_some (P := Try.prog) (op := .sub) 22 .f64 _ _ _ (k1 rfl)
    have r4 := run_fop_some (P := Try.prog) (op := .sub) 22 .f64 _ _ _ (k3 rfl)
    clear k1 k2 k3 k4
    go_enter Try.func14, Try.ntmps14
    go_wp2_with (first | (go_at_call 11; (with_reducible refine hp.out.mono ?_); rintro e w' ⟨rfl, rfl⟩))
    go_loopw [7, 8] (fun pv iv wr => ∃ j : Nat, j ≤ 8 ∧ iv = .int .i64 ((8 - j : Nat) : Int) ∧ pv = .float .f64 (P j) ∧ wr = w) (fun _ iv _ => (intOf iv).toNat)
    case atStart => exact ⟨0, by omega, rfl, by rw [hs0.out], rfl⟩
    case round =>
      obtain ⟨j, hj, rfl, rfl, rfl⟩ := hrel
      by_cases hlt : j < 8
      · obtain ⟨a1, a2, a3⟩ := hR.out j hlt
        obtain ⟨d1, d2, d3, d4, d5⟩ := den_wraps j hlt
        have hK1 := Lib.hid (show ((8 - (j + 1) : Nat) : Int) < ((8 - j : Nat) : Int) ∧ 0 ≤ ((8 - (j + 1) : Nat) : Int) by omega)
        generalize fop .quo .f64 (fop .mul .f64 u (P j)) _ = Y at *
        generalize fop .mul .f64 u (P j) = X at *
        generalize ((8 - j : Nat) : Int) = K at *
        generalize hK2 : ((8 - (j + 1) : Nat) : Int) = K2 at *
        have hK3 := Lib.hid hK2
        clear hK2
        have d6 : decide ((1 : Int) ≤ K) = true := decide_eq_true d5
        go_wp2_with fail
        go_roundw
        case rel => exact ⟨j + 1, by omega, by rw [hK3.out], rfl, by trivial⟩
        case measure => simp [intOf]; have := hK1.out; omega
      · obtain rfl : j = 8 := by omega
        go_wp2_with fail
        go_ret
        exact ⟨rfl, rfl⟩
theorem sub_same {x : Nat} (h : finite Ieee.double x = true) : floatBits .sub .f64 x x = some 0 := by
  obtain ⟨s, m, e, hr⟩ := (finite_iff double_hb x).1 h
  show ((Ieee.double.read x).sum (Ieee.double.read x).opposite).map Ieee.double.write = some 0
  rw [hr]
  have hs : (Ieee.Datum.number s m e).sum (Ieee.Datum.number s m e).opposite = some (.number false 0 e) := by
    simp only [Ieee.Datum.opposite, Ieee.Datum.sum, Int.min_self, Int.sub_self, Int.toNat_zero]
    have : Ieee.signed s m 0 + Ieee.signed (!s) m 0 = 0 := by unfold Ieee.signed; cases s <;> simp <;> omega
    rw [this]; cases s <;> rfl
  rw [hs]; rfl
set_option maxHeartbeats 4000000 in
set_option maxRecDepth 100000 in
theorem sineWide_in (y : Nat) (hy : Mag 1126 y) (hA : (FloatKind.f64.format.order y 4841369599423283200 == some .gt || FloatKind.f64.format.order y 4841369599423283200 == some .eq) = false) (hBb : (FloatKind.f64.format.order y 14064741636278059008 == some .lt || FloatKind.f64.format.order y 14064741636278059008 == some .eq) = false) (w : World) : Calls Try.prog 17 #[.float .f64 y] w fun e w' => e = .returned (.float .f64 (sineW y)) ∧ w = w' := by
  have hid64 := run_same (P := Try.prog) 22 .f64 Try.underlying22
  have ht := trunc_run hy
  have hs := run_fop_some (P := Try.prog) (op := .sub) 22 .f64 y _ _ (some_fop (part_sub hy))
  have hdm := fop_of (p := Mag 1074) (part_sub hy)
  have hfin : finite Ieee.double y = true := by
    obtain ⟨s, m, e, hr, _⟩ := hy.read (by omega)
    exact (finite_iff double_hb y).2 ⟨s, m, e, hr⟩
  have hsy := run_fop_some (P := Try.prog) (op := .sub) 22 .f64 y y 0 (sub_same hfin)
  have h00 : (FloatKind.f64.format.order 0 0 != some .eq) = false := by decide
  have hpc : partC y = if (Ieee.double.order (fop .sub .f64 y (floatOfInt .f64 (intC y))) 0 == some .lt) then fop .add .f64 (fop .sub .f64 y (floatOfInt .f64 (intC y))) one else fop .sub .f64 y (floatOfInt .f64 (intC y)) := rfl
  have ha := run_fop_some (P := Try.prog) (op := .add) 22 .f64 (fop .sub .f64 y (floatOfInt .f64 (intC y))) one _ (some_fop (hdm.add (Mag.const (k := 1074) (by omega) (by omega) (by decide)) (by omega) (by omega)))
  have hol : (FloatKind.f64.format.order (fop .sub .f64 y (floatOfInt .f64 (intC y))) 0 == some .lt) = (Ieee.double.order (fop .sub .f64 y (floatOfInt .f64 (intC y))) 0 == some .lt) := rfl
  generalize (Ieee.double.order (fop .sub .f64 y (floatOfInt .f64 (intC y))) 0 == some .lt) = low at *
  generalize fop .sub .f64 y (floatOfInt .f64 (intC y)) = d0 at *
  unfold one at ha hpc
  generalize fop .add .f64 d0 4607182418800017408 = d1 at *
  clear hdm hfin
  have hw := wave_of (partC_mag hy) (geC (partC y) halfW) (Ieee.double.order (sideC (geC (partC y) halfW) (partC y)) quartW == some .gt)
  unfold sineW waveC
  have hb : (FloatKind.f64.format.order (partC y) 4602678819172646912 == some .gt || FloatKind.f64.format.order (partC y) 4602678819172646912 == some .eq) = geC (partC y) halfW := rfl
  have ho : (FloatKind.f64.format.order (sideC (geC (partC y) halfW) (partC y)) 4598175219545276416 == some .gt) = (Ieee.double.order (sideC (geC (partC y) halfW) (partC y)) quartW == some .gt) := rfl
  generalize (Ieee.double.order (sideC (geC (partC y) halfW) (partC y)) quartW == some .gt) = over at *
  generalize geC (partC y) halfW = below at *
  generalize partC y = f at *
  generalize sideC below f = g at *
  generalize foldC over g = F at *
  dsimp only
  generalize fop .mul .f64 F circleW = z at *
  generalize fop .mul .f64 z z = u at *
  obtain ⟨k1, k2, k3, k4, k5, k6, k7, k8, k9, k10⟩ := hw
  have r5 := run_fop_some (P := Try.prog) (op := .mul) 22 .f64 F 4618760256179416344 z k5
  have r6 := run_fop_some (P := Try.prog) (op := .mul) 22 .f64 z z u k6
  have r10 := run_fop_some (P := Try.prog) (op := .mul) 22 .f64 z (serS u 8) _ k10
  generalize fop .mul .f64 z (serS u 8) = S at *
  have hR : Hid (∀ j, j < 8 → (∀ W, (binOp .mul 22 (.float .f64 u) (.float .f64 (serS u j))).run Try.prog W = .ok (.float .f64 (fop .mul .f64 u (serS u j))) W) ∧ (∀ W, (binOp .quo 22 (.float .f64 (fop .mul .f64 u (serS u j))) (.float .f64 (floatOfInt .f64 (2 * ((8 - j : Nat) : Int) * (2 * ((8 - j : Nat) : Int) + 1))))).run Try.prog W = .ok (.float .f64 (fop .quo .f64 (fop .mul .f64 u (serS u j)) (floatOfInt .f64 (2 * ((8 - j : Nat) : Int) * (2 * ((8 - j : Nat) : Int) + 1))))) W) ∧ (∀ W, (binOp .sub 22 (.float .f64 4607182418800017408) (.float .f64 (fop .quo .f64 (fop .mul .f64 u (serS u j)) (floatOfInt .f64 (2 * ((8 - j : Nat) : Int) * (2 * ((8 - j : Nat) : Int) + 1)))))).run Try.prog W = .ok (.float .f64 (serS u (j + 1))) W)) :=
    Lib.hid fun j hj => ⟨run_fop_some (P := Try.prog) (op := .mul) 22 .f64 _ _ _ (k7 j hj), run_fop_some (P := Try.prog) (op := .quo) 22 .f64 _ _ _ (k8 j hj), run_fop_some (P := Try.prog) (op := .sub) 22 .f64 _ _ _ (k9 j hj)⟩
  have hs0 : Hid (serS u 0 = 4607182418800017408) := Lib.hid rfl
  clear hy k5 k6 k7 k8 k9 k10
  generalize serS u = P at *
  cases below <;> cases over <;> cases low
  · have hfd : f = d0 := hpc
    subst hfd
    clear hpc
    obtain rfl := k2 rfl
    obtain rfl := k4 rfl
    clear k1 k2 k3 k4
    go_enter Try.func17, Try.ntmps17
    go_wp2_with fail
    go_loopw [7, 8] (fun pv iv wr => ∃ j : Nat, j ≤ 8 ∧ iv = .int .i64 ((8 - j : Nat) : Int) ∧ pv = .float .f64 (P j) ∧ wr = w) (fun _ iv _ => (intOf iv).toNat)
    case atStart => exact ⟨0, by omega, rfl, by rw [hs0.out], rfl⟩
    case round =>
      obtain ⟨j, hj, rfl, rfl, rfl⟩ := hrel
      by_cases hlt : j < 8
      · obtain ⟨a1, a2, a3⟩ := hR.out j hlt
        obtain ⟨d1, d2, d3, d4, d5⟩ := den_wraps j hlt
        have hK1 := Lib.hid (show ((8 - (j + 1) : Nat) : Int) < ((8 - j : Nat) : Int) ∧ 0 ≤ ((8 - (j + 1) : Nat) : Int) by omega)
        generalize fop .quo .f64 (fop .mul .f64 u (P j)) _ = Y at *
        generalize fop .mul .f64 u (P j) = X at *
        generalize ((8 - j : Nat) : Int) = K at *
        generalize hK2 : ((8 - (j + 1) : Nat) : Int) = K2 at *
        have hK3 := Lib.hid hK2
        clear hK2
        have d6 : decide ((1 : Int) ≤ K) = true := decide_eq_true d5
        go_wp2_with fail
        go_roundw
        case rel => exact ⟨j + 1, by omega, by rw [hK3.out], rfl, by trivial⟩
        case measure => simp [intOf]; have := hK1.out; omega
      · obtain rfl : j = 8 := by omega
        go_wp2_with fail
        go_ret
        exact ⟨rfl, rfl⟩
  · have hfd : f = d1 := hpc
    subst hfd
    clear hpc
    obtain rfl := k2 rfl
    obtain rfl := k4 rfl
    clear k1 k2 k3 k4
    go_enter Try.func17, Try.ntmps17
    go_wp2_with fail
    go_loopw [7, 8] (fun pv iv wr => ∃ j : Nat, j ≤ 8 ∧ iv = .int .i64 ((8 - j : Nat) : Int) ∧ pv = .float .f64 (P j) ∧ wr = w) (fun _ iv _ => (intOf iv).toNat)
    case atStart => exact ⟨0, by omega, rfl, by rw [hs0.out], rfl⟩
    case round =>
      obtain ⟨j, hj, rfl, rfl, rfl⟩ := hrel
      by_cases hlt : j < 8
      · obtain ⟨a1, a2, a3⟩ := hR.out j hlt
        obtain ⟨d1, d2, d3, d4, d5⟩ := den_wraps j hlt
        have hK1 := Lib.hid (show ((8 - (j + 1) : Nat) : Int) < ((8 - j : Nat) : Int) ∧ 0 ≤ ((8 - (j + 1) : Nat) : Int) by omega)
        generalize fop .quo .f64 (fop .mul .f64 u (P j)) _ = Y at *
        generalize fop .mul .f64 u (P j) = X at *
        generalize ((8 - j : Nat) : Int) = K at *
        generalize hK2 : ((8 - (j + 1) : Nat) : Int) = K2 at *
        have hK3 := Lib.hid hK2
        clear hK2
        have d6 : decide ((1 : Int) ≤ K) = true := decide_eq_true d5
        go_wp2_with fail
        go_roundw
        case rel => exact ⟨j + 1, by omega, by rw [hK3.out], rfl, by trivial⟩
        case measure => simp [intOf]; have := hK1.out; omega
      · obtain rfl : j = 8 := by omega
        go_wp2_with fail
        go_ret
        exact ⟨rfl, rfl⟩
  · have hfd : f = d0 := hpc
    subst hfd
    clear hpc
    obtain rfl := k2 rfl
    have r4 := run_fop_some (P := Try.prog) (op := .sub) 22 .f64 _ _ _ (k3 rfl)
    clear k1 k2 k3 k4
    go_enter Try.func17, Try.ntmps17
    go_wp2_with fail
    go_loopw [7, 8] (fun pv iv wr => ∃ j : Nat, j ≤ 8 ∧ iv = .int .i64 ((8 - j : Nat) : Int) ∧ pv = .float .f64 (P j) ∧ wr = w) (fun _ iv _ => (intOf iv).toNat)
    case atStart => exact ⟨0, by omega, rfl, by rw [hs0.out], rfl⟩
    case round =>
      obtain ⟨j, hj, rfl, rfl, rfl⟩ := hrel
      by_cases hlt : j < 8
      · obtain ⟨a1, a2, a3⟩ := hR.out j hlt
        obtain ⟨d1, d2, d3, d4, d5⟩ := den_wraps j hlt
        have hK1 := Lib.hid (show ((8 - (j + 1) : Nat) : Int) < ((8 - j : Nat) : Int) ∧ 0 ≤ ((8 - (j + 1) : Nat) : Int) by omega)
        generalize fop .quo .f64 (fop .mul .f64 u (P j)) _ = Y at *
        generalize fop .mul .f64 u (P j) = X at *
        generalize ((8 - j : Nat) : Int) = K at *
        generalize hK2 : ((8 - (j + 1) : Nat) : Int) = K2 at *
        have hK3 := Lib.hid hK2
        clear hK2
        have d6 : decide ((1 : Int) ≤ K) = true := decide_eq_true d5
        go_wp2_with fail
        go_roundw
        case rel => exact ⟨j + 1, by omega, by rw [hK3.out], rfl, by trivial⟩
        case measure => simp [intOf]; have := hK1.out; omega
      · obtain rfl : j = 8 := by omega
        go_wp2_with fail
        go_ret
        exact ⟨rfl, rfl⟩
  · have hfd : f = d1 := hpc
    subst hfd
    clear hpc
    obtain rfl := k2 rfl
    have r4 := run_fop_some (P := Try.prog) (op := .sub) 22 .f64 _ _ _ (k3 rfl)
    clear k1 k2 k3 k4
    go_enter Try.func17, Try.ntmps17
    go_wp2_with fail
    go_loopw [7, 8] (fun pv iv wr => ∃ j : Nat, j ≤ 8 ∧ iv = .int .i64 ((8 - j : Nat) : Int) ∧ pv = .float .f64 (P j) ∧ wr = w) (fun _ iv _ => (intOf iv).toNat)
    case atStart => exact ⟨0, by omega, rfl, by rw [hs0.out], rfl⟩
    case round =>
      obtain ⟨j, hj, rfl, rfl, rfl⟩ := hrel
      by_cases hlt : j < 8
      · obtain ⟨a1, a2, a3⟩ := hR.out j hlt
        obtain ⟨d1, d2, d3, d4, d5⟩ := den_wraps j hlt
        have hK1 := Lib.hid (show ((8 - (j + 1) : Nat) : Int) < ((8 - j : Nat) : Int) ∧ 0 ≤ ((8 - (j + 1) : Nat) : Int) by omega)
        generalize fop .quo .f64 (fop .mul .f64 u (P j)) _ = Y at *
        generalize fop .mul .f64 u (P j) = X at *
        generalize ((8 - j : Nat) : Int) = K at *
        generalize hK2 : ((8 - (j + 1) : Nat) : Int) = K2 at *
        have hK3 := Lib.hid hK2
        clear hK2
        have d6 : decide ((1 : Int) ≤ K) = true := decide_eq_true d5
        go_wp2_with fail
        go_roundw
        case rel => exact ⟨j + 1, by omega, by rw [hK3.out], rfl, by trivial⟩
        case measure => simp [intOf]; have := hK1.out; omega
      · obtain rfl : j = 8 := by omega
        go_wp2_with fail
        go_ret
        exact ⟨rfl, rfl⟩
  · have hfd : f = d0 := hpc
    subst hfd
    clear hpc
    have r3 := run_fop_some (P := Try.prog) (op := .sub) 22 .f64 _ _ _ (k1 rfl)
    obtain rfl := k4 rfl
    clear k1 k2 k3 k4
    go_enter Try.func17, Try.ntmps17
    go_wp2_with fail
    go_loopw [7, 8] (fun pv iv wr => ∃ j : Nat, j ≤ 8 ∧ iv = .int .i64 ((8 - j : Nat) : Int) ∧ pv = .float .f64 (P j) ∧ wr = w) (fun _ iv _ => (intOf iv).toNat)
    case atStart => exact ⟨0, by omega, rfl, by rw [hs0.out], rfl⟩
    case round =>
      obtain ⟨j, hj, rfl, rfl, rfl⟩ := hrel
      by_cases hlt : j < 8
      · obtain ⟨a1, a2, a3⟩ := hR.out j hlt
        obtain ⟨d1, d2, d3, d4, d5⟩ := den_wraps j hlt
        have hK1 := Lib.hid (show ((8 - (j + 1) : Nat) : Int) < ((8 - j : Nat) : Int) ∧ 0 ≤ ((8 - (j + 1) : Nat) : Int) by omega)
        generalize fop .quo .f64 (fop .mul .f64 u (P j)) _ = Y at *
        generalize fop .mul .f64 u (P j) = X at *
        generalize ((8 - j : Nat) : Int) = K at *
        generalize hK2 : ((8 - (j + 1) : Nat) : Int) = K2 at *
        have hK3 := Lib.hid hK2
        clear hK2
        have d6 : decide ((1 : Int) ≤ K) = true := decide_eq_true d5
        go_wp2_with fail
        go_roundw
        case rel => exact ⟨j + 1, by omega, by rw [hK3.out], rfl, by trivial⟩
        case measure => simp [intOf]; have := hK1.out; omega
      · obtain rfl : j = 8 := by omega
        go_wp2_with fail
        go_ret
        exact ⟨rfl, rfl⟩
  · have hfd : f = d1 := hpc
    subst hfd
    clear hpc
    have r3 := run_fop_some (P := Try.prog) (op := .sub) 22 .f64 _ _ _ (k1 rfl)
    obtain rfl := k4 rfl
    clear k1 k2 k3 k4
    go_enter Try.func17, Try.ntmps17
    go_wp2_with fail
    go_loopw [7, 8] (fun pv iv wr => ∃ j : Nat, j ≤ 8 ∧ iv = .int .i64 ((8 - j : Nat) : Int) ∧ pv = .float .f64 (P j) ∧ wr = w) (fun _ iv _ => (intOf iv).toNat)
    case atStart => exact ⟨0, by omega, rfl, by rw [hs0.out], rfl⟩
    case round =>
      obtain ⟨j, hj, rfl, rfl, rfl⟩ := hrel
      by_cases hlt : j < 8
      · obtain ⟨a1, a2, a3⟩ := hR.out j hlt
        obtain ⟨d1, d2, d3, d4, d5⟩ := den_wraps j hlt
        have hK1 := Lib.hid (show ((8 - (j + 1) : Nat) : Int) < ((8 - j : Nat) : Int) ∧ 0 ≤ ((8 - (j + 1) : Nat) : Int) by omega)
        generalize fop .quo .f64 (fop .mul .f64 u (P j)) _ = Y at *
        generalize fop .mul .f64 u (P j) = X at *
        generalize ((8 - j : Nat) : Int) = K at *
        generalize hK2 : ((8 - (j + 1) : Nat) : Int) = K2 at *
        have hK3 := Lib.hid hK2
        clear hK2
        have d6 : decide ((1 : Int) ≤ K) = true := decide_eq_true d5
        go_wp2_with fail
        go_roundw
        case rel => exact ⟨j + 1, by omega, by rw [hK3.out], rfl, by trivial⟩
        case measure => simp [intOf]; have := hK1.out; omega
      · obtain rfl : j = 8 := by omega
        go_wp2_with fail
        go_ret
        exact ⟨rfl, rfl⟩
  · have hfd : f = d0 := hpc
    subst hfd
    clear hpc
    have r3 := run_fop_some (P := Try.prog) (op := .sub) 22 .f64 _ _ _ (k1 rfl)
    have r4 := run_fop_some (P := Try.prog) (op := .sub) 22 .f64 _ _ _ (k3 rfl)
    clear k1 k2 k3 k4
    go_enter Try.func17, Try.ntmps17
    go_wp2_with fail
    go_loopw [7, 8] (fun pv iv wr => ∃ j : Nat, j ≤ 8 ∧ iv = .int .i64 ((8 - j : Nat) : Int) ∧ pv = .float .f64 (P j) ∧ wr = w) (fun _ iv _ => (intOf iv).toNat)
    case atStart => exact ⟨0, by omega, rfl, by rw [hs0.out], rfl⟩
    case round =>
      obtain ⟨j, hj, rfl, rfl, rfl⟩ := hrel
      by_cases hlt : j < 8
      · obtain ⟨a1, a2, a3⟩ := hR.out j hlt
        obtain ⟨d1, d2, d3, d4, d5⟩ := den_wraps j hlt
        have hK1 := Lib.hid (show ((8 - (j + 1) : Nat) : Int) < ((8 - j : Nat) : Int) ∧ 0 ≤ ((8 - (j + 1) : Nat) : Int) by omega)
        generalize fop .quo .f64 (fop .mul .f64 u (P j)) _ = Y at *
        generalize fop .mul .f64 u (P j) = X at *
        generalize ((8 - j : Nat) : Int) = K at *
        generalize hK2 : ((8 - (j + 1) : Nat) : Int) = K2 at *
        have hK3 := Lib.hid hK2
        clear hK2
        have d6 : decide ((1 : Int) ≤ K) = true := decide_eq_true d5
        go_wp2_with fail
        go_roundw
        case rel => exact ⟨j + 1, by omega, by rw [hK3.out], rfl, by trivial⟩
        case measure => simp [intOf]; have := hK1.out; omega
      · obtain rfl : j = 8 := by omega
        go_wp2_with fail
        go_ret
        exact ⟨rfl, rfl⟩
  · have hfd : f = d1 := hpc
    subst hfd
    clear hpc
    have r3 := run_fop_some (P := Try.prog) (op := .sub) 22 .f64 _ _ _ (k1 rfl)
    have r4 := run_fop_some (P := Try.prog) (op := .sub) 22 .f64 _ _ _ (k3 rfl)
    clear k1 k2 k3 k4
    go_enter Try.func17, Try.ntmps17
    go_wp2_with fail
    go_loopw [7, 8] (fun pv iv wr => ∃ j : Nat, j ≤ 8 ∧ iv = .int .i64 ((8 - j : Nat) : Int) ∧ pv = .float .f64 (P j) ∧ wr = w) (fun _ iv _ => (intOf iv).toNat)
    case atStart => exact ⟨0, by omega, rfl, by rw [hs0.out], rfl⟩
    case round =>
      obtain ⟨j, hj, rfl, rfl, rfl⟩ := hrel
      by_cases hlt : j < 8
      · obtain ⟨a1, a2, a3⟩ := hR.out j hlt
        obtain ⟨d1, d2, d3, d4, d5⟩ := den_wraps j hlt
        have hK1 := Lib.hid (show ((8 - (j + 1) : Nat) : Int) < ((8 - j : Nat) : Int) ∧ 0 ≤ ((8 - (j + 1) : Nat) : Int) by omega)
        generalize fop .quo .f64 (fop .mul .f64 u (P j)) _ = Y at *
        generalize fop .mul .f64 u (P j) = X at *
        generalize ((8 - j : Nat) : Int) = K at *
        generalize hK2 : ((8 - (j + 1) : Nat) : Int) = K2 at *
        have hK3 := Lib.hid hK2
        clear hK2
        have d6 : decide ((1 : Int) ≤ K) = true := decide_eq_true d5
        go_wp2_with fail
        go_roundw
        case rel => exact ⟨j + 1, by omega, by rw [hK3.out], rfl, by trivial⟩
        case measure => simp [intOf]; have := hK1.out; omega
      · obtain rfl : j = 8 := by omega
        go_wp2_with fail
        go_ret
        exact ⟨rfl, rfl⟩
end Go.Proofs.Ytjpmliigepegaaa
