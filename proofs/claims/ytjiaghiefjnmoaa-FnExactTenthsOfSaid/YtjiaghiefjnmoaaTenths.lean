/- Tenths of decibels: the model's and the program's, alike, for every float32. -/
import Derived.Test.YtjiaghiefjnmoaaLog2
import Derived.Test.YtjiaghiefjnmoaaFloatTenths
import Derived.Test.YtjiaghiefjnmoaaOwn
namespace Go.Proofs.Ytjiaghiefjnmoaa
open Go.RowKit Go.Lst FloatKit

/-- A float32 that is a number above zero. -/
def okTen (x : Nat) : Bool := decide (0 < x ∧ x < 2139095040)
def tenT (x : Nat) : Nat := fop .add .f64 (fop .mul .f64 (logC (redX (widen x)) (redE (widen x))) 4631308968768463603) 4602678819172646912
def tenR (x : Nat) : Int := if okTen x then intC (floorC (tenT x)) else 0
theorem ten_some {op : BinOp} {k : FloatKind} {x y : Nat} {p : Nat → Prop} (h : ∃ r, floatBits op k x y = some r ∧ p r) : floatBits op k x y = some (fop op k x y) := by
  obtain ⟨r, hr, _⟩ := h
  rw [hr, fop_some hr]
theorem cmpT_lt {a b : Int} (h : a < b) : compare a b = .lt := by simp [compare, compareOfLessAndEq, h]
theorem cmpT_same (a : Int) : compare a a = .eq := by simp [compare, compareOfLessAndEq]
theorem cmpT_gt {a b : Int} (h : b < a) : compare a b = .gt := by simp [compare, compareOfLessAndEq, show ¬ a < b by omega, show ¬ a = b by omega]
theorem testT_le (a b : Int) : ((some (compare a b) == some .lt) || (some (compare a b) == some .eq)) = decide (a ≤ b) := by
  rcases Int.lt_trichotomy a b with h | h | h
  · rw [cmpT_lt h, decide_eq_true (by omega)]; rfl
  · subst h; rw [cmpT_same, decide_eq_true (by omega)]; rfl
  · rw [cmpT_gt h, decide_eq_false (by omega)]; rfl
/-- What is finite is above zero, or not. -/
theorem le_zero {x : Nat} (hx : x < 4294967296) (hf : finite Ieee.single x = true) : (FloatKind.f32.format.order x 0 == some .lt || FloatKind.f32.format.order x 0 == some .eq) = !okTen x := by
  have e1 : FloatKind.f32.format.order x 0 = some (compare (sval Ieee.single x) (sval Ieee.single 0)) := order_sval single_hb (finite_nan hf) (by decide)
  have e2 : sval Ieee.single 0 = 0 := by decide +kernel
  rw [e1, e2, testT_le]
  have hlt : x % 2147483648 < 2139095040 := by
    unfold finite at hf
    rw [single_sw, single_inf] at hf
    exact of_decide_eq_true hf
  have hz : rungVal Ieee.single 0 = 0 := rungVal_zero _
  unfold okTen
  by_cases h1 : x < 2147483648
  · have hs : sval Ieee.single x = (rungVal Ieee.single x : Int) := by
      unfold sval
      rw [single_sw, Nat.div_eq_of_lt h1, Nat.mod_eq_of_lt h1]; rfl
    rw [hs]
    by_cases h0 : x = 0
    · rw [h0, hz]; decide
    · have := rungVal_lt (f := Ieee.single) (a := 0) (b := x) (by omega)
      rw [hz] at this
      rw [decide_eq_true (show 0 < x ∧ x < 2139095040 by omega), decide_eq_false (by omega)]; rfl
  · have hs : sval Ieee.single x = -(rungVal Ieee.single (x % 2147483648) : Int) := by
      unfold sval
      rw [single_sw, show x / 2147483648 = 1 by omega]; rfl
    rw [hs, decide_eq_true (by omega), decide_eq_false (show ¬ (0 < x ∧ x < 2139095040) by omega)]; rfl
theorem okTen_fin {x : Nat} (h : finite Ieee.single x = false) : okTen x = false := by
  unfold okTen
  unfold finite at h
  rw [single_sw, single_inf] at h
  have := of_decide_eq_false h
  exact decide_eq_false (by omega)
theorem red_bounds {y : Nat} (h1 : 4503599627370496 ≤ y) (h2 : y < 9218868437227405312) : redX y < 4609434218613702656 ∧ Mag 1090 (floatOfInt .f64 (redE y)) := by
  have hX : redX y < 4609434218613702656 := by
    unfold redX
    split
    · omega
    · split <;> omega
  have hE : (redE y).natAbs ≤ 65536 := by
    unfold redE
    split
    · omega
    · split <;> omega
  exact ⟨hX, floatOfInt_mag hE⟩
/-- What the walks want of a number above zero. -/
theorem ten_facts {x : Nat} (h : okTen x = true) : (∀ d, Eqv Ieee.double d (logC (redX (widen x)) (redE (widen x))) → d = logC (redX (widen x)) (redE (widen x))) ∧
    floatBits .mul .f64 (logC (redX (widen x)) (redE (widen x))) 4631308968768463603 = some (fop .mul .f64 (logC (redX (widen x)) (redE (widen x))) 4631308968768463603) ∧
    floatBits .add .f64 (fop .mul .f64 (logC (redX (widen x)) (redE (widen x))) 4631308968768463603) 4602678819172646912 = some (tenT x) ∧
    (∃ s m e, Ieee.double.read (tenT x) = .number s m e) ∧ floatToIntVal .f64 (floorC (tenT x)) .i64 = some (intC (floorC (tenT x))) := by
  obtain ⟨h0, h1⟩ := of_decide_eq_true h
  obtain ⟨g1, g2⟩ := widen_normal h0 h1
  obtain ⟨hX, hE⟩ := red_bounds g1 g2
  have hm := logC_small hX hE
  have s1 := hm.mul (c := 1098) (Mag.const (k := 1080) (x := 4631308968768463603) (by omega) (by omega) (by decide)) (by omega) (by omega) (by omega) (by omega) (by omega)
  have m1 := fop_of (p := Mag 1098) s1
  have s2 := m1.add (Mag.const (k := 1098) (x := 4602678819172646912) (by omega) (by omega) (by decide)) (by omega) (by omega)
  have m2 := fop_of (p := Mag 1099) s2
  refine ⟨fun d hd => hd.eq hm.1, ten_some s1, ten_some s2, ?_, ?_⟩
  · obtain ⟨s, m, e, hr, _⟩ := m2.read (by omega)
    exact ⟨s, m, e, hr⟩
  · have m3 : Mag (1074 + 25) (floorC (tenT x)) := floorC_mag (k := 25) m2 (by omega)
    obtain ⟨h3, h4⟩ := intC_le (k := 25) m3 (by omega)
    unfold floatToIntVal
    show (match (Ieee.double.read (floorC (tenT x))).toInt .zero with | some n => if IntKind.i64.min ≤ n ∧ n ≤ IntKind.i64.max then some n else none | none => none) = _
    rw [h3]
    have e1 : IntKind.i64.min = -9223372036854775808 := rfl
    have e2 : IntKind.i64.max = 9223372036854775807 := rfl
    show (if IntKind.i64.min ≤ intC (floorC (tenT x)) ∧ intC (floorC (tenT x)) ≤ IntKind.i64.max then some (intC (floorC (tenT x))) else none) = _
    rw [e1, e2, if_pos (by omega)]
theorem floor_form : ∃ g : Nat → Bool → Nat → Sem Value, ∀ x, Extern.MathFloor.toIntegral "math.archFloor" .down #[.float .f64 x] = (match FloatKind.f64.decode x with
    | .nan s t => g x s t
    | d => pure (.float .f64 (FloatKind.f64.encode (d.integral .down)))) := ⟨_, fun _ => rfl⟩
theorem archFloor_run {x : Nat} {s : Bool} {m : Nat} {e : Int} (h : Ieee.double.read x = .number s m e) (w : World) : (callFunc 30 #[.float .f64 x]).run Try.prog w = .ok (.value (.float .f64 (floorC x))) w := by
  rw [run_callFunc_extern (P := Try.prog) (e := Extern.MathFloor.toIntegral "math.archFloor" .down) Try.func30 (by kernel_rfl) (by kernel_rfl) (by kernel_rfl) (by kernel_rfl)]
  have h2 : FloatKind.f64.decode x = .number s m e := h
  obtain ⟨g, hg⟩ := floor_form
  rw [hg, h2]
  unfold floorC
  rw [h]
  rfl
set_option maxHeartbeats 400000 in
theorem floor_any {x : Nat} (h : ∃ s m e, Ieee.double.read x = .number s m e) (w : World) : Calls Try.prog 19 #[.float .f64 x] w fun e w' => e = .returned (.float .f64 (floorC x)) ∧ w = w' := by
  obtain ⟨s, m, e, hr⟩ := h
  have hf := archFloor_run hr
  clear hr
  generalize floorC x = y at *
  go_enter Try.func19, Try.ntmps19
  go_wp2_with fail
  go_ret
  exact ⟨rfl, rfl⟩
set_option maxHeartbeats 1000000 in
theorem l01Tenths_any (x : Nat) (hq : okTen x = true) (w : World) : Calls Try.prog 17 #[.float .f32 x] w fun e w' => ∃ n, e = .returned (.int .i64 (intC (floorC (tenT x)))) ∧ w' = w.drewN n := by
  obtain ⟨h0, h1⟩ := of_decide_eq_true hq
  obtain ⟨g1, g2⟩ := widen_normal h0 h1
  have hn : isNaN Ieee.single x = false := by rw [nan_above single_hb, single_sw, single_inf, Nat.mod_eq_of_lt (by omega)]; exact decide_eq_false (by omega)
  have hcx := run_widen_num (P := Try.prog) 22 25 u32_some Try.underlying25 x hn
  have hC := Lib.hid (fun w' => l01LogWide_pos (widen x) g1 g2 w')
  obtain ⟨t1, t2, t3, t4, t5⟩ := ten_facts hq
  have hT := Lib.hid t1
  have hF := Lib.hid (fun w' => floor_any t4 w')
  have hv := run_convert_float_int (P := Try.prog) (src := 25) (dst := 2) (s := .f64) (k := .i64) (hs := u64_some) (hd := Try.underlying2) (h := t5)
  have r1 := run_fop_some (P := Try.prog) (op := .mul) 25 .f64 _ _ _ t2
  have r2 := run_fop_some (P := Try.prog) (op := .add) 25 .f64 _ _ _ t3
  clear t1 t2 t3 t4 t5 hq h0 h1 g1 g2 hn
  generalize tenT x = T at *
  generalize logC (redX (widen x)) (redE (widen x)) = L at *
  generalize fop .mul .f64 L 4631308968768463603 = M at *
  generalize intC (floorC T) = N at *
  generalize floorC T = Fl at *
  have hid64 := run_same (P := Try.prog) 25 .f64 Try.underlying25
  go_enter Try.func17, Try.ntmps17
  go_wp2_with (first | (go_at_call 29; refine (hC.out _).mono ?_; rintro e w' ⟨d, m, rfl, hd, _, rfl⟩; obtain rfl := hT.out d hd) | (go_at_call 19; refine (hF.out _).mono ?_; rintro e w' ⟨rfl, rfl⟩))
  go_ret
  exact ⟨_, rfl, rfl⟩
set_option maxHeartbeats 1000000 in
theorem specTenthsOf_any (x : Nat) (hx : x < 4294967296) (w : World) : Calls Try.prog 8 #[.float .f32 x] w fun e w' => ∃ n, e = .returned (.tuple #[.int .i64 (tenR x), .bool (okTen x)]) ∧ w' = w.drewN n := by
  have hfin := Lib.hid (fun w' => l01Finite_any x w')
  cases hf : finite Ieee.single x
  · have hq := okTen_fin hf
    have hr : tenR x = 0 := by unfold tenR; rw [hq]; rfl
    rw [hq, hr]
    rw [hf] at hfin
    clear hf hq hr hx
    go_enter Try.func8, Try.ntmps8
    go_wp2_with (go_at_call 16; refine (hfin.out _).mono ?_; rintro e w' ⟨m, rfl, rfl⟩)
    first | exact ⟨_, rfl, rfl⟩ | (go_ret2; exact ⟨_, rfl, rfl⟩)
  · have hle := le_zero hx hf
    rw [hf] at hfin
    cases hq : okTen x
    · have hr : tenR x = 0 := by unfold tenR; rw [hq]; rfl
      rw [hr]
      rw [hq] at hle
      have hle2 : (FloatKind.f32.format.order x 0 == some .lt || FloatKind.f32.format.order x 0 == some .eq) = true := hle
      clear hf hq hr hx hle
      go_enter Try.func8, Try.ntmps8
      go_wp2_with (go_at_call 16; refine (hfin.out _).mono ?_; rintro e w' ⟨m, rfl, rfl⟩)
      first | exact ⟨_, rfl, rfl⟩ | (go_ret2; exact ⟨_, rfl, rfl⟩)
    · have hr : tenR x = intC (floorC (tenT x)) := by unfold tenR; rw [hq]; rfl
      have hT := Lib.hid (fun w' => l01Tenths_any x hq w')
      rw [← hr] at hT
      rw [hq] at hle
      have hle2 : (FloatKind.f32.format.order x 0 == some .lt || FloatKind.f32.format.order x 0 == some .eq) = false := hle
      clear hf hq hr hx hle
      generalize tenR x = N at *
      go_enter Try.func8, Try.ntmps8
      go_wp2_with (first | (go_at_call 16; refine (hfin.out _).mono ?_; rintro e w' ⟨m, rfl, rfl⟩) | (go_at_call 17; refine (hT.out _).mono ?_; rintro e w' ⟨m2, rfl, rfl⟩))
      first | exact ⟨_, rfl, rfl⟩ | (go_ret2; exact ⟨_, rfl, rfl⟩)
set_option maxHeartbeats 1000000 in
theorem implTenthsOf_any (x : Nat) (hx : x < 4294967296) (w : World) : Calls Try.prog 9 #[.float .f32 x] w fun e w' => ∃ n, e = .returned (.tuple #[.int .i64 (tenR x), .bool (okTen x)]) ∧ w' = w.drewN n := by
  have hfin := Lib.hid (fun w' => isFinite_any x w')
  cases hf : finite Ieee.single x
  · have hq := okTen_fin hf
    have hr : tenR x = 0 := by unfold tenR; rw [hq]; rfl
    rw [hq, hr]
    rw [hf] at hfin
    clear hf hq hr hx
    go_enter Try.func9, Try.ntmps9
    go_wp2_with (go_at_call 18; refine (hfin.out _).mono ?_; rintro e w' ⟨m, rfl, rfl⟩)
    first | exact ⟨_, rfl, rfl⟩ | (go_ret2; exact ⟨_, rfl, rfl⟩)
  · have hle := le_zero hx hf
    rw [hf] at hfin
    cases hq : okTen x
    · have hr : tenR x = 0 := by unfold tenR; rw [hq]; rfl
      rw [hr]
      rw [hq] at hle
      have hle2 : (FloatKind.f32.format.order x 0 == some .lt || FloatKind.f32.format.order x 0 == some .eq) = true := hle
      clear hf hq hr hx hle
      go_enter Try.func9, Try.ntmps9
      go_wp2_with (go_at_call 18; refine (hfin.out _).mono ?_; rintro e w' ⟨m, rfl, rfl⟩)
      first | exact ⟨_, rfl, rfl⟩ | (go_ret2; exact ⟨_, rfl, rfl⟩)
    · have hr : tenR x = intC (floorC (tenT x)) := by unfold tenR; rw [hq]; rfl
      rw [hr]
      rw [hq] at hle
      have hle2 : (FloatKind.f32.format.order x 0 == some .lt || FloatKind.f32.format.order x 0 == some .eq) = false := hle
      obtain ⟨h0, h1⟩ := of_decide_eq_true hq
      obtain ⟨g1, g2⟩ := widen_normal h0 h1
      have hcx := run_widen_num (P := Try.prog) 22 25 u32_some Try.underlying25 x (finite_nan hf)
      have hC := Lib.hid (fun w' => logOf_any (widen x) g1 g2 w')
      obtain ⟨t1, t2, t3, t4, t5⟩ := ten_facts hq
      have hT := Lib.hid t1
      have hF := Lib.hid (fun w' => floor_any t4 w')
      have hv := run_convert_float_int (P := Try.prog) (src := 25) (dst := 2) (s := .f64) (k := .i64) (hs := u64_some) (hd := Try.underlying2) (h := t5)
      have r1 := run_fop_some (P := Try.prog) (op := .mul) 25 .f64 _ _ _ t2
      have r2 := run_fop_some (P := Try.prog) (op := .add) 25 .f64 _ _ _ t3
      clear t1 t2 t3 t4 t5 hq h0 h1 g1 g2 hf hr hx hle
      generalize tenT x = T at *
      generalize logC (redX (widen x)) (redE (widen x)) = L at *
      generalize fop .mul .f64 L 4631308968768463603 = M at *
      generalize intC (floorC T) = N at *
      generalize floorC T = Fl at *
      have hid64 := run_same (P := Try.prog) 25 .f64 Try.underlying25
      go_enter Try.func9, Try.ntmps9
      go_wp2_with (first | (go_at_call 18; refine (hfin.out _).mono ?_; rintro e w' ⟨m, rfl, rfl⟩) | (go_at_call 20; refine (hC.out _).mono ?_; rintro e w' ⟨d, m, rfl, hd, _, rfl⟩; obtain rfl := hT.out d hd) | (go_at_call 19; refine (hF.out _).mono ?_; rintro e w' ⟨rfl, rfl⟩))
      first | exact ⟨_, rfl, rfl⟩ | (go_ret2; exact ⟨_, rfl, rfl⟩)
theorem tenthsOf_both (x : Nat) (hx : (Lit.float .f32 x).wf = true) : ∃ (r0 : Int) (r1 : Bool),
    (∀ (B : Nat) (w : World), B ≤ w.heap.size → Calls Try.prog 8 #[.float .f32 x] w fun e w' => e = .returned (.tuple #[.int .i64 r0, .bool r1]) ∧ Below w.heap.size w w') ∧
    (∀ (B : Nat) (w : World), B ≤ w.heap.size → Calls Try.prog 9 #[.float .f32 x] w fun e w' => e = .returned (.tuple #[.int .i64 r0, .bool r1]) ∧ Below w.heap.size w w') := by
  have hl : x < 4294967296 := by
    have h : decide (x < 2 ^ FloatKind.f32.format.width) = true := hx
    exact of_decide_eq_true h
  exact ⟨tenR x, okTen x, fun B w _ => (specTenthsOf_any x hl w).mono fun _ _ ⟨n, he, hw⟩ => ⟨he, by rw [hw]; exact below_drawn _ _⟩, fun B w _ => (implTenthsOf_any x hl w).mono fun _ _ ⟨n, he, hw⟩ => ⟨he, by rw [hw]; exact below_drawn _ _⟩⟩
end Go.Proofs.Ytjiaghiefjnmoaa
