/- Laws of the walk for operations on floating-point numbers: each gives its result up to which NaN it is. -/
import Derived.Test.YtncbohecppdfnaaFloats
import Derived.Deep.Draws
import Derived.WalkKit
import Derived.Laws.ComplexArith
namespace FloatKit
open Ieee Go

def Eqv (f : Format) (x y : Nat) : Prop := x = y ∨ (isNaN f x = true ∧ isNaN f y = true)
theorem Eqv.refl (f : Format) (x : Nat) : Eqv f x x := .inl rfl
theorem Eqv.symm {f : Format} {x y : Nat} (h : Eqv f x y) : Eqv f y x := h.elim (fun e => .inl e.symm) fun ⟨a, b⟩ => .inr ⟨b, a⟩
theorem Eqv.trans {f : Format} {x y z : Nat} (h : Eqv f x y) (h' : Eqv f y z) : Eqv f x z := by
  rcases h with rfl | ⟨a, b⟩
  · exact h'
  · rcases h' with rfl | ⟨c, d⟩
    · exact .inr ⟨a, b⟩
    · exact .inr ⟨a, d⟩
theorem Eqv.nan {f : Format} {x y : Nat} (h : Eqv f x y) : isNaN f x = isNaN f y := by
  rcases h with rfl | ⟨a, b⟩
  · rfl
  · rw [a, b]
theorem Eqv.eq {f : Format} {x y : Nat} (h : Eqv f x y) (hn : isNaN f y = false) : x = y := by
  rcases h with rfl | ⟨a, b⟩
  · rfl
  · rw [b] at hn; cases hn

theorem Eqv.order {f : Format} {x x' y y' : Nat} (hx : Eqv f x x') (hy : Eqv f y y') : f.order x y = f.order x' y' := by
  rcases hx with rfl | ⟨a, b⟩
  · rcases hy with rfl | ⟨c, d⟩
    · rfl
    · rw [order_nan_right _ _ _ c, order_nan_right _ _ _ d]
  · rw [order_nan_left _ _ _ a, order_nan_left _ _ _ b]

theorem read_nan {f : Format} {x : Nat} (h : isNaN f x = true) : ∃ s t, f.read x = .nan s t := by
  unfold isNaN at h
  cases hr : f.read x with
  | nan s t => exact ⟨s, t, rfl⟩
  | number s m e => rw [hr] at h; cases h
  | infinity s => rw [hr] at h; cases h

theorem floatBits_nan_left (op : BinOp) (k : FloatKind) (x y : Nat) (h : isNaN k.format x = true) : floatBits op k x y = none := by
  obtain ⟨s, t, hr⟩ := read_nan h
  cases op <;> simp only [floatBits, Format.add, Format.sub, Format.mul, Format.div, hr, Datum.sum, Datum.product, Datum.quotient, Option.map_none]

theorem opposite_nan (s : Bool) (t : Nat) : (Datum.nan s t).opposite = .nan (!s) t := rfl

theorem floatBits_nan_right (op : BinOp) (k : FloatKind) (x y : Nat) (h : isNaN k.format y = true) : floatBits op k x y = none := by
  obtain ⟨s, t, hr⟩ := read_nan h
  cases op <;> simp only [floatBits, Format.add, Format.sub, Format.mul, Format.div, hr, opposite_nan]
  all_goals cases k.format.read x <;> simp [Datum.sum, Datum.product, Datum.quotient]

def qnan : FloatKind → Nat
  | .f32 => 0x7fc00000
  | .f64 => 0x7ff8000000000000

/-- The result of an operation; where it is a NaN, one chosen NaN. -/
def fop (op : BinOp) (k : FloatKind) (x y : Nat) : Nat := (floatBits op k x y).getD (qnan k)

theorem qnan_nan (k : FloatKind) : isNaN k.format (qnan k) = true := by cases k <;> decide +kernel

theorem fop_eqv (op : BinOp) (k : FloatKind) {x x' y y' : Nat} (hx : Eqv k.format x x') (hy : Eqv k.format y y') : fop op k x y = fop op k x' y' := by
  unfold fop
  rcases hx with rfl | ⟨a, b⟩
  · rcases hy with rfl | ⟨c, d⟩
    · rfl
    · rw [floatBits_nan_right _ _ _ _ c, floatBits_nan_right _ _ _ _ d]
  · rw [floatBits_nan_left _ _ _ _ a, floatBits_nan_left _ _ _ _ b]

theorem nan_cut32 (t : Nat) : isNaN single ((t % 2) * 2 ^ 31 + 0x7f800000 + 1 + (t / 2) % (2 ^ 23 - 1)) = true := by
  have h1 : t % 2 < 2 := Nat.mod_lt _ (by omega)
  have h2 : (t / 2) % (2 ^ 23 - 1) < 2 ^ 23 - 1 := Nat.mod_lt _ (by omega)
  generalize t % 2 = a at *
  generalize (t / 2) % (2 ^ 23 - 1) = b at *
  unfold isNaN Format.read
  simp only [single_sw, single_bin, single_inf, single_lp]
  rw [if_neg (by omega), if_neg (by omega), if_neg (by omega)]
  rfl

theorem nan_cut64 (t : Nat) : isNaN double ((t % 2) * 2 ^ 63 + 0x7ff0000000000000 + 1 + (t / 2) % (2 ^ 52 - 1)) = true := by
  have h1 : t % 2 < 2 := Nat.mod_lt _ (by omega)
  have h2 : (t / 2) % (2 ^ 52 - 1) < 2 ^ 52 - 1 := Nat.mod_lt _ (by omega)
  generalize t % 2 = a at *
  generalize (t / 2) % (2 ^ 52 - 1) = b at *
  unfold isNaN Format.read
  simp only [double_sw, double_bin, double_inf, double_lp]
  rw [if_neg (by omega), if_neg (by omega), if_neg (by omega)]
  rfl

theorem cut_nanBits (k : FloatKind) (x y t : Nat) : isNaN k.format ((Question.nanBits k x y).cut t) = true := by
  cases k
  · exact nan_cut32 t
  · exact nan_cut64 t
theorem cut_nanConv (k : FloatKind) (x t : Nat) : isNaN k.format ((Question.nanConv k x).cut t) = true := by
  cases k
  · exact nan_cut32 t
  · exact nan_cut64 t

theorem cut_nanBits_lt (k : FloatKind) (x y t : Nat) : (Question.nanBits k x y).cut t < 2 ^ k.format.width := by
  have h1 : t % 2 < 2 := Nat.mod_lt _ (by omega)
  cases k
  · have h2 : (t / 2) % (2 ^ 23 - 1) < 2 ^ 23 - 1 := Nat.mod_lt _ (by omega)
    show (t % 2) * 2 ^ 31 + 0x7f800000 + 1 + (t / 2) % (2 ^ 23 - 1) < 2 ^ 32
    generalize t % 2 = a at *
    generalize (t / 2) % (2 ^ 23 - 1) = b at *
    omega
  · have h2 : (t / 2) % (2 ^ 52 - 1) < 2 ^ 52 - 1 := Nat.mod_lt _ (by omega)
    show (t % 2) * 2 ^ 63 + 0x7ff0000000000000 + 1 + (t / 2) % (2 ^ 52 - 1) < 2 ^ 64
    generalize t % 2 = a at *
    generalize (t / 2) % (2 ^ 52 - 1) = b at *
    omega
theorem cut_nanConv_lt (k : FloatKind) (x t : Nat) : (Question.nanConv k x).cut t < 2 ^ k.format.width := by
  have := cut_nanBits_lt k x x t
  cases k <;> exact this

def isArith : BinOp → Bool
  | .add | .sub | .mul | .quo => true
  | _ => false

section
variable {P : Program} (w : World)

theorem run_farith (op : BinOp) (hop : isArith op = true) (t : TypeId) (k : FloatKind) (x y : Nat) :
    ∃ r n, (binOp op t (.float k x) (.float k y)).run P w = .ok (.float k r) (w.drewN n) ∧ Eqv k.format r (fop op k x y) ∧ r < 2 ^ k.format.width := by
  cases h : floatBits op k x y with
  | some r =>
    refine ⟨r, 0, run_float_arith w op t k x y r h, .inl ?_, ?_⟩
    · unfold fop; rw [h]; rfl
    · have := floatBits_wf h
      cases k
      · have h2 : r < 4294967296 := by simpa [Lit.wf] using this
        exact h2
      · have h2 : r < 18446744073709551616 := by simpa [Lit.wf] using this
        exact h2
  | none =>
    refine ⟨(Question.nanBits k x y).cut (w.tape w.drawn (.nanBits k x y)), 1, ?_, .inr ⟨cut_nanBits .., ?_⟩, cut_nanBits_lt ..⟩
    · unfold floatBits at h
      cases op <;> simp only [isArith] at hop <;> first | (cases hop; done) | skip
      all_goals
        simp only at h
        simp only [binOp, ne_eq, not_true_eq_false, if_false, Op.floatArith, h]
        simp [show (Question.nanBits k x y).forced = false from rfl, World.drew_is_drewN]
    · unfold fop; rw [h]; exact qnan_nan k

/-- 'float64(x)' of a float32. -/
def Wid (b x : Nat) : Prop := x < 18446744073709551616 ∧ if isNaN single b then isNaN double x = true else x = widen b

theorem run_widen (src dst : TypeId) (hs : (P.underlying src).isSome = true) (hd : P.underlying dst = some (.float .f64)) (b : Nat) :
    ∃ r n, (convert src dst (.float .f32 b)).run P w = .ok (.float .f64 r) (w.drewN n) ∧ Wid b r := by
  obtain ⟨u, hs'⟩ := Option.isSome_iff_exists.1 hs
  unfold Wid
  cases h : single.read b with
  | nan s t =>
    have hn : isNaN single b = true := by unfold isNaN; rw [h]; rfl
    refine ⟨(Question.nanConv .f64 b).cut (w.tape w.drawn (.nanConv .f64 b)), 1, ?_, cut_nanConv_lt .f64 b _, by rw [if_pos hn]; exact cut_nanConv .f64 b _⟩
    have hr : FloatKind.f32.decode b = .nan s t := h
    cases u <;> simp [convert, run_underlying hs', run_underlying hd, Conv.floatToFloat, hr, show (Question.nanConv FloatKind.f64 b).forced = false from rfl, World.drew_is_drewN]
  | infinity s =>
    have hn : isNaN single b = false := by unfold isNaN; rw [h]; rfl
    have hr : FloatKind.f32.decode b = .infinity s := h
    refine ⟨widen b, 0, ?_, widen_lt b, by rw [if_neg (by rw [hn]; simp)]⟩
    cases u <;> simp [convert, run_underlying hs', run_underlying hd, Conv.floatToFloat, hr, World.drewN_zero] <;> (unfold widen; rw [h]; rfl)
  | number s m e =>
    have hn : isNaN single b = false := by unfold isNaN; rw [h]; rfl
    have hr : FloatKind.f32.decode b = .number s m e := h
    have hinf : (FloatKind.f64.decode (FloatKind.f64.encode (.number s m e))).isInfinity = false := by
      show (double.read (double.write (.number s m e))).isInfinity = false
      obtain ⟨m', e', hw, _⟩ := widen_value h
      unfold widen at hw
      rw [h] at hw
      rw [hw]; rfl
    refine ⟨widen b, 0, ?_, widen_lt b, by rw [if_neg (by rw [hn]; simp)]⟩
    cases u <;> simp [convert, run_underlying hs', run_underlying hd, Conv.floatToFloat, hr, hinf, World.drewN_zero] <;> (unfold widen; rw [h]; rfl)

theorem Wid.lt {b x : Nat} (h : Wid b x) : x < 18446744073709551616 := h.1
theorem Wid.nan {b x : Nat} (h : Wid b x) : isNaN double x = isNaN single b := by
  replace h := h.2
  cases hb : isNaN single b
  · rw [hb, if_neg (by simp)] at h; rw [h]; exact widen_not_nan hb
  · rw [hb, if_pos rfl] at h; exact h
theorem Wid.eq {b x : Nat} (h : Wid b x) (hb : isNaN single b = false) : x = widen b := by
  replace h := h.2; rwa [hb, if_neg (by simp)] at h
theorem Wid.eqv {b b' x x' : Nat} (h : Wid b x) (h' : Wid b' x') (hb : Eqv single b b') : Eqv double x x' := by
  rcases hb with rfl | ⟨a, c⟩
  · cases hb : isNaN single b
    · rw [h.eq hb, h'.eq hb]; exact .inl rfl
    · exact .inr ⟨by rw [h.nan, hb], by rw [h'.nan, hb]⟩
  · exact .inr ⟨by rw [h.nan, a], by rw [h'.nan, c]⟩
theorem Wid.order {a b x y : Nat} (hx : Wid a x) (hy : Wid b y) : double.order x y = single.order a b := by
  cases ha : isNaN single a
  · cases hb : isNaN single b
    · rw [hx.eq ha, hy.eq hb, order_widen ha hb]
    · rw [order_nan_right _ _ _ (by rw [hy.nan, hb]), order_nan_right _ _ _ hb]
  · rw [order_nan_left _ _ _ (by rw [hx.nan, ha]), order_nan_left _ _ _ ha]

/-- 'float32(x)' of a float64, where it does not overflow. -/
def Nar (x r : Nat) : Prop := r < 4294967296 ∧
  match double.read x with
  | .nan _ _ => isNaN single r = true
  | .infinity s => r = single.write (.infinity s)
  | .number s m e => (single.read (single.write (.number s m e))).isInfinity = false → r = single.write (.number s m e)

theorem run_narrow (src dst : TypeId) (hs : (P.underlying src).isSome = true) (hd : P.underlying dst = some (.float .f32)) (x : Nat) :
    ∃ r n, (convert src dst (.float .f64 x)).run P w = .ok (.float .f32 r) (w.drewN n) ∧ Nar x r := by
  obtain ⟨u, hs'⟩ := Option.isSome_iff_exists.1 hs
  unfold Nar
  cases h : double.read x with
  | nan s t =>
    have hr : FloatKind.f64.decode x = .nan s t := h
    refine ⟨(Question.nanConv .f32 x).cut (w.tape w.drawn (.nanConv .f32 x)), 1, ?_, cut_nanConv_lt .f32 x _, cut_nanConv .f32 x _⟩
    cases u <;> simp [convert, run_underlying hs', run_underlying hd, Conv.floatToFloat, hr, show (Question.nanConv FloatKind.f32 x).forced = false from rfl, World.drew_is_drewN]
  | infinity s =>
    have hr : FloatKind.f64.decode x = .infinity s := h
    refine ⟨single.write (.infinity s), 0, ?_, single.write_lt _, rfl⟩
    cases u <;> simp [convert, run_underlying hs', run_underlying hd, Conv.floatToFloat, hr, World.drewN_zero] <;> rfl
  | number s m e =>
    have hr : FloatKind.f64.decode x = .number s m e := h
    by_cases hi : (FloatKind.f32.decode (FloatKind.f32.encode (.number s m e))).isInfinity = true
    · refine ⟨(Question.floatToFloat x).cut (w.tape w.drawn (.floatToFloat x)), 1, ?_, Nat.mod_lt _ (by decide), fun hf => ?_⟩
      · cases u <;> simp [convert, run_underlying hs', run_underlying hd, Conv.floatToFloat, hr, hi, show (Question.floatToFloat x).forced = false from rfl, World.drew_is_drewN]
      · exact absurd (hi.symm.trans hf) (by simp)
    · refine ⟨single.write (.number s m e), 0, ?_, single.write_lt _, fun _ => rfl⟩
      cases u <;> simp [convert, run_underlying hs', run_underlying hd, Conv.floatToFloat, hr, hi, World.drewN_zero] <;> rfl

theorem Nar.lt {x r : Nat} (h : Nar x r) : r < 4294967296 := h.1
theorem Nar.widen {b x r : Nat} (hb : b < 2 ^ 32) (hx : Wid b x) (hr : Nar x r) : Eqv single r b := by
  cases hn : isNaN single b
  · left
    have := hx.eq hn
    subst this
    have hnw := narrow_widen hb hn
    replace hr := hr.2
    cases h : double.read (FloatKit.widen b) with
    | nan s t => have := widen_not_nan hn; unfold isNaN at this; rw [h] at this; cases this
    | infinity s => rw [h] at hr hnw; rw [← hnw]; exact hr
    | number s m e =>
      rw [h] at hr hnw
      refine (hr ?_).trans hnw
      rw [hnw]
      unfold isNaN at hn
      cases hrb : single.read b with
      | nan s t => rfl
      | infinity s => rw [read_widen_inf hrb] at h; cases h
      | number s m e => rfl
  · right
    refine ⟨?_, hn⟩
    obtain ⟨s, t, h⟩ := read_nan (hx.nan.trans hn)
    replace hr := hr.2
    rw [h] at hr; exact hr
end

section
variable {P : Program} {ops : Array Oper} {rest : List Oper} {o : Oper} {a : Act} {w : World} {Q : Exit → Act → World → Prop}

theorem wpList_wanted (hw : Region.wanted o (yielded ops a.tmps) = true)
    (h : ∀ K : Act → World → Prop, (∀ a w, wpList P ops Q rest a w → K a w) → o.wp P a w K Q) : wpList P ops Q (o :: rest) a w :=
  wpList_step fun K hK => by rw [if_pos hw]; exact h K hK

theorem wpList_farith (hg : Region.wanted o (yielded ops a.tmps) = true) (op : BinOp) (t : TypeId) (x y : Operand) (t' : TypeId) (ho : o.op = .binOp op t x y t') (k : FloatKind) (X Y : Nat)
    (hx : a.eval x = .float k X) (hy : a.eval y = .float k Y) (hop : isArith op = true)
    (h : ∀ r n, Eqv k.format r (fop op k X Y) → r < 2 ^ k.format.width → wpList P ops Q rest (a.put o.dst (.float k r)) (w.drewN n)) : wpList P ops Q (o :: rest) a w := by
  refine wpList_wanted hg fun K hK => ?_
  obtain ⟨r, n, hr, he, hlt⟩ := run_farith (P := P) w op hop t k X Y
  have hg : (eqGuard op t x y (.float k X) (.float k Y)).run P w = .ok () w := by cases op <;> simp [eqGuard] at hop ⊢
  unfold Oper.wp
  simp only [execOp, ho, hx, hy, Sem.run_bind, hg, Result.andThen_ok, hr, Sem.run_pure, Oper.upon_value]
  exact hK _ _ (h r n he hlt)

theorem wpList_widen (hg : Region.wanted o (yielded ops a.tmps) = true) (src dst : TypeId) (x : Operand) (ho : o.op = .convert src dst x) (hs : (P.underlying src).isSome = true) (hd : P.underlying dst = some (.float .f64)) (b : Nat)
    (hx : a.eval x = .float .f32 b)
    (h : ∀ r n, Wid b r → wpList P ops Q rest (a.put o.dst (.float .f64 r)) (w.drewN n)) : wpList P ops Q (o :: rest) a w := by
  refine wpList_wanted hg fun K hK => ?_
  obtain ⟨r, n, hr, he⟩ := run_widen (P := P) w src dst hs hd b
  unfold Oper.wp
  simp only [execOp, ho, hx, Sem.run_bind, hr, Result.andThen_ok, Sem.run_pure, Oper.upon_value]
  exact hK _ _ (h r n he)

theorem wpList_narrow (hg : Region.wanted o (yielded ops a.tmps) = true) (src dst : TypeId) (x : Operand) (ho : o.op = .convert src dst x) (hs : (P.underlying src).isSome = true) (hd : P.underlying dst = some (.float .f32)) (b : Nat)
    (hx : a.eval x = .float .f64 b)
    (h : ∀ r n, Nar b r → wpList P ops Q rest (a.put o.dst (.float .f32 r)) (w.drewN n)) : wpList P ops Q (o :: rest) a w := by
  refine wpList_wanted hg fun K hK => ?_
  obtain ⟨r, n, hr, he⟩ := run_narrow (P := P) w src dst hs hd b
  unfold Oper.wp
  simp only [execOp, ho, hx, Sem.run_bind, hr, Result.andThen_ok, Sem.run_pure, Oper.upon_value]
  exact hK _ _ (h r n he)
end

/-- The not-a-number that a not-a-number becomes as a float64 in the world w. -/
def nanAt (x : Nat) (w : World) : Nat := (Question.nanConv .f64 x).cut (w.tape w.drawn (.nanConv .f64 x))
theorem nanAt_nan (x : Nat) (w : World) : isNaN double (nanAt x w) = true := cut_nanConv .f64 x _
theorem run_widen_nan {P : Program} (src dst : TypeId) (hs : (P.underlying src).isSome = true) (hd : P.underlying dst = some (.float .f64)) (b : Nat) (hn : isNaN single b = true) (w : World) :
    (convert src dst (.float .f32 b)).run P w = .ok (.float .f64 (nanAt b w)) (w.drewN 1) := by
  obtain ⟨u, hs'⟩ := Option.isSome_iff_exists.1 hs
  obtain ⟨s, t, h⟩ := read_nan hn
  have hr : FloatKind.f32.decode b = .nan s t := h
  unfold nanAt
  cases u <;> simp [convert, run_underlying hs', run_underlying hd, Conv.floatToFloat, hr, show (Question.nanConv FloatKind.f64 b).forced = false from rfl, World.drew_is_drewN]
theorem run_widen_num {P : Program} (src dst : TypeId) (hs : (P.underlying src).isSome = true) (hd : P.underlying dst = some (.float .f64)) (b : Nat) (hn : isNaN single b = false) (w : World) :
    (convert src dst (.float .f32 b)).run P w = .ok (.float .f64 (widen b)) w := by
  refine run_convert_float_float w src dst .f32 .f64 b (widen b) hs hd ?_
  unfold floatToFloatBits
  rw [if_neg (by decide)]
  unfold isNaN at hn
  unfold widen
  show (match single.read b with
    | .nan _ _ => none
    | .infinity s => some (double.write (.infinity s))
    | .number s m e => if (double.read (double.write (.number s m e))).isInfinity then none else some (double.write (.number s m e))) = _
  cases h : single.read b with
  | nan s t => rw [h] at hn; cases hn
  | infinity s => rfl
  | number s m e =>
    obtain ⟨m', e', hw, _⟩ := widen_value h
    unfold widen at hw
    rw [h] at hw
    simp only [hw]
    rfl

/-- The not-a-number that an operation without an answer gives in the world w. -/
def nanOp (k : FloatKind) (x y : Nat) (w : World) : Nat := (Question.nanBits k x y).cut (w.tape w.drawn (.nanBits k x y))
theorem nanOp_nan (k : FloatKind) (x y : Nat) (w : World) : isNaN k.format (nanOp k x y w) = true := cut_nanBits k x y _
theorem run_fop_none {P : Program} {op : BinOp} (hop : isArith op = true) (t : TypeId) (k : FloatKind) (x y : Nat) (h : floatBits op k x y = none) (w : World) :
    (binOp op t (.float k x) (.float k y)).run P w = .ok (.float k (nanOp k x y w)) (w.drewN 1) := by
  unfold nanOp
  unfold floatBits at h
  cases op <;> simp only [isArith] at hop <;> first | (cases hop; done) | skip
  all_goals
    simp only at h
    simp only [binOp, ne_eq, not_true_eq_false, if_false, Op.floatArith, h]
    simp [show (Question.nanBits k x y).forced = false from rfl, World.drew_is_drewN]
theorem run_fop_some {P : Program} {op : BinOp} (t : TypeId) (k : FloatKind) (x y r : Nat) (h : floatBits op k x y = some r) (w : World) :
    (binOp op t (.float k x) (.float k y)).run P w = .ok (.float k r) w := run_float_arith w op t k x y r h
theorem fop_some {op : BinOp} {k : FloatKind} {x y r : Nat} (h : floatBits op k x y = some r) : fop op k x y = r := by unfold fop; rw [h]; rfl
theorem fop_none {op : BinOp} {k : FloatKind} {x y : Nat} (h : floatBits op k x y = none) : isNaN k.format (fop op k x y) = true := by unfold fop; rw [h]; exact qnan_nan k
theorem run_same {P : Program} (t : TypeId) (k : FloatKind) (hd : P.underlying t = some (.float k)) (x : Nat) (w : World) : (convert t t (.float k x)).run P w = .ok (.float k x) w := by
  refine run_convert_float_float w t t k k x x (by rw [hd]; rfl) hd ?_
  unfold floatToFloatBits; rw [if_pos rfl]
end FloatKit
