/- Complex numbers that are widened, and compared by the law's own function. -/
import Derived.Test.YtjpmliigepegaaaDoorBits
import Derived.Test.YtjpmliigepegaaaDoorOwn
import Derived.Laws.ComplexArith
namespace Go.Proofs.YtjpmliigepegaaaDoor
open Go.RowKit Go.Lst FloatKit Go

section
variable {P : Program}
theorem floatToFloat_wid (b : Nat) (w : World) : ∃ r n, (Conv.floatToFloat .f32 b .f64).run P w = .ok (.float .f64 r) (w.drewN n) ∧ Wid b r := by
  unfold Wid
  cases h : Ieee.single.read b with
  | nan s t =>
    have hn : isNaN Ieee.single b = true := by unfold isNaN; rw [h]; rfl
    refine ⟨(Question.nanConv .f64 b).cut (w.tape w.drawn (.nanConv .f64 b)), 1, ?_, cut_nanConv_lt .f64 b _, by rw [if_pos hn]; exact cut_nanConv .f64 b _⟩
    have hr : FloatKind.f32.decode b = .nan s t := h
    simp [Conv.floatToFloat, hr, show (Question.nanConv FloatKind.f64 b).forced = false from rfl, World.drew_is_drewN]
  | infinity s =>
    have hn : isNaN Ieee.single b = false := by unfold isNaN; rw [h]; rfl
    have hr : FloatKind.f32.decode b = .infinity s := h
    refine ⟨widen b, 0, ?_, widen_lt b, by rw [if_neg (by rw [hn]; simp)]⟩
    simp [Conv.floatToFloat, hr, World.drewN_zero] <;> (unfold widen; rw [h]; rfl)
  | number s m e =>
    have hn : isNaN Ieee.single b = false := by unfold isNaN; rw [h]; rfl
    have hr : FloatKind.f32.decode b = .number s m e := h
    have hinf : (FloatKind.f64.decode (FloatKind.f64.encode (.number s m e))).isInfinity = false := by
      show (Ieee.double.read (Ieee.double.write (.number s m e))).isInfinity = false
      obtain ⟨m', e', hw, _⟩ := widen_value h
      unfold widen at hw
      rw [h] at hw
      rw [hw]; rfl
    refine ⟨widen b, 0, ?_, widen_lt b, by rw [if_neg (by rw [hn]; simp)]⟩
    simp [Conv.floatToFloat, hr, hinf, World.drewN_zero] <;> (unfold widen; rw [h]; rfl)
theorem run_widenC (src dst : TypeId) (hs : (P.underlying src).isSome = true) (hd : P.underlying dst = some (.complex .f64)) (a b : Nat) (w : World) :
    ∃ r i n, (convert src dst (.complex .f32 a b)).run P w = .ok (.complex .f64 r i) (w.drewN n) ∧ Wid a r ∧ Wid b i := by
  obtain ⟨u, hs'⟩ := Option.isSome_iff_exists.1 hs
  obtain ⟨r, n, h1, w1⟩ := floatToFloat_wid (P := P) a w
  obtain ⟨i, m, h2, w2⟩ := floatToFloat_wid (P := P) b (w.drewN n)
  refine ⟨r, i, n + m, ?_, w1, w2⟩
  rw [World.drewN_drewN] at h2
  cases u <;> simp [convert, run_underlying hs', run_underlying hd, Conv.complexToComplex, h1, h2]
theorem wpList_widenC {ops : Array Oper} {rest : List Oper} {o : Oper} {a : Act} {w : World} {Q : Exit → Act → World → Prop}
    (hg : Region.wanted o (yielded ops a.tmps) = true) (src dst : TypeId) (x : Operand) (ho : o.op = .convert src dst x) (hs : (P.underlying src).isSome = true) (hd : P.underlying dst = some (.complex .f64)) (b c : Nat)
    (hx : a.eval x = .complex .f32 b c)
    (h : ∀ r i n, Wid b r → Wid c i → wpList P ops Q rest (a.put o.dst (.complex .f64 r i)) (w.drewN n)) : wpList P ops Q (o :: rest) a w := by
  refine wpList_wanted hg fun K hK => ?_
  obtain ⟨r, i, n, hr, h1, h2⟩ := run_widenC (P := P) src dst hs hd b c w
  unfold Oper.wp
  simp only [execOp, ho, hx, Sem.run_bind, hr, Result.andThen_ok, Sem.run_pure, Oper.upon_value]
  exact hK _ _ (h r i n h1 h2)
end

theorem c64_some : (Tryd.prog.underlying 29).isSome = true := by rw [Tryd.underlying29]; rfl
set_option maxHeartbeats 1000000 in
theorem sameComplex_eqv (a b c d : Nat) (h1 : Eqv Ieee.double a c) (h2 : Eqv Ieee.double b d) (w : World) :
    Calls Tryd.prog 12 #[.complex .f64 a b, .complex .f64 c d] w (Ret (.bool true) w) := by
  have H1 := Lib.hid h1
  have H2 := Lib.hid h2
  clear h1 h2
  go_enter Tryd.func12, Tryd.ntmps12
  go_wp2_with (go_at_call 17; refine (sameFloat_eqv _ _ (by first | exact H1.out | exact H2.out) _).mono ?_; rintro e w' ⟨m, rfl, rfl⟩)
  go_ret
  first | exact Ret.now _ _ | exact Ret.later _ _ _
end Go.Proofs.YtjpmliigepegaaaDoor
