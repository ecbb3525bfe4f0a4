/- Contracts: MeanTime, for any three float32. -/
import Derived.Test.YtnofngnlmhdgaaaFin
import Derived.Test.YtnofngnlmhdgaaaLst
namespace Go.Proofs.Ytnofngnlmhdgaaa
open Go.RowKit Go.Lst FloatKit

/-- a is at most b, as numbers. -/
def leF (a b : Nat) : Bool := (Ieee.single.order a b == some .lt) || (Ieee.single.order a b == some .eq)
def risesF (a b c : Nat) : Bool := finite Ieee.single a && finite Ieee.single c && leF a b && leF b c
theorem leF_sval {a b : Nat} (h : leF a b = true) : isNaN Ieee.single b = false ∧ sval Ieee.single a ≤ sval Ieee.single b := by
  unfold leF at h
  cases ha : isNaN Ieee.single a
  · cases hb : isNaN Ieee.single b
    · rw [order_sval single_hb ha hb] at h
      refine ⟨rfl, ?_⟩
      by_cases hc : sval Ieee.single a ≤ sval Ieee.single b
      · exact hc
      · have hg : compare (sval Ieee.single a) (sval Ieee.single b) = .gt := by
          show compareOfLessAndEq _ _ = _
          unfold compareOfLessAndEq
          rw [if_neg (by omega), if_neg (by omega)]
        rw [hg] at h
        exact absurd h (by decide)
    · rw [order_nan_right _ _ _ hb] at h; exact absurd h (by decide)
  · rw [order_nan_left _ _ _ ha] at h; exact absurd h (by decide)
theorem risesF_mid {a b c : Nat} (h : risesF a b c = true) : finite Ieee.single b = true := by
  unfold risesF at h
  simp only [Bool.and_eq_true] at h
  obtain ⟨⟨⟨ha, hc⟩, h1⟩, h2⟩ := h
  obtain ⟨hb, h3⟩ := leF_sval h1
  obtain ⟨_, h4⟩ := leF_sval h2
  have ha' := sval_lt_inf (f := Ieee.single) (of_decide_eq_true ha)
  have hc' := sval_lt_inf (f := Ieee.single) (of_decide_eq_true hc)
  unfold finite
  refine decide_eq_true ?_
  by_cases hlt : b % Ieee.single.signWeight < Ieee.single.infRung
  · exact hlt
  · have hr : rungVal Ieee.single Ieee.single.infRung ≤ rungVal Ieee.single (b % Ieee.single.signWeight) := by
      by_cases he : b % Ieee.single.signWeight = Ieee.single.infRung
      · rw [he]; exact Nat.le_refl _
      · exact Nat.le_of_lt (rungVal_lt (by omega))
    have hs : sval Ieee.single b = -(rungVal Ieee.single (b % Ieee.single.signWeight) : Int) ∨ sval Ieee.single b = (rungVal Ieee.single (b % Ieee.single.signWeight) : Int) := by
      unfold sval
      split
      · exact .inl rfl
      · exact .inr rfl
    omega
def meanT (a b c : Nat) : Nat := fop .quo .f32 (fop .add .f32 (fop .add .f32 a (fop .mul .f32 1082130432 b)) c) 1086324736
def sixthT (a c : Nat) : Nat := fop .quo .f32 (fop .sub .f32 c a) 1086324736
def spreadT (a c : Nat) : Nat := fop .mul .f32 (sixthT a c) (sixthT a c)

set_option maxHeartbeats 1000000 in
theorem areRising_any (a b c : Nat) (w : World) : Calls Try.prog 11 #[.float .f32 a, .float .f32 b, .float .f32 c] w (Ret (.bool (risesF a b c)) w) := by
  unfold risesF
  cases ha : finite Ieee.single a
  · go_enter Try.func11, Try.ntmps11
    go_wp2_with (go_at_call 14; refine (isFinite_any _ _).mono ?_; rintro e w' ⟨m, rfl, rfl⟩)
    go_ret
    exact Ret.later _ _ _
  · cases hc : finite Ieee.single c
    · go_enter Try.func11, Try.ntmps11
      go_wp2_with (go_at_call 14; refine (isFinite_any _ _).mono ?_; rintro e w' ⟨m, rfl, rfl⟩)
      go_ret
      exact Ret.later _ _ _
    · cases h1 : leF a b
      · have q1 : (FloatKind.f32.format.order a b == some Ordering.lt || FloatKind.f32.format.order a b == some Ordering.eq) = false := h1
        go_enter Try.func11, Try.ntmps11
        go_wp2_with (go_at_call 14; refine (isFinite_any _ _).mono ?_; rintro e w' ⟨m, rfl, rfl⟩)
        go_ret
        exact Ret.later _ _ _
      · have q1 : (FloatKind.f32.format.order a b == some Ordering.lt || FloatKind.f32.format.order a b == some Ordering.eq) = true := h1
        have q2 : (FloatKind.f32.format.order b c == some Ordering.lt || FloatKind.f32.format.order b c == some Ordering.eq) = leF b c := rfl
        go_enter Try.func11, Try.ntmps11
        go_wp2_with (go_at_call 14; refine (isFinite_any _ _).mono ?_; rintro e w' ⟨m, rfl, rfl⟩)
        go_ret
        exact Ret.later _ _ _
set_option maxHeartbeats 1000000 in
theorem l03Three_any (a b c : Nat) (w : World) : Calls Try.prog 7 #[.float .f32 a, .float .f32 b, .float .f32 c] w (Ret (.bool (risesF a b c)) w) := by
  have hM := Lib.hid (@risesF_mid a b c)
  unfold risesF at hM ⊢
  cases ha : finite Ieee.single a
  · go_enter Try.func7, Try.ntmps7
    go_wp2_with (go_at_call 10; refine (l01Finite_any _ _).mono ?_; rintro e w' ⟨m, rfl, rfl⟩)
    go_ret
    exact Ret.later _ _ _
  · cases hb : finite Ieee.single b
    · rw [ha, hb] at hM
      have hR : Hid ((true && finite Ieee.single c && leF a b && leF b c) = false) := Lib.hid (by
        cases hx : (true && finite Ieee.single c && leF a b && leF b c)
        · rfl
        · exact (hM.out hx).symm)
      rw [hR.out]
      go_enter Try.func7, Try.ntmps7
      go_wp2_with (go_at_call 10; refine (l01Finite_any _ _).mono ?_; rintro e w' ⟨m, rfl, rfl⟩)
      go_ret
      exact Ret.later _ _ _
    · cases hc : finite Ieee.single c
      · go_enter Try.func7, Try.ntmps7
        go_wp2_with (go_at_call 10; refine (l01Finite_any _ _).mono ?_; rintro e w' ⟨m, rfl, rfl⟩)
        go_ret
        exact Ret.later _ _ _
      · cases h1 : leF a b
        · have q1 : (FloatKind.f32.format.order a b == some Ordering.lt || FloatKind.f32.format.order a b == some Ordering.eq) = false := h1
          go_enter Try.func7, Try.ntmps7
          go_wp2_with (go_at_call 10; refine (l01Finite_any _ _).mono ?_; rintro e w' ⟨m, rfl, rfl⟩)
          go_ret
          exact Ret.later _ _ _
        · have q1 : (FloatKind.f32.format.order a b == some Ordering.lt || FloatKind.f32.format.order a b == some Ordering.eq) = true := h1
          have q2 : (FloatKind.f32.format.order b c == some Ordering.lt || FloatKind.f32.format.order b c == some Ordering.eq) = leF b c := rfl
          go_enter Try.func7, Try.ntmps7
          go_wp2_with (go_at_call 10; refine (l01Finite_any _ _).mono ?_; rintro e w' ⟨m, rfl, rfl⟩)
          go_ret
          exact Ret.later _ _ _
end Go.Proofs.Ytnofngnlmhdgaaa
