/- Contracts: MeanTime, for any three float32. -/
import Derived.Test.YtlgojbbhjhifhabBits
import Derived.Test.YtlgojbbhjhifhabFloatOrder
import Derived.Test.YtlgojbbhjhifhabRowTask
namespace Go.Proofs.Ytlgojbbhjhifhab
open Go.RowKit Go.Lst FloatKit

theorem nan_finite {x : Nat} (h : isNaN Ieee.single x = true) : finite Ieee.single x = false := by
  cases hf : finite Ieee.single x
  · rfl
  · rw [finite_nan hf] at h; cases h
theorem finite_eqv {x y : Nat} (h : Eqv Ieee.single x y) : finite Ieee.single x = finite Ieee.single y := by
  rcases h with h | ⟨h1, h2⟩
  · rw [h]
  · rw [nan_finite h1, nan_finite h2]
/-- a is at most b, as numbers. -/
def leF (a b : Nat) : Bool := (Ieee.single.order a b == some .lt) || (Ieee.single.order a b == some .eq)
def risesF (a b c : Nat) : Bool := finite Ieee.single a && finite Ieee.single c && leF a b && leF b c
theorem leF_sval {a b : Nat} (h : leF a b = true) : isNaN Ieee.single b = false ∧ sval Ieee.single a ≤ sval Ieee.single b := by
  unfold leF at h
  cases ha : isNaN Ieee.single a
  · cases hb : isNaN Ieee.single b
    · rw [order_sval single_hb ha hb] at h
      refine ⟨rfl, ?_⟩
      by_cases hc : sval Ieee.single a ≤ sval Ieee.single b
      · exact hc
      · have hg : compare (sval Ieee.single a) (sval Ieee.single b) = .gt := by
          show compareOfLessAndEq _ _ = _
          unfold compareOfLessAndEq
          rw [if_neg (by omega), if_neg (by omega)]
        rw [hg] at h
        exact absurd h (by decide)
    · rw [order_nan_right _ _ _ hb] at h; exact absurd h (by decide)
  · rw [order_nan_left _ _ _ ha] at h; exact absurd h (by decide)
theorem risesF_mid {a b c : Nat} (h : risesF a b c = true) : finite Ieee.single b = true := by
  unfold risesF at h
  simp only [Bool.and_eq_true] at h
  obtain ⟨⟨⟨ha, hc⟩, h1⟩, h2⟩ := h
  obtain ⟨hb, h3⟩ := leF_sval h1
  obtain ⟨_, h4⟩ := leF_sval h2
  have ha' := sval_lt_inf (f := Ieee.single) (of_decide_eq_true ha)
  have hc' := sval_lt_inf (f := Ieee.single) (of_decide_eq_true hc)
  unfold finite
  refine decide_eq_true ?_
  by_cases hlt : b % Ieee.single.signWeight < Ieee.single.infRung
  · exact hlt
  · have hr : rungVal Ieee.single Ieee.single.infRung ≤ rungVal Ieee.single (b % Ieee.single.signWeight) := by
      by_cases he : b % Ieee.single.signWeight = Ieee.single.infRung
      · rw [he]; exact Nat.le_refl _
      · exact Nat.le_of_lt (rungVal_lt (by omega))
    have hs : sval Ieee.single b = -(rungVal Ieee.single (b % Ieee.single.signWeight) : Int) ∨ sval Ieee.single b = (rungVal Ieee.single (b % Ieee.single.signWeight) : Int) := by
      unfold sval
      split
      · exact .inl rfl
      · exact .inr rfl
    omega
def meanT (a b c : Nat) : Nat := fop .quo .f32 (fop .add .f32 (fop .add .f32 a (fop .mul .f32 1082130432 b)) c) 1086324736
def sixthT (a c : Nat) : Nat := fop .quo .f32 (fop .sub .f32 c a) 1086324736
def spreadT (a c : Nat) : Nat := fop .mul .f32 (sixthT a c) (sixthT a c)

set_option maxHeartbeats 1000000 in
theorem areRising_any (a b c : Nat) (w : World) : Calls Try.prog 70 #[.float .f32 a, .float .f32 b, .float .f32 c] w (Ret (.bool (risesF a b c)) w) := by
  unfold risesF
  cases ha : finite Ieee.single a
  · go_enter Try.func70, Try.ntmps70
    go_wp2_with (go_at_call 57; refine (isFinite_any _ _).mono ?_; rintro e w' ⟨m, rfl, rfl⟩)
    go_ret
    exact Ret.later _ _ _
  · cases hc : finite Ieee.single c
    · go_enter Try.func70, Try.ntmps70
      go_wp2_with (go_at_call 57; refine (isFinite_any _ _).mono ?_; rintro e w' ⟨m, rfl, rfl⟩)
      go_ret
      exact Ret.later _ _ _
    · cases h1 : leF a b
      · have q1 : (FloatKind.f32.format.order a b == some Ordering.lt || FloatKind.f32.format.order a b == some Ordering.eq) = false := h1
        go_enter Try.func70, Try.ntmps70
        go_wp2_with (go_at_call 57; refine (isFinite_any _ _).mono ?_; rintro e w' ⟨m, rfl, rfl⟩)
        go_ret
        exact Ret.later _ _ _
      · have q1 : (FloatKind.f32.format.order a b == some Ordering.lt || FloatKind.f32.format.order a b == some Ordering.eq) = true := h1
        have q2 : (FloatKind.f32.format.order b c == some Ordering.lt || FloatKind.f32.format.order b c == some Ordering.eq) = leF b c := rfl
        go_enter Try.func70, Try.ntmps70
        go_wp2_with (go_at_call 57; refine (isFinite_any _ _).mono ?_; rintro e w' ⟨m, rfl, rfl⟩)
        go_ret
        exact Ret.later _ _ _
set_option maxHeartbeats 1000000 in
theorem l03Three_any (a b c : Nat) (w : World) : Calls Try.prog 69 #[.float .f32 a, .float .f32 b, .float .f32 c] w (Ret (.bool (risesF a b c)) w) := by
  have hM := Lib.hid (@risesF_mid a b c)
  unfold risesF at hM ⊢
  cases ha : finite Ieee.single a
  · go_enter Try.func69, Try.ntmps69
    go_wp2_with (go_at_call 53; refine (l01Finite_any _ _).mono ?_; rintro e w' ⟨m, rfl, rfl⟩)
    go_ret
    exact Ret.later _ _ _
  · cases hb : finite Ieee.single b
    · rw [ha, hb] at hM
      have hR : Hid ((true && finite Ieee.single c && leF a b && leF b c) = false) := Lib.hid (by
        cases hx : (true && finite Ieee.single c && leF a b && leF b c)
        · rfl
        · exact (hM.out hx).symm)
      rw [hR.out]
      go_enter Try.func69, Try.ntmps69
      go_wp2_with (go_at_call 53; refine (l01Finite_any _ _).mono ?_; rintro e w' ⟨m, rfl, rfl⟩)
      go_ret
      exact Ret.later _ _ _
    · cases hc : finite Ieee.single c
      · go_enter Try.func69, Try.ntmps69
        go_wp2_with (go_at_call 53; refine (l01Finite_any _ _).mono ?_; rintro e w' ⟨m, rfl, rfl⟩)
        go_ret
        exact Ret.later _ _ _
      · cases h1 : leF a b
        · have q1 : (FloatKind.f32.format.order a b == some Ordering.lt || FloatKind.f32.format.order a b == some Ordering.eq) = false := h1
          go_enter Try.func69, Try.ntmps69
          go_wp2_with (go_at_call 53; refine (l01Finite_any _ _).mono ?_; rintro e w' ⟨m, rfl, rfl⟩)
          go_ret
          exact Ret.later _ _ _
        · have q1 : (FloatKind.f32.format.order a b == some Ordering.lt || FloatKind.f32.format.order a b == some Ordering.eq) = true := h1
          have q2 : (FloatKind.f32.format.order b c == some Ordering.lt || FloatKind.f32.format.order b c == some Ordering.eq) = leF b c := rfl
          go_enter Try.func69, Try.ntmps69
          go_wp2_with (go_at_call 53; refine (l01Finite_any _ _).mono ?_; rintro e w' ⟨m, rfl, rfl⟩)
          go_ret
          exact Ret.later _ _ _
/-- What MeanTime answers. -/
def meanOk (a b c : Nat) : Bool := risesF a b c && (finite Ieee.single (meanT a b c) && finite Ieee.single (spreadT a c))
def meanV (a b c : Nat) : Nat := if meanOk a b c then meanT a b c else 0
def spreadV (a b c : Nat) : Nat := if meanOk a b c then spreadT a c else 0
theorem mean_word {a b c r1 r2 r3 r4 : Nat} (h1 : Eqv Ieee.single r1 (fop .mul .f32 1082130432 b)) (h2 : Eqv Ieee.single r2 (fop .add .f32 a r1)) (h3 : Eqv Ieee.single r3 (fop .add .f32 r2 c)) (h4 : Eqv Ieee.single r4 (fop .quo .f32 r3 1086324736)) : Eqv Ieee.single r4 (meanT a b c) := by
  have e2 := h2.trans (.inl (fop_eqv .add .f32 (Eqv.refl _ a) h1))
  have e3 := h3.trans (.inl (fop_eqv .add .f32 e2 (Eqv.refl _ c)))
  exact h4.trans (.inl (fop_eqv .quo .f32 e3 (Eqv.refl _ _)))
theorem spread_word {a c r5 r6 r7 : Nat} (h5 : Eqv Ieee.single r5 (fop .sub .f32 c a)) (h6 : Eqv Ieee.single r6 (fop .quo .f32 r5 1086324736)) (h7 : Eqv Ieee.single r7 (fop .mul .f32 r6 r6)) : Eqv Ieee.single r7 (spreadT a c) := by
  have e6 := h6.trans (.inl (fop_eqv .quo .f32 h5 (Eqv.refl _ _)))
  exact h7.trans (.inl (fop_eqv .mul .f32 e6 e6))
theorem word_of {x y : Nat} (h : Eqv Ieee.single x y) (hf : finite Ieee.single y = true) : x = y := h.eq (by first | exact finite_nan hf | (rw [h.nan]; exact finite_nan hf) | (rw [← h.nan]; exact finite_nan hf))
set_option maxHeartbeats 2000000 in
set_option maxRecDepth 100000 in
theorem specMeanTime_any (a b c : Nat) (w : World) : Calls Try.prog 27 #[.float .f32 a, .float .f32 b, .float .f32 c] w (Ret (.tuple #[.float .f32 (meanV a b c), .float .f32 (spreadV a b c), .bool (meanOk a b c)]) w) := by
  unfold meanV spreadV
  cases hr : risesF a b c
  · rw [show meanOk a b c = false from by unfold meanOk; rw [hr]; rfl, if_neg (by simp), if_neg (by simp)]
    go_enter Try.func27, Try.ntmps27
    go_wp2_with (go_at_call 69; refine (l03Three_any _ _ _ _).mono ?_; rintro e w' ⟨m, rfl, rfl⟩)
    go_ret3
    exact Ret.later _ _ _
  · have hOk : meanOk a b c = (finite Ieee.single (meanT a b c) && finite Ieee.single (spreadT a c)) := by unfold meanOk; rw [hr, Bool.true_and]
    have hP := Lib.hid (show ∀ r4 r7 m, Eqv Ieee.single r4 (meanT a b c) → Eqv Ieee.single r7 (spreadT a c) → finite Ieee.single r4 = true → finite Ieee.single r7 = true → Ret (.tuple #[.float .f32 (if meanOk a b c then meanT a b c else 0), .float .f32 (if meanOk a b c then spreadT a c else 0), .bool (meanOk a b c)]) w (.returned (.tuple #[.float .f32 r4, .float .f32 r7, .bool true])) (w.drewN m) from fun r4 r7 m h4 h7 f4 f7 => by
      rw [finite_eqv h4] at f4
      rw [finite_eqv h7] at f7
      rw [word_of h4 f4, word_of h7 f7, show meanOk a b c = true from by rw [hOk, f4, f7]; rfl, if_pos rfl, if_pos rfl]
      exact Ret.later _ _ _)
    have hN := Lib.hid (show ∀ r4 r7 m, Eqv Ieee.single r4 (meanT a b c) → Eqv Ieee.single r7 (spreadT a c) → (finite Ieee.single r4 = false ∨ finite Ieee.single r7 = false) → Ret (.tuple #[.float .f32 (if meanOk a b c then meanT a b c else 0), .float .f32 (if meanOk a b c then spreadT a c else 0), .bool (meanOk a b c)]) w (.returned (.tuple #[.float .f32 0, .float .f32 0, .bool false])) (w.drewN m) from fun r4 r7 m h4 h7 f => by
      rw [finite_eqv h4, finite_eqv h7] at f
      have : meanOk a b c = false := by
        rw [hOk]
        rcases f with f | f
        · rw [f]; rfl
        · rw [f, Bool.and_false]
      rw [this, if_neg (by simp), if_neg (by simp)]
      exact Ret.later _ _ _)
    clear hOk
    generalize Ret (.tuple #[.float .f32 (if meanOk a b c then meanT a b c else 0), .float .f32 (if meanOk a b c then spreadT a c else 0), .bool (meanOk a b c)]) w = POST at *
    go_enter Try.func27, Try.ntmps27
    go_wp2_with (first | (go_at_call 69; refine (l03Three_any _ _ _ _).mono ?_; rintro e w' ⟨m, rfl, rfl⟩) | (refine wpList_farith rfl _ _ _ _ _ rfl _ _ _ rfl rfl (by rfl) ?_; intro r j hr hlt; have hE := Lib.hid hr; clear hr hlt))
    rename_i r1 j1 h1 r2 j2 h2 r3 j3 h3 r4 j4 h4 r5 j5 h5 r6 j6 h6 _ _ _ _ _ _
    have H4 := Lib.hid (mean_word h1.out h2.out h3.out h4.out)
    have H7 := Lib.hid (spread_word h5.out h6.out hE.out)
    clear h1 h2 h3 h4 h5 h6 hE
    cases f4 : finite Ieee.single r4
    · go_wp2_with (go_at_call 53; refine (l01Finite_any _ _).mono ?_; rintro e w' ⟨m, rfl, rfl⟩)
      go_ret3
      exact hN.out _ _ _ H4.out H7.out (.inl f4)
    · cases f7 : finite Ieee.single r
      · go_wp2_with (go_at_call 53; refine (l01Finite_any _ _).mono ?_; rintro e w' ⟨m, rfl, rfl⟩)
        go_ret3
        exact hN.out _ _ _ H4.out H7.out (.inr f7)
      · go_wp2_with (go_at_call 53; refine (l01Finite_any _ _).mono ?_; rintro e w' ⟨m, rfl, rfl⟩)
        go_ret3
        exact hP.out _ _ _ H4.out H7.out f4 f7
set_option maxHeartbeats 2000000 in
set_option maxRecDepth 100000 in
theorem implMeanTime_any (a b c : Nat) (w : World) : Calls Try.prog 28 #[.float .f32 a, .float .f32 b, .float .f32 c] w (Ret (.tuple #[.float .f32 (meanV a b c), .float .f32 (spreadV a b c), .bool (meanOk a b c)]) w) := by
  unfold meanV spreadV
  cases hr : risesF a b c
  · rw [show meanOk a b c = false from by unfold meanOk; rw [hr]; rfl, if_neg (by simp), if_neg (by simp)]
    go_enter Try.func28, Try.ntmps28
    go_wp2_with (first | (go_at_call 70; refine (areRising_any _ _ _ _).mono ?_; rintro e w' ⟨m, rfl, rfl⟩) | (refine wpList_farith rfl _ _ _ _ _ rfl _ _ _ rfl rfl (by rfl) ?_; intro r j hr2 hlt; clear hr2 hlt))
    go_ret3
    exact Ret.later _ _ _
  · have hOk : meanOk a b c = (finite Ieee.single (meanT a b c) && finite Ieee.single (spreadT a c)) := by unfold meanOk; rw [hr, Bool.true_and]
    have hP := Lib.hid (show ∀ r4 r7 m, Eqv Ieee.single r4 (meanT a b c) → Eqv Ieee.single r7 (spreadT a c) → finite Ieee.single r4 = true → finite Ieee.single r7 = true → Ret (.tuple #[.float .f32 (if meanOk a b c then meanT a b c else 0), .float .f32 (if meanOk a b c then spreadT a c else 0), .bool (meanOk a b c)]) w (.returned (.tuple #[.float .f32 r4, .float .f32 r7, .bool true])) (w.drewN m) from fun r4 r7 m h4 h7 f4 f7 => by
      rw [finite_eqv h4] at f4
      rw [finite_eqv h7] at f7
      rw [word_of h4 f4, word_of h7 f7, show meanOk a b c = true from by rw [hOk, f4, f7]; rfl, if_pos rfl, if_pos rfl]
      exact Ret.later _ _ _)
    have hN := Lib.hid (show ∀ r4 r7 m, Eqv Ieee.single r4 (meanT a b c) → Eqv Ieee.single r7 (spreadT a c) → (finite Ieee.single r4 = false ∨ finite Ieee.single r7 = false) → Ret (.tuple #[.float .f32 (if meanOk a b c then meanT a b c else 0), .float .f32 (if meanOk a b c then spreadT a c else 0), .bool (meanOk a b c)]) w (.returned (.tuple #[.float .f32 0, .float .f32 0, .bool false])) (w.drewN m) from fun r4 r7 m h4 h7 f => by
      rw [finite_eqv h4, finite_eqv h7] at f
      have : meanOk a b c = false := by
        rw [hOk]
        rcases f with f | f
        · rw [f]; rfl
        · rw [f, Bool.and_false]
      rw [this, if_neg (by simp), if_neg (by simp)]
      exact Ret.later _ _ _)
    clear hOk
    generalize Ret (.tuple #[.float .f32 (if meanOk a b c then meanT a b c else 0), .float .f32 (if meanOk a b c then spreadT a c else 0), .bool (meanOk a b c)]) w = POST at *
    go_enter Try.func28, Try.ntmps28
    go_wp2_with (first | (go_at_call 70; refine (areRising_any _ _ _ _).mono ?_; rintro e w' ⟨m, rfl, rfl⟩) | (refine wpList_farith rfl _ _ _ _ _ rfl _ _ _ rfl rfl (by rfl) ?_; intro r j hr2 hlt; have hE := Lib.hid hr2; clear hr2 hlt))
    rename_i r1 j1 h1 r2 j2 h2 r3 j3 h3 r4 j4 h4 r5 j5 h5 r6 j6 h6 _ _ _ _ _ _
    have H4 := Lib.hid (mean_word h1.out h2.out h3.out h4.out)
    have H7 := Lib.hid (spread_word h5.out h6.out hE.out)
    clear h1 h2 h3 h4 h5 h6 hE
    cases f4 : finite Ieee.single r4
    · go_wp2_with (go_at_call 57; refine (isFinite_any _ _).mono ?_; rintro e w' ⟨m, rfl, rfl⟩)
      go_ret3
      exact hN.out _ _ _ H4.out H7.out (.inl f4)
    · cases f7 : finite Ieee.single r
      · go_wp2_with (go_at_call 57; refine (isFinite_any _ _).mono ?_; rintro e w' ⟨m, rfl, rfl⟩)
        go_ret3
        exact hN.out _ _ _ H4.out H7.out (.inr f7)
      · go_wp2_with (go_at_call 57; refine (isFinite_any _ _).mono ?_; rintro e w' ⟨m, rfl, rfl⟩)
        go_ret3
        exact hP.out _ _ _ H4.out H7.out f4 f7
theorem meanTime_both (a b c : Nat) (_ : a < 4294967296) (_ : b < 4294967296) (_ : c < 4294967296) : ∃ (r0 r1 : Nat) (r2 : Bool),
    (∀ w : World, Calls Try.prog 27 #[.float .f32 a, .float .f32 b, .float .f32 c] w (Ret (.tuple #[.float .f32 r0, .float .f32 r1, .bool r2]) w)) ∧
    (∀ w : World, Calls Try.prog 28 #[.float .f32 a, .float .f32 b, .float .f32 c] w (Ret (.tuple #[.float .f32 r0, .float .f32 r1, .bool r2]) w)) :=
  ⟨meanV a b c, spreadV a b c, meanOk a b c, specMeanTime_any a b c, implMeanTime_any a b c⟩
end Go.Proofs.Ytlgojbbhjhifhab
