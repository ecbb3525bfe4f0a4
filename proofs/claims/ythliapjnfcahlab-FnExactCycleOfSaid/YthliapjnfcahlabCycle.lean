/- Contracts: a cycle for flows. -/
import Derived.Test.YthliapjnfcahlabFlows
import Derived.Test.YthliapjnfcahlabOwn
import Derived.Test.YthliapjnfcahlabBuffer
namespace Go.Proofs.Ythliapjnfcahlab
open Go.RowKit Go.Lst FloatKit

def one32 : Nat := 1065353216
def underOne (s : Nat) : Bool := Ieee.single.order s one32 == some .lt
def canCycle (xs : List Nat) (f : Nat) : Bool := okA 12 xs && !badF f && underOne (sumF xs)
/-- The cycle, as it is made. -/
def cycF (s f : Nat) : Nat := fop .quo .f32 (fop .add .f32 (fop .mul .f32 1069547520 f) 1084227584) (fop .sub .f32 one32 s)
def CycSaid (xs : List Nat) (f v : Nat) (ok : Bool) : Prop :=
  (canCycle xs f = false ∧ v = 0 ∧ ok = false) ∨ (canCycle xs f = true ∧ ∃ p, Eqv Ieee.single p (cycF (sumF xs) f) ∧ ok = finite Ieee.single p ∧ v = if finite Ieee.single p then p else 0)
theorem CycSaid.same {xs : List Nat} {f v v' : Nat} {ok ok' : Bool} (h : CycSaid xs f v ok) (h' : CycSaid xs f v' ok') : v = v' ∧ ok = ok' := by
  rcases h with ⟨h0, rfl, rfl⟩ | ⟨h0, p, hp, rfl, rfl⟩
  · rcases h' with ⟨_, rfl, rfl⟩ | ⟨h0', _⟩
    · exact ⟨rfl, rfl⟩
    · rw [h0] at h0'; cases h0'
  · rcases h' with ⟨h0', _⟩ | ⟨_, p', hp', rfl, rfl⟩
    · rw [h0] at h0'; cases h0'
    · have e : Eqv Ieee.single p p' := hp.trans hp'.symm
      have hf := finite_eqv e
      refine ⟨?_, hf⟩
      cases hq : finite Ieee.single p'
      · rw [hf, hq]; rfl
      · rw [hf, hq, if_pos rfl, if_pos rfl]; exact word_of e hq
def RetC (xs : List Nat) (f : Nat) (w : World) (e : Ending) (w' : World) : Prop := ∃ v ok, e = .returned (.tuple #[.float .f32 v, .bool ok]) ∧ CycSaid xs f v ok ∧ Below w.heap.size w w'
theorem cyc_chain {s f p1 p2 p3 p4 : Nat} (h1 : Eqv FloatKind.f32.format p1 (fop .mul .f32 1069547520 f)) (h2 : Eqv FloatKind.f32.format p2 (fop .add .f32 p1 1084227584)) (h3 : Eqv FloatKind.f32.format p3 (fop .sub .f32 1065353216 s)) (h4 : Eqv FloatKind.f32.format p4 (fop .quo .f32 p2 p3)) : Eqv Ieee.single p4 (cycF s f) := by
  have e2 : Eqv FloatKind.f32.format p2 (fop .add .f32 (fop .mul .f32 1069547520 f) 1084227584) := h2.trans (.inl (fop_eqv .add .f32 h1 (Eqv.refl _ _)))
  exact h4.trans (.inl (fop_eqv .quo .f32 e2 h3))
theorem one_real : finite Ieee.single 1065353216 = true ∧ isNaN Ieee.single 1065353216 = false := by decide +kernel
theorem less_one {s r : Nat} (hs : isNaN Ieee.single s = false) (hr : Eqv FloatKind.f32.format r (fop .sub .f32 1065353216 s)) : (FloatKind.f32.format.order r 0 == some Ordering.gt) = underOne s := by
  rw [hr.order (Eqv.refl _ 0)]
  show (Ieee.single.order (fop .sub .f32 1065353216 s) 0 == some Ordering.gt) = _
  rw [order_sub s one_real.1]
  exact (order_total one_real.2 hs).2.1
theorem geq_one {s : Nat} (hs : isNaN Ieee.single s = false) : (FloatKind.f32.format.order s 1065353216 == some Ordering.gt || FloatKind.f32.format.order s 1065353216 == some Ordering.eq) = !underOne s := (order_total hs one_real.2).1
set_option maxHeartbeats 800000 in
set_option maxRecDepth 100000 in
theorem specCycleOf_any (B : Nat) (v : Value) (xs : List Nat) (f : Nat) (w : World) (h : Lst B w v (xs.map (Value.float .f32))) :
    Calls Try.prog 14 #[v, .float .f32 f] w (RetC xs f w) := by
  have hQ := Lib.hid (l05Flows_any B v xs w h)
  have hL := Lib.hid (fun w' => l02Least_any f w')
  obtain ⟨a, cap, rfl, hl, _⟩ := h
  rw [List.length_map] at hl hQ ⊢
  have hNo : Hid (canCycle xs f = false → ∀ m, RetC xs f w (.returned (.tuple #[.float .f32 0, .bool false])) (w.drewN m)) := Lib.hid fun hn m => ⟨_, _, rfl, .inl ⟨hn, rfl, rfl⟩, below_drawn w m⟩
  have hYes : Hid (canCycle xs f = true → ∀ p m, Eqv Ieee.single p (cycF (sumF xs) f) → RetC xs f w (.returned (.tuple #[.float .f32 (if finite Ieee.single p then p else 0), .bool (finite Ieee.single p)])) (w.drewN m)) := Lib.hid fun hy p m hp => ⟨_, _, rfl, .inr ⟨hy, p, hp, rfl, rfl⟩, below_drawn w m⟩
  generalize RetC xs f w = POST at *
  generalize xs.length = n at *
  unfold maxLen at hl
  unfold RetFl at hQ
  cases hok : okA 12 xs
  · rw [hok] at hQ
    go_enter Try.func14, Try.ntmps14
    go_wp2_with fail
    refine (hQ.out).mono ?_
    rintro e w1 ⟨r, m, rfl, _, _, rfl⟩
    go_wp2_with fail
    exact hNo.out (by unfold canCycle; rw [hok]; rfl) _
  rw [hok] at hQ
  have hReal := (okA_sum hok).1
  cases hf : badF f
  case true =>
    rw [hf] at hL
    go_enter Try.func14, Try.ntmps14
    go_wp2_with fail
    refine (hQ.out).mono ?_
    rintro e w1 ⟨r, m, rfl, _, _, rfl⟩
    go_wp2_with (go_at_call 53; refine (hL.out _).mono ?_; rintro e w' ⟨m, rfl, rfl⟩)
    exact hNo.out (by unfold canCycle; rw [hf, Bool.not_true, Bool.and_false, Bool.false_and]) _
  case false =>
    rw [hf] at hL
    have hCan : canCycle xs f = underOne (sumF xs) := by unfold canCycle; rw [hok, hf]; rfl
    have hKey : Hid (∀ r, Eqv FloatKind.f32.format r (fop .sub .f32 1065353216 (sumF xs)) → (FloatKind.f32.format.order r 0 == some Ordering.gt) = underOne (sumF xs)) := Lib.hid fun r hr => less_one hReal hr
    rw [hCan] at hNo hYes
    clear hok hf hCan
    cases hu : underOne (sumF xs)
    · rw [hu] at hKey
      have hN := Lib.hid (hNo.out hu)
      go_enter Try.func14, Try.ntmps14
      go_wp2_with fail
      refine (hQ.out).mono ?_
      rintro e w1 ⟨r, m, rfl, hrs, _, rfl⟩
      obtain rfl : r = sumF xs := (hrs (by simp)).eq hReal
      clear hrs
      clear hQ hYes hNo hu hReal
      generalize sumF xs = s at *
      go_wp2_with (first | (go_at_call 53; refine (hL.out _).mono ?_; rintro e w' ⟨m, rfl, rfl⟩) | (refine wpList_farith rfl _ _ _ _ _ rfl _ _ _ rfl rfl (by rfl) ?_; intro p j hp hlt2; have hz := hKey.out p hp; clear hp hlt2))
      exact hN.out _
    · rw [hu] at hKey
      have hY := Lib.hid (hYes.out hu)
      go_enter Try.func14, Try.ntmps14
      go_wp2_with fail
      refine (hQ.out).mono ?_
      rintro e w1 ⟨r, m, rfl, hrs, _, rfl⟩
      obtain rfl : r = sumF xs := (hrs (by simp)).eq hReal
      clear hrs
      clear hQ hYes hNo hu hReal
      generalize sumF xs = s at *
      go_wp2_with (first | (go_at_call 53; (with_reducible refine (hL.out _).mono ?_); rintro e w' ⟨m, rfl, rfl⟩) | (refine wpList_farith rfl _ _ _ _ _ rfl _ _ _ rfl rfl (by rfl) ?_; intro p1 j1 hp l1; have E1 : Hid (Eqv FloatKind.f32.format p1 (fop .mul .f32 1069547520 f)) := (by with_reducible exact Lib.hid hp); clear hp l1) | (refine wpList_farith rfl _ _ _ _ _ rfl _ _ _ rfl rfl (by rfl) ?_; intro p2 j2 hp l2; have E2 : Hid (Eqv FloatKind.f32.format p2 (fop .add .f32 p1 1084227584)) := (by with_reducible exact Lib.hid hp); clear hp l2) | (refine wpList_farith rfl _ _ _ _ _ rfl _ _ _ rfl rfl (by rfl) ?_; intro p3 j3 hp l3; have E3 : Hid (Eqv FloatKind.f32.format p3 (fop .sub .f32 1065353216 s)) := (by with_reducible exact Lib.hid hp); have hz := hKey.out p3 E3.out; clear hp l3) | (refine wpList_farith rfl _ _ _ _ _ rfl _ _ _ rfl rfl (by rfl) ?_; intro p4 j4 hp l4; have E4 : Hid (Eqv FloatKind.f32.format p4 (fop .quo .f32 p2 p3)) := (by with_reducible exact Lib.hid hp); clear hp l4))
      have hE5 := Lib.hid (cyc_chain E1.out E2.out E3.out E4.out)
      have hR := Lib.hid (fun m => hY.out p4 m hE5.out)
      cases hp : finite Ieee.single p4
      · rw [hp, if_neg (by simp)] at hR
        have hC := Lib.hid (fun w => l02Number_any p4 w)
        rw [hp, if_neg (by simp)] at hC
        go_wp2_with (go_at_call 54; refine (hC.out _).mono ?_; rintro e w' ⟨m, rfl, rfl⟩)
        exact hR.out _
      · rw [hp, if_pos rfl] at hR
        have hC := Lib.hid (fun w => l02Number_any p4 w)
        rw [hp, if_pos rfl] at hC
        go_wp2_with (go_at_call 54; refine (hC.out _).mono ?_; rintro e w' ⟨m, rfl, rfl⟩)
        exact hR.out _
theorem areAmounts_one (f : Nat) (w' : World) (g : Nat) (hg : g = w'.heap.size) : Calls Try.prog 55 #[.slice (some ⟨g, 0, none⟩) 1 1, .int .i64 1] (w'.alloc (.cells #[.float .f32 f] 23)) (Ret (.bool (!badF f)) (w'.alloc (.cells #[.float .f32 f] 23))) := by
  have h := lst_litF (t := 23) [f] hg (by simp)
  have := areAmounts_any (g + 1) _ [f] 1 _ h
  rw [okA_one] at this
  simpa using this
set_option maxHeartbeats 800000 in
set_option maxRecDepth 100000 in
theorem implCycleOf_any (B : Nat) (v : Value) (xs : List Nat) (f : Nat) (w : World) (h : Lst B w v (xs.map (Value.float .f32))) (hB : B ≤ w.heap.size) :
    Calls Try.prog 16 #[v, .float .f32 f] w (RetC xs f w) := by
  have hQ : Hid (Calls Try.prog 55 #[v, .int .i64 12] w (Ret (.bool (okA 12 xs)) w)) := Lib.hid (areAmounts_any B v xs 12 w h)
  have hNo : Hid (canCycle xs f = false → ∀ w', Below w.heap.size w w' → RetC xs f w (.returned (.tuple #[.float .f32 0, .bool false])) w') := Lib.hid fun hn w' hb => ⟨_, _, rfl, .inl ⟨hn, rfl, rfl⟩, hb⟩
  have hYes : Hid (canCycle xs f = true → ∀ p w', Eqv Ieee.single p (cycF (sumF xs) f) → Below w.heap.size w w' → RetC xs f w (.returned (.tuple #[.float .f32 (if finite Ieee.single p then p else 0), .bool (finite Ieee.single p)])) w') := Lib.hid fun hy p w' hp hb => ⟨_, _, rfl, .inr ⟨hy, p, hp, rfl, rfl⟩, hb⟩
  have hLs := Lib.hid h
  obtain ⟨a, cap, rfl, hl, _⟩ := h
  rw [List.length_map] at hl hQ ⊢
  generalize RetC xs f w = POST at *
  cases hok : okA 12 xs
  · rw [hok] at hQ
    generalize xs.length = n at *
    unfold maxLen at hl
    go_enter Try.func16, Try.ntmps16
    go_wp2_with (go_at_call 55; (with_reducible refine (hQ.out).mono ?_); rintro e w' ⟨m, rfl, rfl⟩)
    exact hNo.out (by unfold canCycle; rw [hok]; rfl) _ (below_drawn w _)
  rw [hok] at hQ
  have hReal := (okA_sum hok).1
  have hOne := Lib.hid (fun (w' : World) (g : Nat) (hg : g = w'.heap.size) => areAmounts_one f w' g hg)
  cases hf : badF f
  case true =>
    rw [hf] at hOne
    generalize xs.length = n at *
    unfold maxLen at hl
    go_enter Try.func16, Try.ntmps16
    go_wp2_with (go_at_call 55; first | ((with_reducible refine (hQ.out).mono ?_); rintro e w' ⟨m1, rfl, rfl⟩) | ((with_reducible refine (hOne.out _ _ (by simp)).mono ?_); rintro e w' ⟨m2, rfl, rfl⟩))
    exact hNo.out (by unfold canCycle; rw [hf, Bool.not_true, Bool.and_false, Bool.false_and]) _ (below_drew (below_alloc (below_drawn w _) _) _)
  case false =>
    rw [hf] at hOne
    have hCan : canCycle xs f = underOne (sumF xs) := by unfold canCycle; rw [hok, hf]; rfl
    have hGe := geq_one hReal
    have hSm : Hid (∀ w', Below w.heap.size w w' → Calls Try.prog 56 #[.slice a xs.length cap] w' (RetF2 (sumF xs) true w')) := Lib.hid fun w' hb => by
      have h256 : xs.length ≤ 256 := by have := okA_few hok; omega
      have := sumNumbers_any B (.slice a xs.length cap) xs w' (by have := hLs.out; rw [List.length_map] at this; exact this.below hb hB) h256
      exact this
    rw [hCan] at hNo hYes
    clear hok hf hCan hLs
    generalize xs.length = n at *
    unfold maxLen at hl
    go_enter Try.func16, Try.ntmps16
    go_wp2_with (go_at_call 55; first | ((with_reducible refine (hQ.out).mono ?_); rintro e w' ⟨m1, rfl, rfl⟩) | ((with_reducible refine (hOne.out _ _ (by simp)).mono ?_); rintro e w' ⟨m2, rfl, rfl⟩))
    have hB1 := Lib.hid (below_drew (below_alloc (below_drawn w m1) (.cells #[.float .f32 f] 23)) m2)
    generalize ((w.drewN m1).alloc _).drewN m2 = w5 at *
    with_reducible refine (hSm.out w5 hB1.out).mono ?_
    rintro e w6 ⟨r, m3, rfl, hr, rfl⟩
    obtain rfl : r = sumF xs := hr.eq hReal
    clear hr hReal hSm hQ
    have hB2 := Lib.hid (below_drew hB1.out m3)
    cases hu : underOne (sumF xs)
    · have hN := Lib.hid (hNo.out hu)
      rw [hu] at hGe
      clear hNo hYes hu
      generalize sumF xs = s at *
      generalize w5.drewN m3 = w6 at *
      go_wp2_with fail
      exact hN.out _ hB2.out
    · have hY := Lib.hid (hYes.out hu)
      rw [hu] at hGe
      clear hNo hYes hu
      generalize sumF xs = s at *
      generalize w5.drewN m3 = w6 at *
      go_wp2_with (first | (refine wpList_farith rfl _ _ _ _ _ rfl _ _ _ rfl rfl (by rfl) ?_; intro p1 j1 hp l1; have E1 : Hid (Eqv FloatKind.f32.format p1 (fop .mul .f32 1069547520 f)) := (by with_reducible exact Lib.hid hp); clear hp l1) | (refine wpList_farith rfl _ _ _ _ _ rfl _ _ _ rfl rfl (by rfl) ?_; intro p2 j2 hp l2; have E2 : Hid (Eqv FloatKind.f32.format p2 (fop .add .f32 p1 1084227584)) := (by with_reducible exact Lib.hid hp); clear hp l2) | (refine wpList_farith rfl _ _ _ _ _ rfl _ _ _ rfl rfl (by rfl) ?_; intro p3 j3 hp l3; have E3 : Hid (Eqv FloatKind.f32.format p3 (fop .sub .f32 1065353216 s)) := (by with_reducible exact Lib.hid hp); clear hp l3) | (refine wpList_farith rfl _ _ _ _ _ rfl _ _ _ rfl rfl (by rfl) ?_; intro p4 j4 hp l4; have E4 : Hid (Eqv FloatKind.f32.format p4 (fop .quo .f32 p2 p3)) := (by with_reducible exact Lib.hid hp); clear hp l4))
      have hE5 := Lib.hid (cyc_chain E1.out E2.out E3.out E4.out)
      have hR := Lib.hid (fun w' hb => hY.out p4 w' hE5.out hb)
      cases hp : finite Ieee.single p4
      · rw [hp, if_neg (by simp)] at hR
        go_wp2_with (go_at_call 57; refine (isFinite_any _ _).mono ?_; rintro e w' ⟨m, rfl, rfl⟩)
        exact hR.out _ (by repeat (first | exact hB2.out | refine below_drew ?_ _))
      · rw [hp, if_pos rfl] at hR
        go_wp2_with (go_at_call 57; refine (isFinite_any _ _).mono ?_; rintro e w' ⟨m, rfl, rfl⟩)
        exact hR.out _ (by repeat (first | exact hB2.out | refine below_drew ?_ _))
end Go.Proofs.Ythliapjnfcahlab
