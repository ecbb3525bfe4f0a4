/- Contracts: how likely one waits, by the model, and how long one waits in the mean: what is told is a number. -/
import Derived.Test.YtncbohecppdfnaaStaff
import Derived.Test.YtncbohecppdfnaaFloatBound
namespace Go.Proofs.Ytncbohecppdfnaa
open Go.RowKit Go.Lst FloatKit

theorem one_rung : rungVal Ieee.single 1065353216 = 1 * 2 ^ 149 := by decide +kernel
theorem pred_rung : rungVal Ieee.single 1065353215 = 16777215 * 2 ^ 125 := by decide +kernel
theorem small_rung : rungVal Ieee.single 864026624 = 1 * 2 ^ 125 := by decide +kernel
theorem up_rung : rungVal Ieee.single 1266679808 = 1 * 2 ^ 173 := by decide +kernel
theorem high_rung : rungVal Ieee.single 1468006400 = 1 * 2 ^ 197 := by decide +kernel
theorem sum_rung : rungVal Ieee.single 1119879168 + rungVal Ieee.single 1115684864 ≤ rungVal Ieee.single 1132462080 := by decide +kernel
theorem few_words : ∀ n : Nat, n < 97 → 1 ≤ n → 1065353216 ≤ floatOfInt .f32 (n : Int) ∧ floatOfInt .f32 (n : Int) ≤ 1119879168 := by decide +kernel
theorem few_pred : ∀ n : Nat, n < 97 → 1 ≤ n → rungVal Ieee.single (floatOfInt .f32 (n : Int) - 1) * 2 ^ 149 ≤ 16777215 * 2 ^ 125 * rungVal Ieee.single (floatOfInt .f32 (n : Int)) ∧ 1 * 2 ^ 125 + rungVal Ieee.single (floatOfInt .f32 (n : Int) - 1) ≤ rungVal Ieee.single (floatOfInt .f32 (n : Int)) := by decide +kernel
theorem word_sval {x : Nat} (h : x < 2147483648) : sval Ieee.single x = (rungVal Ieee.single x : Int) := by
  unfold sval
  rw [single_sw, Nat.div_eq_of_lt h, Nat.mod_eq_of_lt h]; rfl
theorem load_word {a : Nat} (hw : a < 4294967296) (h : okLoad a = true) : a ≤ 1115684864 := by
  have hn := load_real h
  unfold okLoad at h
  simp only [Bool.and_eq_true] at h
  obtain ⟨h1, h2⟩ := h
  have t1 := order_total hn single_zero.1
  have t2 := order_total single_zero.1 hn
  have g1 : (Ieee.single.order a 0 == some .gt) = true := h1
  rw [t1.2.1, t2.2.2, decide_eq_true_eq, single_zero.2] at g1
  have ha : a < 2147483648 := by
    by_cases hh : a < 2147483648
    · exact hh
    · exfalso
      unfold sval at g1
      rw [single_sw, show a / 2147483648 = 1 by omega, if_pos (by decide)] at g1
      omega
  have h64 : isNaN Ieee.single 1115684864 = false := by decide +kernel
  have t3 := order_total h64 hn
  have t4 := order_total hn h64
  have g2 : (Ieee.single.order a 1115684864 == some .lt || Ieee.single.order a 1115684864 == some .eq) = true := h2
  rcases Nat.lt_or_ge 1115684864 a with hlt | hge
  · exfalso
    have hr := rungVal_lt (f := Ieee.single) hlt
    have g3 : (Ieee.single.order 1115684864 a == some .lt) = true := by
      rw [t3.2.2, decide_eq_true_eq, word_sval (by omega), word_sval ha]; omega
    rw [← t4.2.1, beq_iff_eq] at g3
    rw [g3] at g2
    cases g2
  · exact hge
theorem above_word {a : Nat} {n : Nat} (h1 : 1 ≤ n) (h2 : n ≤ 96) (ha : a ≤ 1115684864) (hn : isNaN Ieee.single a = false) (h : above a n = true) : a < floatOfInt .f32 (n : Int) := by
  have hS := few_words n (by omega) h1
  have hm := few_real n (by omega)
  have t1 := order_total hm hn
  have t2 := order_total hn hm
  have g : (Ieee.single.order (floatOfInt .f32 (n : Int)) a == some .gt) = true := h
  rw [t1.2.1, t2.2.2, decide_eq_true_eq, word_sval (by omega), word_sval (by omega)] at g
  exact (rungVal_lt_iff (f := Ieee.single)).1 (by omega)
theorem block_le {a : Nat} (ha : a ≤ 1115684864) : ∀ k : Nat, k ≤ 96 → blockF a k ≤ 1065353216
  | 0, _ => Nat.le_refl _
  | k + 1, hk => by
    have ih := block_le ha k (by omega)
    unfold blockF
    generalize blockF a k = b at *
    have hx : fop .mul .f32 a b ≤ a := mul_le (by omega) (by omega) (by omega) (Nat.mul_le_mul_left _ (by have := rung_le ih; rw [one_rung, Nat.one_mul] at this; exact this))
    generalize fop .mul .f32 a b = x at *
    obtain ⟨hK1, hK2⟩ := few_words (k + 1) (by omega) (by omega)
    rw [show ((k + 1 : Nat) : Int) = (k : Int) + 1 by omega] at hK1 hK2
    generalize floatOfInt .f32 ((k : Int) + 1) = K at *
    have hy1 : x ≤ fop .add .f32 K x := add_ge (by omega) (by omega) (by omega) (Nat.le_add_left _ _)
    have hy2 : K ≤ fop .add .f32 K x := add_ge (by omega) (by omega) (by omega) (Nat.le_add_right _ _)
    have hy3 : fop .add .f32 K x ≤ 1132462080 := add_le (by omega) (by omega) (by omega) (Nat.le_trans (Nat.add_le_add (rung_le hK2) (rung_le (Nat.le_trans hx ha))) sum_rung)
    generalize fop .add .f32 K x = y at *
    refine quo_le rfl rfl (by omega) (by omega) (by omega) (by omega) one_rung (by omega) ?_
    rw [Nat.one_mul, Nat.mul_comm]
    exact Nat.mul_le_mul_left _ (rung_le hy1)
theorem wait_le {a n : Nat} (h1 : 1 ≤ n) (h2 : n ≤ 96) (ha : a ≤ 1115684864) (hlt : a < floatOfInt .f32 (n : Int)) : waitF a n ≤ 1266679808 := by
  have hb := block_le ha n h2
  obtain ⟨hK1, hK2⟩ := few_words n (by omega) h1
  obtain ⟨hP, _⟩ := few_pred n (by omega) h1
  unfold waitF
  generalize blockF a n = b at *
  generalize floatOfInt .f32 (n : Int) = S at *
  have hR1 := one_rung
  have hbr := rung_le hb
  have hu : fop .quo .f32 a S ≤ 1065353215 := quo_le rfl rfl (by omega) (by omega) (by omega) (by omega) pred_rung (by omega) (Nat.le_trans (Nat.mul_le_mul_right _ (rung_le (show a ≤ S - 1 by omega))) hP)
  generalize fop .quo .f32 a S = u at *
  have hv : fop .sub .f32 1065353216 b ≤ 1065353216 := sub_le (by omega) (by omega) hbr (by omega) (Nat.le_add_right _ _)
  generalize fop .sub .f32 1065353216 b = v at *
  have hp : fop .mul .f32 u v ≤ u := mul_le (by omega) (by omega) (by omega) (Nat.mul_le_mul_left _ (by have := rung_le hv; rw [one_rung, Nat.one_mul] at this; exact this))
  generalize fop .mul .f32 u v = p at *
  have hpr := rung_le (Nat.le_trans hp hu)
  have hd1 : 864026624 ≤ fop .sub .f32 1065353216 p := sub_ge (by omega) (by omega) (rung_le (by omega)) (by omega) (by
    refine Nat.le_trans (Nat.add_le_add_left hpr _) ?_
    rw [small_rung, pred_rung, one_rung]; decide +kernel)
  have hd2 : fop .sub .f32 1065353216 p ≤ 1065353216 := sub_le (by omega) (by omega) (rung_le (by omega)) (by omega) (Nat.le_add_right _ _)
  generalize fop .sub .f32 1065353216 p = d at *
  refine quo_le rfl rfl (by omega) (by omega) (by omega) (by omega) up_rung (by omega) ?_
  refine Nat.le_trans (Nat.mul_le_mul_right _ hbr) ?_
  refine Nat.le_trans ?_ (Nat.mul_le_mul_left _ (rung_le hd1))
  rw [one_rung, small_rung]; decide +kernel
def meanF (a n : Nat) : Nat := fop .quo .f32 (waitF a n) (fop .sub .f32 (floatOfInt .f32 (n : Int)) a)
def meanRes (a : Nat) (n : Int) : Nat := if canWait a n then meanF a n.toNat else 0
theorem mean_le {a n : Nat} (h1 : 1 ≤ n) (h2 : n ≤ 96) (ha : a ≤ 1115684864) (hlt : a < floatOfInt .f32 (n : Int)) : meanF a n ≤ 1468006400 := by
  have hw := wait_le h1 h2 ha hlt
  obtain ⟨hK1, hK2⟩ := few_words n (by omega) h1
  obtain ⟨_, hP⟩ := few_pred n (by omega) h1
  unfold meanF
  generalize waitF a n = r at *
  generalize floatOfInt .f32 (n : Int) = S at *
  have har := rung_le (show a ≤ S - 1 by omega)
  have hd1 : 864026624 ≤ fop .sub .f32 S a := sub_ge (by omega) (by omega) (rung_le (by omega)) (by omega) (by
    refine Nat.le_trans (Nat.add_le_add_left har _) ?_
    rw [small_rung]; exact hP)
  have hd2 : fop .sub .f32 S a ≤ S := sub_le (by omega) (by omega) (rung_le (by omega)) (by omega) (Nat.le_add_right _ _)
  generalize fop .sub .f32 S a = d at *
  refine quo_le rfl rfl (by omega) (by omega) (by omega) (by omega) high_rung (by omega) ?_
  refine Nat.le_trans (Nat.mul_le_mul_right _ (rung_le hw)) ?_
  refine Nat.le_trans ?_ (Nat.mul_le_mul_left _ (rung_le hd1))
  rw [up_rung, small_rung]; decide +kernel
theorem word_finite {x : Nat} (h : x < 2139095040) : finite Ieee.single x = true := by
  unfold finite
  rw [single_sw, single_inf, decide_eq_true_eq, Nat.mod_eq_of_lt (by omega)]; exact h
theorem wait_words {a : Nat} (hw : a < 4294967296) {n : Int} (h : canWait a n = true) : ∃ m : Nat, n = m ∧ m ≤ 96 ∧ waitF a m < 2139095040 ∧ meanF a m < 2139095040 := by
  unfold canWait at h
  simp only [Bool.and_eq_true] at h
  obtain ⟨h1, n1, n96⟩ := canServe_of h.1
  obtain ⟨m, rfl⟩ : ∃ m : Nat, n = m := ⟨n.toNat, by omega⟩
  have ha := load_word hw h1
  have hlt := above_word (by omega) (by omega) ha (load_real h1) h.2
  exact ⟨m, rfl, by omega, Nat.lt_of_le_of_lt (wait_le (by omega) (by omega) ha hlt) (by omega), Nat.lt_of_le_of_lt (mean_le (by omega) (by omega) ha hlt) (by omega)⟩
theorem mean_chain {a r b p1 p2 F : Nat} (hr : Eqv Ieee.single r b) (h1 : Eqv FloatKind.f32.format p1 (fop .sub .f32 F a)) (h2 : Eqv FloatKind.f32.format p2 (fop .quo .f32 r p1)) : Eqv Ieee.single p2 (fop .quo .f32 b (fop .sub .f32 F a)) :=
  h2.trans (.inl (fop_eqv .quo .f32 hr h1))
set_option maxHeartbeats 4000000 in
set_option maxRecDepth 100000 in
theorem implMean_any (a : Nat) (n : Int) (w : World) : Calls Try.prog 33 #[.float .f32 a, .int .i64 n] w (RetBk (meanRes a n) (canWait a n) w) := by
  have hS := Lib.hid (fun w' => implWait_any a n w')
  unfold RetBk at hS
  cases hq : canWait a n
  · have hN : Hid (∀ m, RetBk (meanRes a n) false w (.returned (.tuple #[.float .f32 0, .bool false])) (w.drewN m)) := Lib.hid fun m => ⟨0, m, rfl, by unfold meanRes; rw [hq]; exact Eqv.refl _ _, by omega, rfl⟩
    generalize RetBk (meanRes a n) false w = Q at *
    rw [hq] at hS
    clear hq
    go_enter Try.func33, Try.ntmps33
    go_wp2_with (go_at_call 32; (with_reducible refine (hS.out _).mono ?_); rintro e w' ⟨r, j, rfl, _, _, rfl⟩)
    first | exact hN.out _ | (go_ret2; exact hN.out _)
  · have hcw := hq
    unfold canWait at hcw
    simp only [Bool.and_eq_true] at hcw
    obtain ⟨_, n1, n96⟩ := canServe_of hcw.1
    obtain ⟨m, rfl⟩ : ∃ m : Nat, n = m := ⟨n.toNat, by omega⟩
    have hY : Hid (∀ p j, Eqv Ieee.single p (meanF a m) → p < 4294967296 → RetBk (meanRes a m) true w (.returned (.tuple #[.float .f32 p, .bool true])) (w.drewN j)) := Lib.hid fun p j hp hl => ⟨_, j, rfl, by unfold meanRes; rw [hq, if_pos rfl]; exact hp, hl, rfl⟩
    have hCh : Hid (∀ r p1 p2, Eqv Ieee.single r (waitF a m) → Eqv FloatKind.f32.format p1 (fop .sub .f32 (floatOfInt .f32 (m : Int)) a) → Eqv FloatKind.f32.format p2 (fop .quo .f32 r p1) → Eqv Ieee.single p2 (meanF a m)) := Lib.hid fun r p1 p2 h0 h1 h2 => mean_chain h0 h1 h2
    have hWR : waitRes a (m : Int) = waitF a m := by unfold waitRes; rw [hq, if_pos rfl]; rfl
    generalize RetBk (meanRes a m) true w = Q at *
    rw [hq, hWR] at hS
    clear hq hWR hcw
    generalize waitF a m = WF at *
    generalize meanF a m = MF at *
    go_enter Try.func33, Try.ntmps33
    go_wp2_with (first | (go_at_call 32; (with_reducible refine (hS.out _).mono ?_); rintro e w' ⟨r, j, rfl, hr, _, rfl⟩; have hR := Lib.hid hr; clear hr) | (refine wpList_farith rfl _ _ _ _ _ rfl _ _ _ rfl rfl (by rfl) ?_; intro p1 j1 hp l1; have E1 : Hid (Eqv FloatKind.f32.format p1 (fop .sub .f32 (floatOfInt .f32 (m : Int)) a)) := (by with_reducible exact Lib.hid hp); clear hp l1) | (refine wpList_farith rfl _ _ _ _ _ rfl _ _ _ rfl rfl (by rfl) ?_; intro p2 j2 hp l2; have E2 : Hid (Eqv FloatKind.f32.format p2 (fop .quo .f32 r p1)) := (by with_reducible exact Lib.hid hp); have L2 := Lib.hid l2; clear hp l2))
    have hF := Lib.hid (fun j => hY.out p2 j (hCh.out r p1 p2 hR.out E1.out E2.out) L2.out)
    first | exact hF.out _ | (go_ret2; exact hF.out _)
end Go.Proofs.Ytncbohecppdfnaa
