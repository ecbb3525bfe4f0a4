/- Contracts: the gap between two jobs, in the program and in the model. -/
import Derived.Test.YtfigojmdklaljaaWaitPure
namespace Go.Proofs.Ytfigojmdklaljaa
open Go.RowKit Go.Lst

set_option maxHeartbeats 2000000 in
theorem gapOf_any (B : Nat) (v1 v2 : Value) (xs ys : List Int) (m : Nat) (w : World) (h1 : LstI B w v1 xs) (h2 : LstI B w v2 ys) (hl1 : xs.length = m) (hl2 : ys.length = m) (hm8 : m ≤ 8)
    (hx : ∀ q, q < m → 1 ≤ xs.getD q 0 ∧ xs.getD q 0 ≤ 10000) (hy : ∀ q, q < m → 1 ≤ ys.getD q 0 ∧ ys.getD q 0 ≤ 10000) :
    Calls Try.prog 71 #[v1, v2] w fun e w' => e = .returned (.int .i64 (gapL xs ys m)) ∧ w = w' := by
  obtain ⟨a1, cap1, rfl, _, _, _, hc1⟩ := h1.at_
  obtain ⟨a2, cap2, rfl, _, _, _, hc2⟩ := h2.at_
  rw [hl1] at hc1 ⊢
  rw [hl2] at hc2 ⊢
  have hC1 := Lib.hid hc1
  have hC2 := Lib.hid hc2
  have hXb := Lib.hid (fun q (hq : q < m) => hx q hq)
  have hYb := Lib.hid (fun q (hq : q < m) => hy q hq)
  have hSx : Hid (∀ q, q ≤ m → 0 ≤ sumTo xs q ∧ sumTo xs q ≤ 10000 * q) := Lib.hid fun q hq => sum_small hx q hq
  have hSy : Hid (∀ q, q ≤ m → 0 ≤ sumTo ys q ∧ sumTo ys q ≤ 10000 * q) := Lib.hid fun q hq => sum_small hy q hq
  have hG : Hid (∀ q, q ≤ m → 0 ≤ gapL xs ys q ∧ gapL xs ys q ≤ 10000 * q) := Lib.hid fun q hq => gapL_bound hx hy q hq
  have hN : Hid (∀ q, gapL xs ys (q + 1) = max (gapL xs ys q) (sumTo xs (q + 1) - sumTo ys q) ∧ sumTo xs (q + 1) = sumTo xs q + xs.getD q 0 ∧ sumTo ys (q + 1) = sumTo ys q + ys.getD q 0) := Lib.hid fun q => ⟨rfl, rfl, rfl⟩
  clear h1 h2 hc1 hc2 hx hy
  go_enter Try.func71, Try.ntmps71
  go_wp2_with fail
  go_loopw [5, 6, 11] (fun gv av iv wr => ∃ (q : Nat) (z : Int), q ≤ m ∧ iv = .int .i64 q ∧ gv = .int .i64 (gapL xs ys q) ∧ av = .int .i64 z ∧ Hid (z = sumTo xs q - sumTo ys q) ∧ w = wr) (fun _ _ iv _ => m - (intOf iv).toNat)
  case atStart => exact ⟨0, 0, Nat.zero_le _, rfl, rfl, rfl, Lib.hid rfl, rfl⟩
  case round =>
    obtain ⟨q, z, hq, rfl, rfl, rfl, hZ, rfl⟩ := hrel
    by_cases hlt : q < m
    · obtain ⟨b1, o1, x, rfl, _, hx, p1⟩ := hC1.out q hlt
      obtain ⟨b2, o2, y, rfl, _, hy, p2⟩ := hC2.out q hlt
      obtain ⟨n1, n2, n3⟩ := hN.out q
      have s1 := hSx.out q (by omega)
      have s2 := hSy.out q (by omega)
      have g1 := hG.out q (by omega)
      have x1 := hXb.out q hlt
      have y1 := hYb.out q hlt
      rw [getD_of hx] at x1 n2
      rw [getD_of hy] at y1 n3
      have hz1 : -80000 ≤ z ∧ z ≤ 80000 := by rw [hZ.out]; omega
      have hg2 := Lib.hid (show max (gapL xs ys q) (z + x) = gapL xs ys (q + 1) by rw [n1, n2, hZ.out]; congr 1; omega)
      have hz2 := Lib.hid (show z + x - y = sumTo xs (q + 1) - sumTo ys (q + 1) by rw [n2, n3, hZ.out]; omega)
      generalize gapL xs ys q = gq at *
      clear hx hy n1 n2 n3 s1 s2
      have hw1 : IntKind.i64.wrap (z + x) = z + x := IntWalk.i64_in _ (by omega)
      have hw2 : IntKind.i64.wrap (z + x - y) = z + x - y := IntWalk.i64_in _ (by omega)
      go_wp2_with fail
      all_goals
        simp only [mx_eq]
        go_roundw
        case rel => exact ⟨q + 1, _, by omega, by go_num, by rw [hg2.out], rfl, hz2, by trivial⟩
        case measure => simp [intOf]; omega
    · obtain rfl : m = q := by omega
      go_wp2_with fail
      go_ret
      exact ⟨rfl, rfl⟩
set_option maxHeartbeats 4000000 in
set_option maxRecDepth 100000 in
theorem l04Gap_any (B b1 o1 cap1 : Nat) (ts : List Int) (m n i k : Nat) (w : World) (h1 : LstI B w (.slice (some ⟨b1, o1, none⟩) (n * m) cap1) ts) (hm8 : m ≤ 8) (hn24 : n ≤ 24) (hlen : ts.length = n * m)
    (ht : ∀ (i : Nat) (x : Int), ts[i]? = some x → 1 ≤ x ∧ x ≤ 10000) (hi : i < n) (hk : k < n) :
    Calls Try.prog 70 #[.slice (some ⟨b1, o1, none⟩) (n * m) cap1, .int .i64 m, .int .i64 (i : Int), .int .i64 (k : Int)] w fun e w' => e = .returned (.int .i64 (gapAt ts m i k)) ∧ w = w' := by
  have hmn := mul_le24 hn24 hm8
  have hfi := row_fit (m := m) hi
  have hfk := row_fit (m := m) hk
  have hx := row_times ht hlen hi
  have hy := row_times ht hlen hk
  obtain ⟨_, _, hv1, hl1, hcap1, hcm1, hc1⟩ := h1.at_
  injection hv1 with e1 e2 e3
  subst e1 e3
  have hCell : Hid (∀ q, q < ts.length → w.cell? ⟨b1, o1 + q, none⟩ = some (.int .i64 (ts.getD q 0))) := Lib.hid fun q hq => by
    obtain ⟨b, o', x, hh, _, hx, hcc⟩ := hc1 q hq
    injection hh with hh; injection hh with q1 q2 q3
    subst q1 q2
    rw [hcc, getD_of hx]
  have hMu : ∀ j, j < n → IntKind.i64.wrap ((j : Int) * (m : Int)) = ((j * m : Nat) : Int) := fun j hj => by
    rw [Int.natCast_mul]
    exact IntWalk.i64_in _ (by have := mul_le24 (show j ≤ 24 by omega) hm8; rw [← Int.natCast_mul]; omega)
  have hmi := hMu i hi
  have hmk := hMu k hk
  have hXc : Hid (∀ q, q < m → w.cell? ⟨b1, o1 + (i * m + q), none⟩ = some (.int .i64 ((rowOf ts m i).getD q 0))) := Lib.hid fun q hq => by rw [rowOf_getD ts hq]; exact hCell.out _ (by omega)
  have hYc : Hid (∀ q, q < m → w.cell? ⟨b1, o1 + (k * m + q), none⟩ = some (.int .i64 ((rowOf ts m k).getD q 0))) := Lib.hid fun q hq => by rw [rowOf_getD ts hq]; exact hCell.out _ (by omega)
  unfold gapAt
  generalize rowOf ts m i = xs at *
  generalize rowOf ts m k = ys at *
  have hXb := Lib.hid (fun q (hq : q < m) => hx q hq)
  have hYb := Lib.hid (fun q (hq : q < m) => hy q hq)
  have hSx : Hid (∀ q, q ≤ m → 0 ≤ sumTo xs q ∧ sumTo xs q ≤ 10000 * q) := Lib.hid fun q hq => sum_small hx q hq
  have hSy : Hid (∀ q, q ≤ m → 0 ≤ sumTo ys q ∧ sumTo ys q ≤ 10000 * q) := Lib.hid fun q hq => sum_small hy q hq
  have hG : Hid (∀ q, q ≤ m → 0 ≤ gapL xs ys q ∧ gapL xs ys q ≤ 10000 * q) := Lib.hid fun q hq => gapL_bound hx hy q hq
  have hN : Hid (∀ q, gapL xs ys (q + 1) = max (gapL xs ys q) (sumTo xs (q + 1) - sumTo ys q) ∧ sumTo xs (q + 1) = sumTo xs q + xs.getD q 0 ∧ sumTo ys (q + 1) = sumTo ys q + ys.getD q 0) := Lib.hid fun q => ⟨rfl, rfl, rfl⟩
  rw [← hlen] at hfi hfk hmn ⊢
  clear h1 hc1 hx hy e2 hCell hMu hlen ht
  generalize i * m = pi at *
  generalize k * m = pk at *
  generalize ts.length = L at *
  unfold maxLen at hl1
  go_enter Try.func70, Try.ntmps70
  go_wp2_with fail
  go_loopw [9, 10, 11, 12] (fun gv av bv iv wr => ∃ (q : Nat), q ≤ m ∧ iv = .int .i64 q ∧ gv = .int .i64 (gapL xs ys q) ∧ av = .int .i64 (sumTo xs q) ∧ bv = .int .i64 (sumTo ys q) ∧ w = wr) (fun _ _ _ iv _ => m - (intOf iv).toNat)
  case atStart => exact ⟨0, Nat.zero_le _, rfl, rfl, rfl, rfl, rfl⟩
  case round =>
    obtain ⟨q, hq, rfl, rfl, rfl, rfl, rfl⟩ := hrel
    by_cases hlt : q < m
    · have p1 := hXc.out q hlt
      have p2 := hYc.out q hlt
      obtain ⟨n1, n2, n3⟩ := hN.out q
      have s1 := hSx.out q (by omega)
      have s2 := hSy.out q (by omega)
      have g1 := hG.out q (by omega)
      have x1 := hXb.out q hlt
      have y1 := hYb.out q hlt
      have hN1 := Lib.hid n1
      have hN2 := Lib.hid n2
      have hN3 := Lib.hid n3
      generalize gapL xs ys q = gq at *
      generalize sumTo xs q = sx at *
      generalize sumTo ys q = sy at *
      generalize xs.getD q 0 = x at *
      generalize ys.getD q 0 = y at *
      clear n1 n2 n3
      have hw1 : IntKind.i64.wrap ((pi : Int) + (q : Int)) = (pi : Int) + (q : Int) := IntWalk.i64_in _ (by omega)
      have hw2 : 0 ≤ (pi : Int) + (q : Int) := by omega
      have hw3 : ((pi : Int) + (q : Int)).toNat = pi + q := by omega
      have hw4 : (pi : Int) + (q : Int) < (L : Int) := by omega
      have hv1 : IntKind.i64.wrap ((pk : Int) + (q : Int)) = (pk : Int) + (q : Int) := IntWalk.i64_in _ (by omega)
      have hv2 : 0 ≤ (pk : Int) + (q : Int) := by omega
      have hv3 : ((pk : Int) + (q : Int)).toNat = pk + q := by omega
      have hv4 : (pk : Int) + (q : Int) < (L : Int) := by omega
      go_wp2_with (go_at_call 55; (with_reducible refine (l00Max_any _ _ _).mono ?_); rintro e w' ⟨rfl, rfl⟩)
      go_roundw
      case rel => exact ⟨q + 1, by omega, by go_num, by rw [hN1.out, hN2.out], by rw [hN2.out], by rw [hN3.out], by trivial⟩
      case measure => simp [intOf]; omega
    · obtain rfl : m = q := by omega
      go_wp2_with fail
      go_ret
      exact ⟨rfl, rfl⟩
end Go.Proofs.Ytfigojmdklaljaa
