/- Contracts: how much later a train must begin. -/
import Derived.Test.YthliapjnfcahlaaRuns
import Derived.Test.YthliapjnfcahlaaWaitPure
namespace Go.Proofs.Ythliapjnfcahlaa
open Go.RowKit Go.Lst

def canHead (xs ys : List Int) : Bool := okRuns xs && okRuns ys && decide (xs.length = ys.length)
def headRes (xs ys : List Int) : Int := if canHead xs ys then gapL xs ys xs.length else 0
theorem canHead_of {xs ys : List Int} (h : canHead xs ys = true) : okRuns xs = true ∧ okRuns ys = true ∧ xs.length = ys.length := by
  simp only [canHead, Bool.and_eq_true, decide_eq_true_eq] at h
  exact ⟨h.1.1, h.1.2, h.2⟩
theorem runs_at {xs : List Int} (h : okRuns xs = true) {q : Nat} (hq : q < xs.length) : 0 ≤ xs.getD q 0 ∧ xs.getD q 0 ≤ 1000 := by
  have e : xs[q]? = some xs[q] := List.getElem?_eq_getElem _
  have := (okRuns_of h).2.2 q _ e
  rw [getD_of e]; exact this
theorem runs_sum {xs : List Int} {m : Nat} (h : ∀ q, q < m → 0 ≤ xs.getD q 0 ∧ xs.getD q 0 ≤ 1000) : ∀ q, q ≤ m → 0 ≤ sumTo xs q ∧ sumTo xs q ≤ 1000 * q
  | 0, _ => by unfold sumTo; omega
  | q + 1, hq => by
    have := runs_sum h q (by omega)
    have := h q (by omega)
    unfold sumTo
    omega
theorem runs_gap {xs ys : List Int} {m : Nat} (hx : ∀ q, q < m → 0 ≤ xs.getD q 0 ∧ xs.getD q 0 ≤ 1000) (hy : ∀ q, q < m → 0 ≤ ys.getD q 0 ∧ ys.getD q 0 ≤ 1000) : ∀ q, q ≤ m → 0 ≤ gapL xs ys q ∧ gapL xs ys q ≤ 1000 * q
  | 0, _ => by unfold gapL; omega
  | q + 1, hq => by
    have ih := runs_gap hx hy q (by omega)
    have h1 := runs_sum hx (q + 1) hq
    have h2 := runs_sum hy q (by omega)
    unfold gapL
    omega

set_option maxHeartbeats 2000000 in
theorem headOf_any (B : Nat) (v1 v2 : Value) (xs ys : List Int) (m : Nat) (w : World) (h1 : LstI B w v1 xs) (h2 : LstI B w v2 ys) (hl1 : xs.length = m) (hl2 : ys.length = m) (hm8 : m ≤ 12)
    (hx : ∀ q, q < m → 0 ≤ xs.getD q 0 ∧ xs.getD q 0 ≤ 1000) (hy : ∀ q, q < m → 0 ≤ ys.getD q 0 ∧ ys.getD q 0 ≤ 1000) :
    Calls Try.prog 85 #[v1, v2] w fun e w' => e = .returned (.int .i64 (gapL xs ys m)) ∧ w = w' := by
  obtain ⟨a1, cap1, rfl, _, _, _, hc1⟩ := h1.at_
  obtain ⟨a2, cap2, rfl, _, _, _, hc2⟩ := h2.at_
  rw [hl1] at hc1 ⊢
  rw [hl2] at hc2 ⊢
  have hC1 := Lib.hid hc1
  have hC2 := Lib.hid hc2
  have hXb := Lib.hid (fun q (hq : q < m) => hx q hq)
  have hYb := Lib.hid (fun q (hq : q < m) => hy q hq)
  have hSx : Hid (∀ q, q ≤ m → 0 ≤ sumTo xs q ∧ sumTo xs q ≤ 1000 * q) := Lib.hid fun q hq => runs_sum hx q hq
  have hSy : Hid (∀ q, q ≤ m → 0 ≤ sumTo ys q ∧ sumTo ys q ≤ 1000 * q) := Lib.hid fun q hq => runs_sum hy q hq
  have hG : Hid (∀ q, q ≤ m → 0 ≤ gapL xs ys q ∧ gapL xs ys q ≤ 1000 * q) := Lib.hid fun q hq => runs_gap hx hy q hq
  have hN : Hid (∀ q, gapL xs ys (q + 1) = max (gapL xs ys q) (sumTo xs (q + 1) - sumTo ys q) ∧ sumTo xs (q + 1) = sumTo xs q + xs.getD q 0 ∧ sumTo ys (q + 1) = sumTo ys q + ys.getD q 0) := Lib.hid fun q => ⟨rfl, rfl, rfl⟩
  clear h1 h2 hc1 hc2 hx hy
  go_enter Try.func85, Try.ntmps85
  go_wp2_with fail
  go_loopw [5, 6, 11] (fun gv av iv wr => ∃ (q : Nat) (z : Int), q ≤ m ∧ iv = .int .i64 q ∧ gv = .int .i64 (gapL xs ys q) ∧ av = .int .i64 z ∧ Hid (z = sumTo xs q - sumTo ys q) ∧ w = wr) (fun _ _ iv _ => m - (intOf iv).toNat)
  case atStart => exact ⟨0, 0, Nat.zero_le _, rfl, rfl, rfl, Lib.hid rfl, rfl⟩
  case round =>
    obtain ⟨q, z, hq, rfl, rfl, rfl, hZ, rfl⟩ := hrel
    by_cases hlt : q < m
    · obtain ⟨b1, o1, x, rfl, _, hx, p1⟩ := hC1.out q hlt
      obtain ⟨b2, o2, y, rfl, _, hy, p2⟩ := hC2.out q hlt
      obtain ⟨n1, n2, n3⟩ := hN.out q
      have s1 := hSx.out q (by omega)
      have s2 := hSy.out q (by omega)
      have g1 := hG.out q (by omega)
      have x1 := hXb.out q hlt
      have y1 := hYb.out q hlt
      rw [getD_of hx] at x1 n2
      rw [getD_of hy] at y1 n3
      have hz1 : -12000 ≤ z ∧ z ≤ 12000 := by rw [hZ.out]; omega
      have hg2 := Lib.hid (show max (gapL xs ys q) (z + x) = gapL xs ys (q + 1) by rw [n1, n2, hZ.out]; congr 1; omega)
      have hz2 := Lib.hid (show z + x - y = sumTo xs (q + 1) - sumTo ys (q + 1) by rw [n2, n3, hZ.out]; omega)
      generalize gapL xs ys q = gq at *
      clear hx hy n1 n2 n3 s1 s2
      have hw1 : IntKind.i64.wrap (z + x) = z + x := IntWalk.i64_in _ (by omega)
      have hw2 : IntKind.i64.wrap (z + x - y) = z + x - y := IntWalk.i64_in _ (by omega)
      go_wp2_with fail
      all_goals
        simp only [mx_eq]
        go_roundw
        case rel => exact ⟨q + 1, _, by omega, by go_num, by rw [hg2.out], rfl, hz2, by trivial⟩
        case measure => simp [intOf]; omega
    · obtain rfl : m = q := by omega
      go_wp2_with fail
      go_ret
      exact ⟨rfl, rfl⟩
set_option maxHeartbeats 2000000 in
theorem implHead_any (B : Nat) (v1 v2 : Value) (xs ys : List Int) (w : World) (h1 : LstI B w v1 xs) (h2 : LstI B w v2 ys) :
    Calls Try.prog 47 #[v1, v2] w (NumPost (headRes xs ys) (canHead xs ys) w) := by
  have hA1 := Lib.hid (areRuns_any B v1 xs w h1)
  have hA2 := Lib.hid (areRuns_any B v2 ys w h2)
  cases hq : canHead xs ys
  · have hP := Lib.hid (num_no (x := headRes xs ys) (ok := false) (w := w) (w' := w) (by unfold headRes; rw [hq]; rfl) rfl (Below.refl _ _))
    generalize NumPost (headRes xs ys) false w = Q at *
    obtain ⟨a1, cap1, rfl, hl1, _⟩ := h1.at_
    obtain ⟨a2, cap2, rfl, hl2, _⟩ := h2.at_
    clear h1 h2
    cases q1 : okRuns xs
    · rw [q1] at hA1
      generalize xs.length = n at *
      generalize ys.length = m at *
      unfold maxLen at hl1 hl2
      clear hq
      go_enter Try.func47, Try.ntmps47
      go_wp2_with (go_at_call 82; (with_reducible refine (hA1.out).mono ?_); rintro e w' ⟨rfl, rfl⟩)
      first | exact hP.out | (go_ret2; exact hP.out)
    rw [q1] at hA1
    cases q2 : okRuns ys
    · rw [q2] at hA2
      generalize xs.length = n at *
      generalize ys.length = m at *
      unfold maxLen at hl1 hl2
      clear hq
      go_enter Try.func47, Try.ntmps47
      go_wp2_with (go_at_call 82; first | ((with_reducible refine (hA1.out).mono ?_); rintro e w' ⟨rfl, rfl⟩) | ((with_reducible refine (hA2.out).mono ?_); rintro e w' ⟨rfl, rfl⟩))
      first | exact hP.out | (go_ret2; exact hP.out)
    rw [q2] at hA2
    have hne : xs.length ≠ ys.length := fun he => by simp [canHead, q1, q2, he] at hq
    have hb : ((xs.length : Int) != (ys.length : Int)) = true := by rw [bne_iff_ne]; omega
    have hb2 : (xs.length != ys.length) = true := by rw [bne_iff_ne]; exact hne
    generalize xs.length = n at *
    generalize ys.length = m at *
    unfold maxLen at hl1 hl2
    clear hq hne
    go_enter Try.func47, Try.ntmps47
    go_wp2_with (go_at_call 82; first | ((with_reducible refine (hA1.out).mono ?_); rintro e w' ⟨rfl, rfl⟩) | ((with_reducible refine (hA2.out).mono ?_); rintro e w' ⟨rfl, rfl⟩))
    first | exact hP.out | (go_ret2; exact hP.out)
  · obtain ⟨q1, q2, he⟩ := canHead_of hq
    have hG := Lib.hid (headOf_any B v1 v2 xs ys xs.length w h1 h2 rfl he.symm (okRuns_of q1).2.1 (fun q h => runs_at q1 h) (fun q h => runs_at q2 (by omega)))
    have hP : Hid (NumPost (headRes xs ys) true w (.returned (.tuple #[.int .i64 (gapL xs ys xs.length), .bool true])) w) := Lib.hid (num_yes (by unfold headRes; rw [hq, if_pos rfl]) rfl (Below.refl _ _))
    generalize NumPost (headRes xs ys) true w = Q at *
    obtain ⟨a1, cap1, rfl, hl1, _⟩ := h1.at_
    obtain ⟨a2, cap2, rfl, hl2, _⟩ := h2.at_
    rw [← he] at hl2 hA2 hG ⊢
    rw [q1] at hA1
    rw [q2] at hA2
    clear h1 h2 hq q1 q2 he
    generalize gapL xs ys xs.length = G at *
    generalize xs.length = n at *
    unfold maxLen at hl1 hl2
    go_enter Try.func47, Try.ntmps47
    go_wp2_with (first | (go_at_call 82; first | ((with_reducible refine (hA1.out).mono ?_); rintro e w' ⟨rfl, rfl⟩) | ((with_reducible refine (hA2.out).mono ?_); rintro e w' ⟨rfl, rfl⟩)) | (go_at_call 85; (with_reducible refine (hG.out).mono ?_); rintro e w' ⟨rfl, rfl⟩))
    first | exact hP.out | (go_ret2; exact hP.out)
set_option maxHeartbeats 4000000 in
theorem specHead_any (B : Nat) (v1 v2 : Value) (xs ys : List Int) (w : World) (h1 : LstI B w v1 xs) (h2 : LstI B w v2 ys) :
    Calls Try.prog 46 #[v1, v2] w (NumPost (headRes xs ys) (canHead xs ys) w) := by
  have hA1 := Lib.hid (l05Runs_any B v1 xs w h1)
  have hA2 := Lib.hid (l05Runs_any B v2 ys w h2)
  cases hq : canHead xs ys
  · have hP := Lib.hid (num_no (x := headRes xs ys) (ok := false) (w := w) (w' := w) (by unfold headRes; rw [hq]; rfl) rfl (Below.refl _ _))
    generalize NumPost (headRes xs ys) false w = Q at *
    obtain ⟨a1, cap1, rfl, hl1, _⟩ := h1.at_
    obtain ⟨a2, cap2, rfl, hl2, _⟩ := h2.at_
    clear h1 h2
    cases q1 : okRuns xs
    · rw [q1] at hA1
      generalize xs.length = n at *
      generalize ys.length = m at *
      unfold maxLen at hl1 hl2
      clear hq
      go_enter Try.func46, Try.ntmps46
      go_wp2_with (go_at_call 80; (with_reducible refine (hA1.out).mono ?_); rintro e w' ⟨rfl, rfl⟩)
      first | exact hP.out | (go_ret2; exact hP.out)
    rw [q1] at hA1
    cases q2 : okRuns ys
    · rw [q2] at hA2
      generalize xs.length = n at *
      generalize ys.length = m at *
      unfold maxLen at hl1 hl2
      clear hq
      go_enter Try.func46, Try.ntmps46
      go_wp2_with (go_at_call 80; first | ((with_reducible refine (hA1.out).mono ?_); rintro e w' ⟨rfl, rfl⟩) | ((with_reducible refine (hA2.out).mono ?_); rintro e w' ⟨rfl, rfl⟩))
      first | exact hP.out | (go_ret2; exact hP.out)
    rw [q2] at hA2
    have hne : xs.length ≠ ys.length := fun he => by simp [canHead, q1, q2, he] at hq
    have hb : ((xs.length : Int) != (ys.length : Int)) = true := by rw [bne_iff_ne]; omega
    have hb2 : (xs.length != ys.length) = true := by rw [bne_iff_ne]; exact hne
    generalize xs.length = n at *
    generalize ys.length = m at *
    unfold maxLen at hl1 hl2
    clear hq hne
    go_enter Try.func46, Try.ntmps46
    go_wp2_with (go_at_call 80; first | ((with_reducible refine (hA1.out).mono ?_); rintro e w' ⟨rfl, rfl⟩) | ((with_reducible refine (hA2.out).mono ?_); rintro e w' ⟨rfl, rfl⟩))
    first | exact hP.out | (go_ret2; exact hP.out)
  · obtain ⟨q1, q2, he⟩ := canHead_of hq
    have hP : Hid (NumPost (headRes xs ys) true w (.returned (.tuple #[.int .i64 (gapL xs ys xs.length), .bool true])) w) := Lib.hid (num_yes (by unfold headRes; rw [hq, if_pos rfl]) rfl (Below.refl _ _))
    have hx : ∀ q, q < xs.length → 0 ≤ xs.getD q 0 ∧ xs.getD q 0 ≤ 1000 := fun q h => runs_at q1 h
    have hy : ∀ q, q < xs.length → 0 ≤ ys.getD q 0 ∧ ys.getD q 0 ≤ 1000 := fun q h => runs_at q2 (by omega)
    have hXb := Lib.hid hx
    have hYb := Lib.hid hy
    have hSx : Hid (∀ q, q ≤ xs.length → 0 ≤ sumTo xs q ∧ sumTo xs q ≤ 1000 * q) := Lib.hid fun q hq => runs_sum hx q hq
    have hSy : Hid (∀ q, q ≤ xs.length → 0 ≤ sumTo ys q ∧ sumTo ys q ≤ 1000 * q) := Lib.hid fun q hq => runs_sum hy q hq
    have hG : Hid (∀ q, q ≤ xs.length → 0 ≤ gapL xs ys q ∧ gapL xs ys q ≤ 1000 * q) := Lib.hid fun q hq => runs_gap hx hy q hq
    have hN : Hid (∀ q, gapL xs ys (q + 1) = max (gapL xs ys q) (sumTo xs (q + 1) - sumTo ys q) ∧ sumTo xs (q + 1) = sumTo xs q + xs.getD q 0 ∧ sumTo ys (q + 1) = sumTo ys q + ys.getD q 0) := Lib.hid fun q => ⟨rfl, rfl, rfl⟩
    have hG0 : gapL xs ys 0 = 0 := rfl
    have hS0 : sumTo xs 0 - sumTo ys 0 = 0 := rfl
    have n12 := (okRuns_of q1).2.1
    generalize NumPost (headRes xs ys) true w = Q at *
    obtain ⟨a1, cap1, rfl, hl1, _, _, hc1⟩ := h1.at_
    obtain ⟨a2, cap2, rfl, hl2, _, _, hc2⟩ := h2.at_
    rw [← he] at hl2 hA2 hc2 ⊢
    rw [q1] at hA1
    rw [q2] at hA2
    have hC1 := Lib.hid hc1
    have hC2 := Lib.hid hc2
    clear h1 h2 hq q1 q2 he hc1 hc2 hx hy
    generalize xs.length = n at *
    unfold maxLen at hl1 hl2
    go_enter Try.func46, Try.ntmps46
    go_wp2_with (go_at_call 80; first | ((with_reducible refine (hA1.out).mono ?_); rintro e w' ⟨rfl, rfl⟩) | ((with_reducible refine (hA2.out).mono ?_); rintro e w' ⟨rfl, rfl⟩))
    go_loopw [6, 7, 26] (fun gv av iv wr => ∃ (q : Nat) (z : Int), q ≤ n ∧ iv = .int .i64 q ∧ gv = .int .i64 (gapL xs ys q) ∧ av = .int .i64 z ∧ Hid (z = sumTo xs q - sumTo ys q) ∧ w = wr) (fun _ _ iv _ => n - (intOf iv).toNat)
    case atStart => exact ⟨0, 0, Nat.zero_le _, rfl, rfl, rfl, Lib.hid rfl, rfl⟩
    case round =>
      obtain ⟨q, z, hq, rfl, rfl, rfl, hZ, rfl⟩ := hrel
      by_cases hlt : q < n
      · obtain ⟨b1, o1, x, rfl, _, hx, p1⟩ := hC1.out q hlt
        obtain ⟨b2, o2, y, rfl, _, hy, p2⟩ := hC2.out q hlt
        obtain ⟨n1, n2, n3⟩ := hN.out q
        have s1 := hSx.out q (by omega)
        have s2 := hSy.out q (by omega)
        have s3 := hSx.out (q + 1) (by omega)
        have g1 := hG.out q (by omega)
        have x1 := hXb.out q hlt
        have y1 := hYb.out q hlt
        rw [getD_of hx] at x1 n2
        rw [getD_of hy] at y1 n3
        have hz1 : -12000 ≤ z ∧ z ≤ 12000 := by rw [hZ.out]; omega
        have hz2 := Lib.hid (show z + x - y = sumTo xs (q + 1) - sumTo ys (q + 1) by rw [n2, n3, hZ.out]; omega)
        have hw1 : IntKind.i64.wrap (z + x) = z + x := IntWalk.i64_in _ (by omega)
        have hw2 : IntKind.i64.wrap (z + x - y) = z + x - y := IntWalk.i64_in _ (by omega)
        by_cases hgt : gapL xs ys q < z + x
        · have hg2 := Lib.hid (show z + x = gapL xs ys (q + 1) by rw [n1, n2]; have := hZ.out; omega)
          have hd : decide (gapL xs ys q < z + x) = true := decide_eq_true hgt
          generalize gapL xs ys q = gq at *
          clear hx hy n1 n2 n3 s1 s2 s3
          by_cases h0 : q = 0
          · have hb : ((q : Int) == 0) = true := by rw [beq_iff_eq]; omega
            clear h0
            go_wp2_with fail
            go_roundw
            case rel => exact ⟨q + 1, _, by omega, by go_num, by rw [hg2.out], rfl, hz2, by trivial⟩
            case measure => simp [intOf]; omega
          · have hb : ((q : Int) == 0) = false := by rw [beq_eq_false_iff_ne]; omega
            clear h0
            go_wp2_with fail
            go_roundw
            case rel => exact ⟨q + 1, _, by omega, by go_num, by rw [hg2.out], rfl, hz2, by trivial⟩
            case measure => simp [intOf]; omega
        · have hg2 := Lib.hid (show gapL xs ys q = gapL xs ys (q + 1) by rw [n1, n2]; have := hZ.out; omega)
          have hd : decide (gapL xs ys q < z + x) = false := decide_eq_false hgt
          by_cases h0 : q = 0
          · have hg3 := Lib.hid (show z + x = gapL xs ys (q + 1) by
              rw [← hg2.out]
              have e1 : gapL xs ys q = 0 := by rw [h0]; exact hG0
              have e2 : z = 0 := by rw [hZ.out, h0]; exact hS0
              omega)
            have hb : ((q : Int) == 0) = true := by rw [beq_iff_eq]; omega
            generalize gapL xs ys q = gq at *
            clear h0 hx hy n1 n2 n3 s1 s2 s3
            go_wp2_with fail
            go_roundw
            case rel => exact ⟨q + 1, _, by omega, by go_num, by rw [hg3.out], rfl, hz2, by trivial⟩
            case measure => simp [intOf]; omega
          · have hb : ((q : Int) == 0) = false := by rw [beq_eq_false_iff_ne]; omega
            generalize gapL xs ys q = gq at *
            clear h0 hx hy n1 n2 n3 s1 s2 s3
            go_wp2_with fail
            go_roundw
            case rel => exact ⟨q + 1, _, by omega, by go_num, by rw [hg2.out], rfl, hz2, by trivial⟩
            case measure => simp [intOf]; omega
      · obtain rfl : n = q := by omega
        go_wp2_with fail
        first | exact hP.out | (go_ret2; exact hP.out)
theorem leastHead_both (xs ys : List Int) (_ : ∀ x ∈ xs, (Lit.int .i64 x).wf = true) (_ : ∀ x ∈ ys, (Lit.int .i64 x).wf = true) : ∃ (r0 : Int) (r1 : Bool),
    (∀ (B : Nat) (v1 v2 : Value) (w : World), LstI B w v1 xs → LstI B w v2 ys → B ≤ w.heap.size → Calls Try.prog 46 #[v1, v2] w fun e w' => e = .returned (.tuple #[.int .i64 r0, .bool r1]) ∧ Below w.heap.size w w') ∧
    (∀ (B : Nat) (v1 v2 : Value) (w : World), LstI B w v1 xs → LstI B w v2 ys → B ≤ w.heap.size → Calls Try.prog 47 #[v1, v2] w fun e w' => e = .returned (.tuple #[.int .i64 r0, .bool r1]) ∧ Below w.heap.size w w') :=
  ⟨headRes xs ys, canHead xs ys, fun B v1 v2 w h1 h2 _ => specHead_any B v1 v2 xs ys w h1 h2, fun B v1 v2 w h1 h2 _ => implHead_any B v1 v2 xs ys w h1 h2⟩
end Go.Proofs.Ythliapjnfcahlaa
