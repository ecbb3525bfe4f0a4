/- Contracts of the law's own functions on lists of Task: measured, copied, compared, marked. -/
import Derived.Test.YtdggbjpfllnenaaRowTask
import Derived.Test.YtdggbjpfllnenaaBlk
namespace Go.Proofs.Ytdggbjpfllnenaa
open Go.RowKit Go.Lst Go.ChangeShapes Go.WideShapes

theorem below_two {B : Nat} {w w' w'' : World} (h : Below B w w') (hB : B ≤ w.heap.size) (hb : Below w'.heap.size w' w'') : Below B w w'' := below_on h hB hb

theorem ret_int' {p q : Int} (h : p = q) : Ending.returned (.int .i64 p) = .returned (.int .i64 q) := by rw [h]
theorem setAll_after (xs : List Value) (j : Nat) (us : List Value) (i : Nat) (h : j + us.length ≤ i) : (setAll xs j us)[i]? = xs[i]? := by
  induction us generalizing xs j with
  | nil => rfl
  | cons u us ih => simp only [List.length_cons] at h; unfold setAll; rw [ih _ _ (by omega), List.getElem?_set_ne (by omega)]
theorem blk_lt {g n cap q : Nat} (hq : (Value.slice (some ⟨g, 0, none⟩) n cap).ownBlock = some q) : q < g + 1 := by
  have hgq : g = q := by simpa [Value.ownBlock] using hq
  omega
theorem own_slice {A B e k n : Nat} {w : World} {v : Value} {cs : List Value} (h : Own A B w v e k n cs) : ∃ a m c, v = .slice a m c := by
  rcases h.1.2 with ⟨h1, _⟩ | ⟨g, cap, cur, h1, _⟩
  · exact ⟨_, _, _, h1⟩
  · exact ⟨_, _, _, h1⟩

theorem szInt64S_fits (a : Option Addr) (n cap : Nat) (left : Int) (w : World) (h : (n : Int) ≤ left) (h1 : left ≤ 1048576) :
    Calls Try.prog 10 #[.slice a n cap, .int .i64 left] w fun e w' => e = .returned (.int .i64 (left - n)) ∧ w = w' := by
  have h0 : 0 ≤ left := by omega
  go_enter Try.func10, Try.ntmps10
  go_wp2
  go_ret
  exact ⟨rfl, rfl⟩
theorem szInt64S_over (a : Option Addr) (n cap : Nat) (left : Int) (w : World) (h : left < n) (h1 : left ≤ 1048576) (hn : n ≤ maxLen) (h0 : 0 ≤ left) :
    Calls Try.prog 10 #[.slice a n cap, .int .i64 left] w fun e w' => e = .returned (.int .i64 (-1)) ∧ w = w' := by
  unfold maxLen at hn
  go_enter Try.func10, Try.ntmps10
  go_wp2
  go_ret
  exact ⟨rfl, rfl⟩
theorem szTask_fits (t n : Int) (a1 a2 : Option Addr) (n1 c1 n2 c2 : Nat) (left : Int) (w : World) (h : (n1 : Int) + n2 ≤ left) (h1 : left ≤ 1048576) :
    Calls Try.prog 20 #[.agg #[.int .i64 t, .int .i64 n, .slice a1 n1 c1, .slice a2 n2 c2], .int .i64 left] w fun e w' => e = .returned (.int .i64 (left - (n1 + n2))) ∧ Below w.heap.size w w' := by
  go_enter Try.func20, Try.ntmps20
  go_wp2_with fail
  refine (szInt64S_fits _ _ _ _ _ (by omega) (by omega)).mono ?_
  rintro e w1 ⟨rfl, rfl⟩
  go_wp2_with fail
  refine (szInt64S_fits _ _ _ _ _ (by omega) (by omega)).mono ?_
  rintro e w1 ⟨rfl, rfl⟩
  go_wp2_with fail
  go_ret
  exact ⟨ret_int' (by omega), by repeat (first | exact Below.refl _ _ | refine below_alloc ?_ _)⟩
theorem szTask_over (t n : Int) (a1 a2 : Option Addr) (n1 c1 n2 c2 : Nat) (left : Int) (w : World) (h : left < (n1 : Int) + n2) (h1 : left ≤ 1048576) (h0 : 0 ≤ left) (m1 : n1 ≤ maxLen) (m2 : n2 ≤ maxLen) :
    Calls Try.prog 20 #[.agg #[.int .i64 t, .int .i64 n, .slice a1 n1 c1, .slice a2 n2 c2], .int .i64 left] w fun e w' => e = .returned (.int .i64 (-1)) ∧ Below w.heap.size w w' := by
  by_cases hc : left < n1
  · go_enter Try.func20, Try.ntmps20
    go_wp2_with fail
    refine (szInt64S_over _ _ _ _ _ (by omega) (by omega) m1 (by omega)).mono ?_
    rintro e w1 ⟨rfl, rfl⟩
    go_wp2_with fail
    go_ret
    exact ⟨rfl, by repeat (first | exact Below.refl _ _ | refine below_alloc ?_ _)⟩
  · go_enter Try.func20, Try.ntmps20
    go_wp2_with fail
    refine (szInt64S_fits _ _ _ _ _ (by omega) (by omega)).mono ?_
    rintro e w1 ⟨rfl, rfl⟩
    go_wp2_with fail
    refine (szInt64S_over _ _ _ _ _ (by omega) (by omega) m2 (by omega)).mono ?_
    rintro e w1 ⟨rfl, rfl⟩
    go_wp2_with fail
    go_ret
    exact ⟨rfl, by repeat (first | exact Below.refl _ _ | refine below_alloc ?_ _)⟩

set_option maxHeartbeats 1000000 in
set_option maxRecDepth 100000 in
theorem szTaskS_fits (B : Nat) (v : Value) (xs : List TaskD) (left : Int) (w : World) (hL : LstTask B w v xs) (hB : B ≤ w.heap.size) (h : (tsz xs : Int) ≤ left) (h1 : left ≤ 1048576) :
    Calls Try.prog 9 #[v, .int .i64 left] w fun e w' => e = .returned (.int .i64 (left - tsz xs)) ∧ Below w.heap.size w w' := by
  obtain ⟨a, cap, rfl, hl, _, _, hc⟩ := hL.at_
  unfold tsz at h ⊢
  have hT : Hid (∀ k x, xs[k]? = some x → inner (xs.take (k + 1)) = inner (xs.take k) + (x.Before.length + x.Lags.length)) := Lib.hid fun k x hx => inner_take hx
  have hU : Hid (∀ k, inner (xs.take k) ≤ inner xs) := Lib.hid fun k => inner_take_le xs k
  have hZ : Hid (inner (xs.take 0) = 0) := Lib.hid (by simp [inner])
  have hA : Hid (∀ k, k = xs.length → inner (xs.take k) = inner xs) := Lib.hid fun k hk => by rw [hk, List.take_length]
  have hC := Lib.hid hc
  clear hc hL
  generalize xs.length = n at *
  unfold maxLen at hl
  go_enter Try.func9, Try.ntmps9
  go_wp2_with fail
  go_loopw [1, 5] (fun lf i wr => ∃ k : Nat, k ≤ n ∧ i = .int .i64 k ∧ lf = .int .i64 (left - n - inner (xs.take k)) ∧ Hid (Below w.heap.size w wr)) (fun _ i _ => n - (intOf i).toNat)
  case atStart => exact ⟨0, Nat.zero_le _, rfl, by rw [hZ.out]; simp, Lib.hid (Below.refl _ _)⟩
  case round =>
    obtain ⟨k, hk, rfl, rfl, hB1⟩ := hrel
    have hq := Lib.hid (hU.out k)
    by_cases hlt : k < n
    · obtain ⟨b, o, x, vb, vl, rfl, hb, hx, c0, c1, c2, c3, l0, l1⟩ := hC.out k hlt
      rw [← hB1.out.cell (p := ⟨b, o + k * 4, none⟩) (show b < w.heap.size by omega)] at c0
      rw [← hB1.out.cell (p := ⟨b, o + k * 4 + 1, none⟩) (show b < w.heap.size by omega)] at c1
      rw [← hB1.out.cell (p := ⟨b, o + k * 4 + 2, none⟩) (show b < w.heap.size by omega)] at c2
      rw [← hB1.out.cell (p := ⟨b, o + k * 4 + 3, none⟩) (show b < w.heap.size by omega)] at c3
      obtain ⟨ab, nb, rfl, hm0, _⟩ := l0.at_
      obtain ⟨al, nl, rfl, hm1, _⟩ := l1.at_
      have hq1 := hT.out k x hx
      have hq2 := hU.out (k + 1)
      have hq3 := hU.out k
      have hq4 : (inner (xs.take (k + 1)) : Int) = inner (xs.take k) + (x.Before.length + x.Lags.length) := by omega
      have hE := Lib.hid hq4
      have hb0 : (x.Before.length : Int) + x.Lags.length ≤ left - n - inner (xs.take k) := by omega
      have hb1 : 0 ≤ left - n - inner (xs.take k) := by omega
      have hle : left - (n : Int) - inner (xs.take k) ≤ 1048576 := by omega
      clear hq1 hq2 hq3 hq4 hx l0 l1 hm0 hm1 hq
      have hs : (inner (xs.take k) : Int) ≤ 1048576 := by omega
      have hn' : (n : Int) ≤ 1048576 := by omega
      go_wp2_with fail
      refine (szTask_fits _ _ _ _ _ _ _ _ _ _ hb0 hle).mono ?_
      rintro e w1 ⟨rfl, hw1⟩
      have hB2 := Lib.hid (below_two hB1.out (Nat.le_refl _) hw1)
      clear hw1 hB1
      go_wp2_with fail
      go_roundw
      case rel => exact ⟨k + 1, by omega, by go_num, by rw [hE.out]; exact congrArg _ (by omega), hB2⟩
      case measure => simp [intOf]; omega
    · have hkn := Lib.hid (hA.out k (by omega))
      go_wp2_with fail
      go_ret
      exact ⟨ret_int' (by rw [hkn.out]; omega), hB1.out⟩

set_option maxHeartbeats 1000000 in
set_option maxRecDepth 100000 in
theorem szTaskS_over (B : Nat) (v : Value) (xs : List TaskD) (left : Int) (w : World) (hL : LstTask B w v xs) (hB : B ≤ w.heap.size) (h : left < (tsz xs : Int)) (h1 : left ≤ 1048576) (h0 : 0 ≤ left) :
    Calls Try.prog 9 #[v, .int .i64 left] w fun e w' => e = .returned (.int .i64 (-1)) ∧ Below w.heap.size w w' := by
  obtain ⟨a, cap, rfl, hl, _, _, hc⟩ := hL.at_
  unfold tsz at h
  have hT : Hid (∀ k x, xs[k]? = some x → inner (xs.take (k + 1)) = inner (xs.take k) + (x.Before.length + x.Lags.length)) := Lib.hid fun k x hx => inner_take hx
  have hZ : Hid (inner (xs.take 0) = 0) := Lib.hid (by simp [inner])
  have hA : Hid (∀ k, k = xs.length → inner (xs.take k) = inner xs) := Lib.hid fun k hk => by rw [hk, List.take_length]
  have hC := Lib.hid hc
  clear hc hL
  generalize xs.length = n at *
  unfold maxLen at hl
  by_cases hfirst : left < (n : Int)
  · go_enter Try.func9, Try.ntmps9
    go_wp2_with fail
    go_ret
    exact ⟨rfl, Below.refl _ _⟩
  have hn' : (n : Int) ≤ 1048576 := by omega
  go_enter Try.func9, Try.ntmps9
  go_wp2_with fail
  go_loopw [1, 5] (fun lf i wr => ∃ k : Nat, k ≤ n ∧ i = .int .i64 k ∧ lf = .int .i64 (left - n - inner (xs.take k)) ∧ 0 ≤ left - n - inner (xs.take k) ∧ Hid (Below w.heap.size w wr)) (fun _ i _ => n - (intOf i).toNat)
  case atStart => exact ⟨0, Nat.zero_le _, rfl, by rw [hZ.out]; simp, by rw [hZ.out]; simp; omega, Lib.hid (Below.refl _ _)⟩
  case round =>
    obtain ⟨k, hk, rfl, rfl, hpos, hB1⟩ := hrel
    by_cases hlt : k < n
    · obtain ⟨b, o, x, vb, vl, rfl, hb, hx, c0, c1, c2, c3, l0, l1⟩ := hC.out k hlt
      rw [← hB1.out.cell (p := ⟨b, o + k * 4, none⟩) (show b < w.heap.size by omega)] at c0
      rw [← hB1.out.cell (p := ⟨b, o + k * 4 + 1, none⟩) (show b < w.heap.size by omega)] at c1
      rw [← hB1.out.cell (p := ⟨b, o + k * 4 + 2, none⟩) (show b < w.heap.size by omega)] at c2
      rw [← hB1.out.cell (p := ⟨b, o + k * 4 + 3, none⟩) (show b < w.heap.size by omega)] at c3
      obtain ⟨ab, nb, rfl, hm0, _⟩ := l0.at_
      obtain ⟨al, nl, rfl, hm1, _⟩ := l1.at_
      have hq1 := hT.out k x hx
      have hq4 : (inner (xs.take (k + 1)) : Int) = inner (xs.take k) + (x.Before.length + x.Lags.length) := by omega
      have hE := Lib.hid hq4
      have hle : left - (n : Int) - inner (xs.take k) ≤ 1048576 := by omega
      have hs : (inner (xs.take k) : Int) ≤ 1048576 := by omega
      have hM0 := Lib.hid hm0
      have hM1 := Lib.hid hm1
      clear hq1 hq4 hx l0 l1 hm0 hm1
      by_cases hb0 : (x.Before.length : Int) + x.Lags.length ≤ left - n - inner (xs.take k)
      · go_wp2_with fail
        refine (szTask_fits _ _ _ _ _ _ _ _ _ _ hb0 hle).mono ?_
        rintro e w1 ⟨rfl, hw1⟩
        have hB2 := Lib.hid (below_two hB1.out (Nat.le_refl _) hw1)
        clear hw1 hB1
        go_wp2_with fail
        go_roundw
        case rel => exact ⟨k + 1, by omega, by go_num, by rw [hE.out]; exact congrArg _ (by omega), by rw [hE.out]; omega, hB2⟩
        case measure => simp [intOf]; omega
      · go_wp2_with fail
        refine (szTask_over _ _ _ _ _ _ _ _ _ _ (by omega) hle hpos hM0.out hM1.out).mono ?_
        rintro e w1 ⟨rfl, hw1⟩
        have hB2 := Lib.hid (below_two hB1.out (Nat.le_refl _) hw1)
        clear hw1 hB1
        go_wp2_with fail
        go_ret
        exact ⟨rfl, hB2.out⟩
    · exfalso
      have hkn := hA.out k (by omega)
      omega

set_option maxHeartbeats 1000000 in
set_option maxRecDepth 100000 in
theorem toTask_any (B : Nat) (x : TaskD) (vb vl : Value) (w : World) (hb : LstI B w vb x.Before) (hl : LstI B w vl x.Lags) (hB : B ≤ w.heap.size) (h1 : x.Before.length ≤ 1048576) (h2 : x.Lags.length ≤ 1048576) :
    Calls Try.prog 25 #[.agg #[.int .i64 x.Time, .int .i64 x.Needs, vb, vl]] w fun e w' => ∃ (q1 q2 : Option Addr) (m1 c1 m2 c2 M : Nat), e = .returned (.agg #[.int .i64 x.Time, .int .i64 x.Needs, .slice q1 m1 c1, .slice q2 m2 c2]) ∧
      Own w.heap.size M w' (.slice q1 m1 c1) 2 1 x.Before.length (x.Before.map (Value.int .i64)) ∧ Own M w'.heap.size w' (.slice q2 m2 c2) 2 1 x.Lags.length (x.Lags.map (Value.int .i64)) ∧ w.heap.size ≤ M ∧ M ≤ w'.heap.size ∧ Below w.heap.size w w' := by
  obtain ⟨a1, n1, rfl, hm1, _⟩ := id hb.at_
  obtain ⟨a2, n2, rfl, hm2, _⟩ := id hl.at_
  have hLb := Lib.hid hb
  have hLl := Lib.hid hl
  clear hb hl
  go_enter Try.func25, Try.ntmps25
  go_wp2_with fail
  generalize hw0 : World.alloc (World.alloc (World.alloc w _) _) _ = w0
  have hB0 : Below w.heap.size w w0 := by rw [← hw0]; repeat (first | exact Below.refl _ _ | refine below_alloc ?_ _)
  have hsz0 : w0.heap.size = w.heap.size + 3 := by rw [← hw0]; simp
  have hA0 : Whole w0 w.heap.size 52 #[.int .i64 x.Time, .int .i64 x.Needs, .slice a1 x.Before.length n1, .slice a2 x.Lags.length n2] := by rw [← hw0]; exact ((Whole.made w _ _ rfl).more _).more _
  have hA2 : Whole w0 (w.heap.size + 1 + 1) 45 #[.int .i64 x.Time, .int .i64 x.Needs, .slice none 0 0, .slice none 0 0] := by rw [← hw0]; exact Whole.made _ _ _ (by simp)
  have hA1 : Whole w0 (w.heap.size + 1) 45 #[.int .i64 0, .int .i64 0, .slice none 0 0, .slice none 0 0] := by rw [← hw0]; exact (Whole.made _ _ _ (by simp)).more _
  have hWR := Lib.hid hA1
  clear hA1
  have hW0 := Lib.hid hB0
  have hS0 := Lib.hid hsz0
  have hWA := Lib.hid hA0
  have hWO := Lib.hid hA2
  clear hw0 hB0 hsz0 hA0 hA2
  refine (copiedI B _ x.Before _ (hLb.out.below hW0.out hB) (Nat.le_trans hB hW0.out.size) h1).mono ?_
  rintro e w1 ⟨u1, rfl, ho1, hb1⟩
  obtain ⟨q1, m1, c1, rfl⟩ := own_slice ho1
  have hB1 := Lib.hid (below_on hW0.out (Nat.le_refl _) hb1)
  have hA1 := Lib.hid (hWA.out.kept hb1)
  have hC1 := Lib.hid (hWO.out.kept hb1)
  have hR1 := Lib.hid (hWR.out.kept hb1)
  have hP1 := Lib.hid (show Own w.heap.size w1.heap.size w1 (.slice q1 m1 c1) 2 1 x.Before.length (x.Before.map (Value.int .i64)) from ho1.mono (by have := hS0.out; omega) (Nat.le_refl _))
  have hQ1 := Lib.hid (show ∀ g, (Value.slice q1 m1 c1).ownBlock = some g → w.heap.size + 3 ≤ g from fun g hg => by have := (ho1.block_ge g hg).1; have := hS0.out; omega)
  have hz1 := Lib.hid (show w.heap.size + 3 ≤ w1.heap.size by have := hb1.size; have := hS0.out; omega)
  have k3 : w1.cell? ⟨w.heap.size, 3, none⟩ = some (.slice a2 x.Lags.length n2) := hA1.out.at_ rfl
  have d2 : w1.cell? ⟨w.heap.size + 1 + 1, 2, none⟩ = some (.slice none 0 0) := hC1.out.at_ rfl
  have e2 : w1.frozen? ⟨w.heap.size + 1 + 1, 2, none⟩ = false := hC1.out.free 2
  clear ho1 hb1 hW0 hWA hWO hS0
  go_wp2_with fail
  generalize hw2 : World.setCell w1 _ _ = w2
  have hC2 := Lib.hid (show Whole w2 (w.heap.size + 1 + 1) 45 #[.int .i64 x.Time, .int .i64 x.Needs, .slice q1 m1 c1, .slice none 0 0] by rw [← hw2]; exact hC1.out.put 2 _)
  have hR2 := Lib.hid (show Whole w2 (w.heap.size + 1) 45 #[.int .i64 0, .int .i64 0, .slice none 0 0, .slice none 0 0] by rw [← hw2]; exact hR1.out.apart (by show w.heap.size + 1 ≠ w.heap.size + 1 + 1; omega) _)
  have hB2 := Lib.hid (show Below w.heap.size w w2 by rw [← hw2]; exact hB1.out.setCell (p := ⟨w.heap.size + 1 + 1, 2, none⟩) (by show _ ≤ w.heap.size + 1 + 1; omega) _)
  have hz2 := Lib.hid (show w2.heap.size = w1.heap.size by rw [← hw2]; simp [World.setCell])
  have hP2 := Lib.hid (show Own w.heap.size w1.heap.size w2 (.slice q1 m1 c1) 2 1 x.Before.length (x.Before.map (Value.int .i64)) by
    have h3 := hP1.out.mono (Nat.le_refl _) (Nat.le_refl _)
    obtain ⟨⟨r1, r2⟩, r3, r4⟩ := h3
    refine ⟨⟨r1, ?_⟩, r3, r4⟩
    rcases r2 with r2 | ⟨g, cap, cur, r5, r6, r7, r8⟩
    · exact .inl r2
    · refine .inr ⟨g, cap, cur, r5, r6, ?_, r8⟩
      rw [← hw2, Below.heap_setCell _ _ _ _ (by have := hQ1.out g (by rw [r5]; rfl); show g ≠ w.heap.size + 1 + 1; omega)]
      exact r7)
  clear hw2 k3 d2 e2 hA1 hC1 hB1 hP1 hR1 hWR
  refine (copiedI B _ x.Lags _ (hLl.out.below hB2.out hB) (Nat.le_trans hB hB2.out.size) h2).mono ?_
  rintro e w3 ⟨u2, rfl, ho2, hb2⟩
  obtain ⟨q2, m2, c2, rfl⟩ := own_slice ho2
  have hC3 := Lib.hid (hC2.out.kept hb2)
  have hB3 := Lib.hid (below_on hB2.out (Nat.le_refl _) hb2)
  have hP3 := Lib.hid (hP2.out.below hb2 (Nat.le_of_eq hz2.out.symm))
  have hP4 := Lib.hid (show Own w1.heap.size w3.heap.size w3 (.slice q2 m2 c2) 2 1 x.Lags.length (x.Lags.map (Value.int .i64)) from ho2.mono (Nat.le_of_eq hz2.out.symm) (Nat.le_refl _))
  have hz3 := Lib.hid (show w1.heap.size ≤ w3.heap.size from Nat.le_trans (Nat.le_of_eq hz2.out.symm) hb2.size)
  have hR3 := Lib.hid (hR2.out.kept hb2)
  have r0 : w3.cell? ⟨w.heap.size + 1, 0, none⟩ = some (.int .i64 0) := (hR2.out.kept hb2).at_ rfl
  have r1 : w3.cell? ⟨w.heap.size + 1, 1, none⟩ = some (.int .i64 0) := (hR2.out.kept hb2).at_ rfl
  have r2 : w3.cell? ⟨w.heap.size + 1, 2, none⟩ = some (.slice none 0 0) := (hR2.out.kept hb2).at_ rfl
  have r3 : w3.cell? ⟨w.heap.size + 1, 3, none⟩ = some (.slice none 0 0) := (hR2.out.kept hb2).at_ rfl
  have t0 : w3.frozen? ⟨w.heap.size + 1, 0, none⟩ = false := (hR2.out.kept hb2).free 0
  have t1 : w3.frozen? ⟨w.heap.size + 1, 1, none⟩ = false := (hR2.out.kept hb2).free 1
  have t2 : w3.frozen? ⟨w.heap.size + 1, 2, none⟩ = false := (hR2.out.kept hb2).free 2
  have t3 : w3.frozen? ⟨w.heap.size + 1, 3, none⟩ = false := (hR2.out.kept hb2).free 3
  have d0 : w3.cell? ⟨w.heap.size + 1 + 1, 0, none⟩ = some (.int .i64 x.Time) := hC3.out.at_ rfl
  have d1 : w3.cell? ⟨w.heap.size + 1 + 1, 1, none⟩ = some (.int .i64 x.Needs) := hC3.out.at_ rfl
  have d2 : w3.cell? ⟨w.heap.size + 1 + 1, 2, none⟩ = some (.slice q1 m1 c1) := hC3.out.at_ rfl
  have d3 : w3.cell? ⟨w.heap.size + 1 + 1, 3, none⟩ = some (.slice none 0 0) := hC3.out.at_ rfl
  have e3 : w3.frozen? ⟨w.heap.size + 1 + 1, 3, none⟩ = false := hC3.out.free 3
  clear ho2 hb2 hC2 hB2 hP2 hz2
  go_wp2_with fail
  generalize hw4 : World.setCell (World.setCell (World.setCell (World.setCell (World.setCell w3 _ _) _ _) _ _) _ _) _ _ = w4
  have hR4 : Whole w4 (w.heap.size + 1) 45 #[.int .i64 x.Time, .int .i64 x.Needs, .slice q1 m1 c1, .slice q2 m2 c2] := by
    rw [← hw4]
    exact (((((hR3.out.apart (by show w.heap.size + 1 ≠ w.heap.size + 1 + 1; omega) _).put 0 _).put 1 _).put 2 _).put 3 _)
  have hB4 : Below w.heap.size w w4 := by
    rw [← hw4]
    refine ((((hB3.out.setCell ?_ _).setCell ?_ _).setCell ?_ _).setCell ?_ _).setCell ?_ _
    all_goals (simp only []; omega)
  have hz4 : w4.heap.size = w3.heap.size := by rw [← hw4]; simp [World.setCell]
  have hk4 : ∀ g, w.heap.size + 3 ≤ g → w4.heap[g]? = w3.heap[g]? := fun g hg => by
    rw [← hw4]
    repeat (rw [Below.heap_setCell _ _ _ _ (by simp only []; omega)])
  have c0 : w4.cell? ⟨w.heap.size + 1, 0, none⟩ = some (.int .i64 x.Time) := hR4.at_ rfl
  have c1' : w4.cell? ⟨w.heap.size + 1, 1, none⟩ = some (.int .i64 x.Needs) := hR4.at_ rfl
  have c2' : w4.cell? ⟨w.heap.size + 1, 2, none⟩ = some (.slice q1 m1 c1) := hR4.at_ rfl
  have c3 : w4.cell? ⟨w.heap.size + 1, 3, none⟩ = some (.slice q2 m2 c2) := hR4.at_ rfl
  clear hw4
  refine bodyPost_ret (v := .agg #[.int .i64 x.Time, .int .i64 x.Needs, .slice q1 m1 c1, .slice q2 m2 c2]) (by simp [results, Try.results25, go_sem, c0, c1', c2', c3]) rfl ?_
  refine ⟨q1, q2, m1, c1, m2, c2, w1.heap.size, rfl, ?_, ?_, by have := hz1.out; omega, by rw [hz4]; exact hz3.out, hB4⟩
  · obtain ⟨⟨p1, p2⟩, p3, p4⟩ := hP3.out
    refine ⟨⟨p1, ?_⟩, p3, p4⟩
    rcases p2 with p2 | ⟨g, cap, cur, p5, p6, p7, p8⟩
    · exact .inl p2
    · exact .inr ⟨g, cap, cur, p5, p6, by rw [hk4 g (hQ1.out g (by rw [p5]; rfl))]; exact p7, p8⟩
  · rw [hz4]
    exact hP4.out.same fun g g1 g2 => hk4 g (by have := hz1.out; omega)

theorem infoTask : (Try.prog.info? 45).map (fun i => (i.zero, i.size, i.bytes)) = some (some (.agg #[.int .i64 0, .int .i64 0, .slice none 0 0, .slice none 0 0]), 4, 64) := by kernel_rfl
theorem setMany_block {g j : Nat} {us : List Value} {w : World} {k : Nat} (hk : k ≠ g) : (setMany w g j us).heap[k]? = w.heap[k]? := by
  induction us generalizing w j with
  | nil => rfl
  | cons u us ih => unfold setMany; rw [ih]; exact Below.heap_setCell _ _ _ _ hk
/-- One more row has been copied. -/
theorem rowsUpto_step {f : Nat → Nat} {A M N k n : Nat} {w w1 : World} {xs : List TaskD} {ys : List Value} {x : TaskD} {u1 u2 : Value} (h : RowsUpto f w xs ys k) (h0 : f 0 = A + 1) (hm : ∀ i, i < 2 * k → f i ≤ f (i + 1)) (hx : xs[k]? = some x) (hn : xs.length = n) (hy : ys.length = n * 4)
    (hf : f (2 * k) ≤ w.heap.size) (hb : Below w.heap.size w w1) (o1 : Own w.heap.size M w1 u1 2 1 x.Before.length (x.Before.map (Value.int .i64))) (o2 : Own M N w1 u2 2 1 x.Lags.length (x.Lags.map (Value.int .i64))) (hM : w.heap.size ≤ M) (hN : M ≤ N) :
    ∃ f' : Nat → Nat, f' 0 = A + 1 ∧ (∀ i, i < 2 * (k + 1) → f' i ≤ f' (i + 1)) ∧ f' (2 * (k + 1)) = N ∧
      RowsUpto f' (setMany w1 A (k * 4) [.int .i64 x.Time, .int .i64 x.Needs, u1, u2]) xs (setAll ys (k * 4) [.int .i64 x.Time, .int .i64 x.Needs, u1, u2]) (k + 1) := by
  have hk : k < n := by rw [← hn]; exact (List.getElem?_eq_some_iff.1 hx).1
  have m0 := steps_le hm (show 0 ≤ 2 * k by omega) (Nat.le_refl _)
  refine ⟨fun i => if i ≤ 2 * k then f i else if i = 2 * k + 1 then M else N, by simp [h0], fun i hi => ?_, by simp only [show ¬ (2 * (k + 1) ≤ 2 * k) by omega, show ¬ (2 * (k + 1) = 2 * k + 1) by omega, if_false], fun j y hj hy' => ?_⟩
  · show (if i ≤ 2 * k then f i else if i = 2 * k + 1 then M else N) ≤ (if i + 1 ≤ 2 * k then f (i + 1) else if i + 1 = 2 * k + 1 then M else N)
    by_cases h1 : i < 2 * k
    · rw [if_pos (by omega), if_pos (by omega)]; exact hm i h1
    · by_cases h2 : i = 2 * k
      · subst h2; rw [if_pos (Nat.le_refl _), if_neg (by omega), if_pos rfl]; omega
      · have : i = 2 * k + 1 := by omega
        subst this; rw [if_neg (by omega), if_pos rfl, if_neg (by omega), if_neg (by omega)]; exact hN
  · have hw : ∀ g, A + 1 ≤ g → (setMany w1 A (k * 4) [.int .i64 x.Time, .int .i64 x.Needs, u1, u2]).heap[g]? = w1.heap[g]? := fun g hg => setMany_block (by omega)
    by_cases h1 : j < k
    · obtain ⟨vb, vl, y0, y1, y2, y3, p0, p1⟩ := h j y h1 hy'
      have a1 := steps_le hm (show 0 ≤ 2 * j by omega) (by omega)
      have a2 := steps_le hm (show 2 * j + 1 ≤ 2 * k by omega) (by omega)
      have a3 := steps_le hm (show 2 * j + 2 ≤ 2 * k by omega) (by omega)
      have a4 := steps_le hm (show 2 * j ≤ 2 * j + 1 by omega) (by omega)
      refine ⟨vb, vl, ?_, ?_, ?_, ?_, ?_, ?_⟩
      · rw [setAll_before _ _ _ _ (by omega)]; exact y0
      · rw [setAll_before _ _ _ _ (by omega)]; exact y1
      · rw [setAll_before _ _ _ _ (by omega)]; exact y2
      · rw [setAll_before _ _ _ _ (by omega)]; exact y3
      · simp only [show 2 * j ≤ 2 * k by omega, show 2 * j + 1 ≤ 2 * k by omega, if_true]
        exact p0.same fun g g1 g2 => (hw g (by omega)).trans (hb.block g (by omega))
      · simp only [show 2 * j + 1 ≤ 2 * k by omega, show 2 * j + 2 ≤ 2 * k by omega, if_true]
        exact p1.same fun g g1 g2 => (hw g (by omega)).trans (hb.block g (by omega))
    · have : j = k := by omega
      subst this
      obtain rfl : x = y := by rw [hx] at hy'; exact Option.some.inj hy'
      refine ⟨u1, u2, ?_, ?_, ?_, ?_, ?_, ?_⟩
      · have := setAll_at ys (j * 4) [Value.int .i64 x.Time, .int .i64 x.Needs, u1, u2] 0 (by simp) (by simp; omega); simpa using this
      · have := setAll_at ys (j * 4) [Value.int .i64 x.Time, .int .i64 x.Needs, u1, u2] 1 (by simp) (by simp; omega); simpa using this
      · have := setAll_at ys (j * 4) [Value.int .i64 x.Time, .int .i64 x.Needs, u1, u2] 2 (by simp) (by simp; omega); simpa using this
      · have := setAll_at ys (j * 4) [Value.int .i64 x.Time, .int .i64 x.Needs, u1, u2] 3 (by simp) (by simp; omega); simpa using this
      · simp only [Nat.le_refl, if_true, show ¬ (2 * j + 1 ≤ 2 * j) by omega, if_false]
        exact (o1.mono hf (Nat.le_refl _)).same fun g g1 g2 => hw g (by omega)
      · simp only [show ¬ (2 * j + 1 ≤ 2 * j) by omega, show ¬ (2 * j + 2 ≤ 2 * j) by omega, show ¬ (2 * j + 2 = 2 * j + 1) by omega, if_true, if_false]
        exact o2.same fun g g1 g2 => hw g (by omega)

set_option maxHeartbeats 2000000 in
set_option maxRecDepth 100000 in
theorem toTaskS_any (B : Nat) (v : Value) (xs : List TaskD) (w : World) (h : LstTask B w v xs) (hB : B ≤ w.heap.size) (hlen : tsz xs ≤ 1048576) :
    Calls Try.prog 13 #[v] w fun e w' => ∃ v', e = .returned v' ∧ OwnTask w.heap.size w'.heap.size w' v' xs ∧ Below w.heap.size w w' := by
  obtain ⟨a, cap, rfl, hl, _, _, hc⟩ := h.at_
  obtain ⟨i0, hi, hz0, hz1, hz2⟩ := info_parts infoTask
  have hIn : Hid (∀ (k : Nat) (x : TaskD), xs[k]? = some x → x.Before.length ≤ 1048576 ∧ x.Lags.length ≤ 1048576) := Lib.hid fun k x hx => by
    have h1 := inner_take hx
    have h2 := inner_take_le xs (k + 1)
    unfold tsz at hlen
    omega
  have hlen' : xs.length ≤ 1048576 := by unfold tsz at hlen; omega
  have hStep : Hid (∀ (f : Nat → Nat) (A M N k : Nat) (w w1 : World) (ys : List Value) (x : TaskD) (u1 u2 : Value), RowsUpto f w xs ys k → f 0 = A + 1 → (∀ i, i < 2 * k → f i ≤ f (i + 1)) → xs[k]? = some x → ys.length = xs.length * 4 →
      f (2 * k) ≤ w.heap.size → Below w.heap.size w w1 → Own w.heap.size M w1 u1 2 1 x.Before.length (x.Before.map (Value.int .i64)) → Own M N w1 u2 2 1 x.Lags.length (x.Lags.map (Value.int .i64)) → w.heap.size ≤ M → M ≤ N →
      ∃ f' : Nat → Nat, f' 0 = A + 1 ∧ (∀ i, i < 2 * (k + 1) → f' i ≤ f' (i + 1)) ∧ f' (2 * (k + 1)) = N ∧ RowsUpto f' (setMany w1 A (k * 4) [.int .i64 x.Time, .int .i64 x.Needs, u1, u2]) xs (setAll ys (k * 4) [.int .i64 x.Time, .int .i64 x.Needs, u1, u2]) (k + 1)) :=
    Lib.hid fun f A M N k w w1 ys x u1 u2 p1 p2 p3 p4 p5 p6 p7 p8 p9 p10 p11 => rowsUpto_step p1 p2 p3 p4 rfl p5 p6 p7 p8 p9 p10 p11
  have hEnd : Hid (∀ (f : Nat → Nat) (C : Nat) (w' : World) (v' : Value) (ys : List Value), Own w.heap.size (w.heap.size + 1) w' v' 45 4 xs.length ys → f 0 = w.heap.size + 1 → (∀ i, i < 2 * xs.length → f i ≤ f (i + 1)) → f (2 * xs.length) ≤ C → RowsUpto f w' xs ys xs.length → OwnTask w.heap.size C w' v' xs) :=
    Lib.hid fun f C w' v' ys p1 p2 p3 p4 p5 => ⟨ys, f, p1, p2, p3, p4, p5⟩
  have hN := Lib.hid (show xs.length = xs.length from rfl)
  generalize hn : xs.length = n at *
  unfold maxLen at hl
  have hC := Lib.hid hc
  have hNn := Lib.hid hn
  clear hn hc h
  go_enter Try.func13, Try.ntmps13
  go_wp2_with (at_make; refine wpList_make_full _ rfl _ _ _ rfl w.heap.size _ i0 (.agg #[.int .i64 0, .int .i64 0, .slice none 0 0, .slice none 0 0]) 4 Try.underlying29 hi hz0 hz1 _ _ _ _ n rfl rfl rfl rfl ?c1 ?c2 ?c3 ?_)
  case c1 => first | (rw [hz2]; omega) | omega
  case c2 => unfold maxLen; omega
  try case c3 => exact Nat.le_refl _
  intro w0 hown0 hg0
  have hB0 := Lib.hid (show Below w.heap.size w w0 from (Below.refl _ _).grown hg0 (Nat.le_refl _) (fun k hk => by cases hk))
  have hs0 : w.heap.size < w0.heap.size := (hown0.lt _ rfl).2
  generalize (madeCells _ _).toList = ys0 at hown0
  have hO := Lib.hid hown0
  clear hown0 hg0 hz0 hz1 hz2 hi
  go_wp2
  go_loopw [4] (fun i wr => ∃ (k : Nat) (ys : List Value) (f : Nat → Nat), k ≤ n ∧ i = .int .i64 k ∧ Hid (f 0 = w.heap.size + 1) ∧ Hid (∀ i, i < 2 * k → f i ≤ f (i + 1)) ∧ Hid (f (2 * k) ≤ wr.heap.size) ∧ Hid (RowsUpto f wr xs ys k) ∧ Hid (wr.ownsRow w.heap.size 45 4 (.slice (some ⟨w.heap.size, 0, none⟩) n n) n ys) ∧ Hid (Below w.heap.size w wr) ∧ w.heap.size < wr.heap.size) (fun i _ => n - (intOf i).toNat)
  case atStart => exact ⟨0, ys0, fun _ => w.heap.size + 1, Nat.zero_le _, rfl, Lib.hid rfl, Lib.hid (fun _ _ => Nat.le_refl _), Lib.hid hs0, Lib.hid (fun j x hj _ => absurd hj (Nat.not_lt_zero _)), hO, hB0, hs0⟩
  case round =>
    obtain ⟨k, ys, f, hk, rfl, hf0, hfm, hfk, hU, hO1, hB1, hs1⟩ := hrel
    by_cases hlt : k < n
    · obtain ⟨b, o, x, vb, vl, rfl, hbB, hx, h0, h1, h2, h3, l0, l1⟩ := hC.out k hlt
      rw [← hB1.out.cell (p := ⟨b, o + k * 4, none⟩) (show b < w.heap.size by omega)] at h0
      rw [← hB1.out.cell (p := ⟨b, o + k * 4 + 1, none⟩) (show b < w.heap.size by omega)] at h1
      rw [← hB1.out.cell (p := ⟨b, o + k * 4 + 2, none⟩) (show b < w.heap.size by omega)] at h2
      rw [← hB1.out.cell (p := ⟨b, o + k * 4 + 3, none⟩) (show b < w.heap.size by omega)] at h3
      have hL0 := Lib.hid (l0.below hB1.out hB)
      have hL1 := Lib.hid (l1.below hB1.out hB)
      have hX := Lib.hid hx
      clear l0 l1 hx
      go_wp2_with fail
      refine (toTask_any B x vb vl _ hL0.out hL1.out (by omega) (hIn.out k x hX.out).1 (hIn.out k x hX.out).2).mono ?_
      rintro e w1 ⟨q1, q2, m1, c1, m2, c2, M, rfl, ho1, ho2, hM1, hM2, hb1⟩
      have hO2 : w1.ownsRow w.heap.size 45 4 (.slice (some ⟨w.heap.size, 0, none⟩) n n) n ys := ownsRow_kept hO1.out hb1
      have hs1' : w.heap.size < w1.heap.size := Nat.lt_of_lt_of_le hs1 hb1.size
      have hB2 := Lib.hid (below_on hB1.out (Nat.le_refl _) hb1)
      have hy := hO2.1
      obtain ⟨u0, hd0⟩ : ∃ u, w1.cell? ⟨w.heap.size, k * 4, none⟩ = some u := ⟨_, (hO2.cellAt (k * 4 + 0) (by omega)).trans (List.getElem?_eq_getElem (by omega))⟩
      have hf0' : w1.frozen? ⟨w.heap.size, k * 4, none⟩ = false := hO2.frozenAt (k * 4 + 0)
      obtain ⟨u1, hd1⟩ : ∃ u, w1.cell? ⟨w.heap.size, k * 4 + 1, none⟩ = some u := ⟨_, (hO2.cellAt (k * 4 + 1) (by omega)).trans (List.getElem?_eq_getElem (by omega))⟩
      have hf1 : w1.frozen? ⟨w.heap.size, k * 4 + 1, none⟩ = false := hO2.frozenAt (k * 4 + 1)
      obtain ⟨u2, hd2⟩ : ∃ u, w1.cell? ⟨w.heap.size, k * 4 + 2, none⟩ = some u := ⟨_, (hO2.cellAt (k * 4 + 2) (by omega)).trans (List.getElem?_eq_getElem (by omega))⟩
      have hf2 : w1.frozen? ⟨w.heap.size, k * 4 + 2, none⟩ = false := hO2.frozenAt (k * 4 + 2)
      obtain ⟨u3, hd3⟩ : ∃ u, w1.cell? ⟨w.heap.size, k * 4 + 3, none⟩ = some u := ⟨_, (hO2.cellAt (k * 4 + 3) (by omega)).trans (List.getElem?_eq_getElem (by omega))⟩
      have hf3 : w1.frozen? ⟨w.heap.size, k * 4 + 3, none⟩ = false := hO2.frozenAt (k * 4 + 3)
      have hst := ownsRow_setMany (j := k * 4) (us := [.int .i64 x.Time, .int .i64 x.Needs, .slice q1 m1 c1, .slice q2 m2 c2]) hO2
      have hB3 := Lib.hid (setMany_below (j := k * 4) (us := [.int .i64 x.Time, .int .i64 x.Needs, .slice q1 m1 c1, .slice q2 m2 c2]) hB2.out (Nat.le_refl w.heap.size))
      have hsz : (setMany w1 w.heap.size (k * 4) [.int .i64 x.Time, .int .i64 x.Needs, .slice q1 m1 c1, .slice q2 m2 c2]).heap.size = w1.heap.size := setMany_size
      have hs2 : w.heap.size < (setMany w1 w.heap.size (k * 4) [.int .i64 x.Time, .int .i64 x.Needs, .slice q1 m1 c1, .slice q2 m2 c2]).heap.size := by rw [hsz]; exact hs1'
      obtain ⟨f', g0, g1, g2, g3⟩ := hStep.out f w.heap.size M w1.heap.size k wr w1 ys x _ _ hU.out hf0.out hfm.out hX.out hy hfk.out hb1 ho1 ho2 hM1 hM2
      have hG0 := Lib.hid g0
      have hG1 := Lib.hid g1
      have hG2 := Lib.hid (show f' (2 * (k + 1)) ≤ (setMany w1 w.heap.size (k * 4) [.int .i64 x.Time, .int .i64 x.Needs, .slice q1 m1 c1, .slice q2 m2 c2]).heap.size by rw [hsz, g2]; exact Nat.le_refl _)
      have hG3 := Lib.hid g3
      have hO5 := Lib.hid hst.1
      have hS2 := Lib.hid hs2
      clear hst hs2 hy hO2 hb1 hU hO1 hB1 hB2 h0 h1 h2 h3 hs1 hs1' g0 g1 g2 g3 hsz ho1 ho2 hM1 hM2 hf0 hfm hfk hL0 hL1
      go_wp2_with fail
      go_roundw
      case rel => exact ⟨k + 1, _, f', by omega, by go_num, hG0, hG1, hG2, hG3, hO5, hB3, hS2.out⟩
      case measure => simp [intOf]; omega
    · have hkn : k = n := by omega
      subst hkn
      have hE := Lib.hid (hEnd.out f wr.heap.size wr _ ys ⟨hO1.out, by unfold maxLen; omega, fun g hg => blk_lt hg⟩ hf0.out hfm.out hfk.out hU.out)
      go_wp2
      go_ret
      exact ⟨_, rfl, hE.out, hB1.out⟩

theorem copiedTask (B : Nat) (v : Value) (xs : List TaskD) (w : World) (h : LstTask B w v xs) (hB : B ≤ w.heap.size) (hlen : tsz xs ≤ 1048576) :
    Calls Try.prog 13 #[v] w fun e w' => ∃ v', e = .returned v' ∧ OwnTask w.heap.size w'.heap.size w' v' xs ∧ Below w.heap.size w w' := toTaskS_any B v xs w h hB hlen

set_option maxHeartbeats 1000000 in
set_option maxRecDepth 100000 in
theorem eqTask_yes (B : Nat) (x : TaskD) (p1 p2 q1 q2 : Value) (w : World) (hp1 : LstI B w p1 x.Before) (hp2 : LstI B w p2 x.Lags) (hq1 : LstI B w q1 x.Before) (hq2 : LstI B w q2 x.Lags) (hB : B ≤ w.heap.size) :
    Calls Try.prog 29 #[.agg #[.int .i64 x.Time, .int .i64 x.Needs, p1, p2], .agg #[.int .i64 x.Time, .int .i64 x.Needs, q1, q2]] w fun e w' => e = .returned (.bool true) ∧ Below w.heap.size w w' := by
  obtain ⟨a1, n1, rfl, _⟩ := id hp1
  obtain ⟨a2, n2, rfl, _⟩ := id hp2
  obtain ⟨a3, n3, rfl, _⟩ := id hq1
  obtain ⟨a4, n4, rfl, _⟩ := id hq2
  have P1 := Lib.hid hp1
  have P2 := Lib.hid hp2
  have Q1 := Lib.hid hq1
  have Q2 := Lib.hid hq2
  clear hp1 hp2 hq1 hq2
  go_enter Try.func29, Try.ntmps29
  go_wp2_with fail
  refine (eqInt64S_yes B _ _ x.Before _ (P1.out.below (B' := w.heap.size) ?b1 hB) (Q1.out.below (B' := w.heap.size) ?b2 hB)).mono ?_
  case b1 => repeat (first | exact Below.refl _ _ | refine below_alloc ?_ _ | refine below_drew ?_ _)
  case b2 => repeat (first | exact Below.refl _ _ | refine below_alloc ?_ _ | refine below_drew ?_ _)
  rintro e w1 ⟨m, rfl, rfl⟩
  go_wp2_with fail
  refine (eqInt64S_yes B _ _ x.Lags _ (P2.out.below (B' := w.heap.size) ?b1 hB) (Q2.out.below (B' := w.heap.size) ?b2 hB)).mono ?_
  case b1 => repeat (first | exact Below.refl _ _ | refine below_alloc ?_ _ | refine below_drew ?_ _)
  case b2 => repeat (first | exact Below.refl _ _ | refine below_alloc ?_ _ | refine below_drew ?_ _)
  rintro e w1 ⟨m', rfl, rfl⟩
  go_wp2_with fail
  go_ret
  exact ⟨rfl, by repeat (first | exact Below.refl _ _ | refine below_alloc ?_ _ | refine below_drew ?_ _)⟩

set_option maxHeartbeats 2000000 in
set_option maxRecDepth 100000 in
theorem eqTaskS_yes (B : Nat) (v1 v2 : Value) (xs : List TaskD) (w : World) (h1 : LstTask B w v1 xs) (h2 : LstTask B w v2 xs) (hB : B ≤ w.heap.size := by exact Nat.le_refl _) :
    Calls Try.prog 18 #[v1, v2] w fun e w' => e = .returned (.bool true) ∧ Below w.heap.size w w' := by
  obtain ⟨a1, cap1, rfl, hl1, _, _, hc1⟩ := h1.at_
  obtain ⟨a2, cap2, rfl, hl2, _, _, hc2⟩ := h2.at_
  have hC1 := Lib.hid hc1
  have hC2 := Lib.hid hc2
  clear hc1 hc2 hl2 h1 h2
  generalize xs.length = n at *
  unfold maxLen at hl1
  go_enter Try.func18, Try.ntmps18
  go_wp2
  go_loopw [5] (fun i wr => ∃ k : Nat, k ≤ n ∧ i = .int .i64 k ∧ Hid (Below w.heap.size w wr)) (fun i _ => n - (intOf i).toNat)
  case atStart => exact ⟨0, Nat.zero_le _, rfl, Lib.hid (Below.refl _ _)⟩
  case round =>
    obtain ⟨k, hk, rfl, hB1⟩ := hrel
    by_cases hlt : k < n
    · obtain ⟨b1, o1, x, vb1, vl1, rfl, hb1, hx1, p0, p1, p2, p3, l0, l1⟩ := hC1.out k hlt
      obtain ⟨b2, o2, x2, vb2, vl2, rfl, hb2, hx2, q0, q1, q2, q3, m0, m1⟩ := hC2.out k hlt
      obtain rfl : x = x2 := by rw [hx1] at hx2; exact Option.some.inj hx2
      rw [← hB1.out.cell (p := ⟨b1, o1 + k * 4, none⟩) (show b1 < w.heap.size by omega)] at p0
      rw [← hB1.out.cell (p := ⟨b1, o1 + k * 4 + 1, none⟩) (show b1 < w.heap.size by omega)] at p1
      rw [← hB1.out.cell (p := ⟨b1, o1 + k * 4 + 2, none⟩) (show b1 < w.heap.size by omega)] at p2
      rw [← hB1.out.cell (p := ⟨b1, o1 + k * 4 + 3, none⟩) (show b1 < w.heap.size by omega)] at p3
      rw [← hB1.out.cell (p := ⟨b2, o2 + k * 4, none⟩) (show b2 < w.heap.size by omega)] at q0
      rw [← hB1.out.cell (p := ⟨b2, o2 + k * 4 + 1, none⟩) (show b2 < w.heap.size by omega)] at q1
      rw [← hB1.out.cell (p := ⟨b2, o2 + k * 4 + 2, none⟩) (show b2 < w.heap.size by omega)] at q2
      rw [← hB1.out.cell (p := ⟨b2, o2 + k * 4 + 3, none⟩) (show b2 < w.heap.size by omega)] at q3
      have L0 := Lib.hid (l0.below (hB1.out.drew) hB)
      have L1 := Lib.hid (l1.below (hB1.out.drew) hB)
      have M0 := Lib.hid (m0.below (hB1.out.drew) hB)
      have M1 := Lib.hid (m1.below (hB1.out.drew) hB)
      clear hb1 hb2 hx1 hx2 l0 l1 m0 m1
      go_wp2_with fail
      go_still_tail 8, (by kernel_rfl)
      change wpList _ _ _ _ _ wr.drew
      have hB2 := Lib.hid (show Below w.heap.size w wr.drew from hB1.out.drew)
      generalize wr.drew = w2 at *
      go_wp2_with fail
      refine (eqTask_yes B x _ _ _ _ w2 L0.out L1.out M0.out M1.out (Nat.le_trans hB hB2.out.size)).mono ?_
      rintro e w3 ⟨rfl, hb3⟩
      have hB3 := Lib.hid (below_on hB2.out (Nat.le_refl _) hb3)
      clear hb3 hB2 hB1 L0 L1 M0 M1
      go_wp2_with fail
      go_roundw
      case rel => exact ⟨k + 1, by omega, by go_num, hB3⟩
      case measure => simp [intOf]; omega
    · go_wp2
      go_ret
      exact ⟨rfl, hB1.out⟩

end Go.Proofs.Ytdggbjpfllnenaa
