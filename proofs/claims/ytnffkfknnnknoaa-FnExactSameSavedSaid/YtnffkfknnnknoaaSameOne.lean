/- Contracts: two lists of tasks compared, in the program and in the model. -/
import Derived.Test.YtnffkfknnnknoaaSameTasks
import Derived.Test.YtnffkfknnnknoaaNear
namespace Go.Proofs.Ytnffkfknnnknoaa
open Go.RowKit Go.Lst

theorem near_ret {P : Program} {f : FuncId} {args : Array Value} {B : Nat} {w : World} {p : Near B w} {v : Value} (hB : B ≤ w.heap.size)
    (h : Calls P f args p.at_ (Ret v p.at_)) : Calls P f args p.at_ fun e w'' => e = .returned v ∧ ∃ q : Near B w, w'' = q.at_ :=
  near_of hB (h.mono fun _ _ hr => hr.below)
def sameTasks (xs ys : List TaskD) : Bool := decide (xs = ys)
set_option maxHeartbeats 2000000 in
theorem sameOne_any (B : Nat) (x y : TaskD) (v1 l1 v2 l2 : Value) (w : World) (hB : B ≤ w.heap.size) (h1 : LstI B w v1 x.Before) (g1 : LstI B w l1 x.Lags) (h2 : LstI B w v2 y.Before) (g2 : LstI B w l2 y.Lags) :
    Calls Try.prog 40 #[.agg #[.int .i64 x.Time, .int .i64 x.Needs, v1, l1], .agg #[.int .i64 y.Time, .int .i64 y.Needs, v2, l2]] w fun e w' => e = .returned (.bool (decide (x = y))) ∧ Below w.heap.size w w' := by
  rw [taskEq]
  have hq := fun w' => eqEffort x.Time x.Needs y.Time y.Needs w'
  generalize x.Time = a at *
  generalize x.Needs = b at *
  generalize y.Time = c at *
  generalize y.Needs = d at *
  obtain ⟨ab1, cb1, rfl, _⟩ := id h1
  obtain ⟨al1, cl1, rfl, _⟩ := id g1
  obtain ⟨ab2, cb2, rfl, _⟩ := id h2
  obtain ⟨al2, cl2, rfl, _⟩ := id g2
  have hQ1 := Lib.hid (fun w' (hb : Below w.heap.size w w') => sliceEqI_any B _ _ x.Before y.Before w' (h1.below hb hB) (h2.below hb hB))
  have hQ2 := Lib.hid (fun w' (hb : Below w.heap.size w w') => sliceEqI_any B _ _ x.Lags y.Lags w' (g1.below hb hB) (g2.below hb hB))
  clear h1 g1 h2 g2
  generalize decide (x.Before = y.Before) = p2 at *
  generalize decide (x.Lags = y.Lags) = p3 at *
  generalize x.Before.length = n1 at *
  generalize x.Lags.length = n2 at *
  generalize y.Before.length = n3 at *
  generalize y.Lags.length = n4 at *
  have hE1 := Lib.hid (fun w' => effortOf_any a b (.slice ab1 n1 cb1) (.slice al1 n2 cl1) ab1 al1 n1 n2 cb1 cl1 rfl rfl w')
  have hE2 := Lib.hid (fun w' => effortOf_any c d (.slice ab2 n3 cb2) (.slice al2 n4 cl2) ab2 al2 n3 n4 cb2 cl2 rfl rfl w')
  have hB2 : Below w.heap.size w ((w.alloc (.cells #[.int .i64 a, .int .i64 b, .slice ab1 n1 cb1, .slice al1 n2 cl1] 56)).alloc (.cells #[.int .i64 c, .int .i64 d, .slice ab2 n3 cb2, .slice al2 n4 cl2] 56)) := below_alloc (below_alloc (Below.refl _ _) _) _
  have hW1 : Whole ((w.alloc (.cells #[.int .i64 a, .int .i64 b, .slice ab1 n1 cb1, .slice al1 n2 cl1] 56)).alloc (.cells #[.int .i64 c, .int .i64 d, .slice ab2 n3 cb2, .slice al2 n4 cl2] 56)) w.heap.size 56 _ := (Whole.made w _ _ rfl).more _
  have hW2 : Whole ((w.alloc (.cells #[.int .i64 a, .int .i64 b, .slice ab1 n1 cb1, .slice al1 n2 cl1] 56)).alloc (.cells #[.int .i64 c, .int .i64 d, .slice ab2 n3 cb2, .slice al2 n4 cl2] 56)) (w.heap.size + 1) 56 _ := Whole.made _ _ _ (by simp)
  have hsz : ((w.alloc (.cells #[.int .i64 a, .int .i64 b, .slice ab1 n1 cb1, .slice al1 n2 cl1] 56)).alloc (.cells #[.int .i64 c, .int .i64 d, .slice ab2 n3 cb2, .slice al2 n4 cl2] 56)).heap.size = w.heap.size + 2 := by simp
  go_enter Try.func40, Try.ntmps40
  go_wp2_with fail
  generalize ((w.alloc (.cells #[.int .i64 a, .int .i64 b, .slice ab1 n1 cb1, .slice al1 n2 cl1] 56)).alloc (.cells #[.int .i64 c, .int .i64 d, .slice ab2 n3 cb2, .slice al2 n4 cl2] 56)) = W2 at *
  have hR1 := Lib.hid (fun p : Near W2.heap.size W2 => hQ1.out p.at_ (hB2.trans (p.below.mono (by omega))))
  have hR2 := Lib.hid (fun p : Near W2.heap.size W2 => hQ2.out p.at_ (hB2.trans (p.below.mono (by omega))))
  have m0 := near_cell (hW1.at_ (i := 0) rfl)
  have m1 := near_cell (hW1.at_ (i := 1) rfl)
  have m2 := near_cell (hW1.at_ (i := 2) rfl)
  have m3 := near_cell (hW1.at_ (i := 3) rfl)
  have k0 := near_cell (hW2.at_ (i := 0) rfl)
  have k1 := near_cell (hW2.at_ (i := 1) rfl)
  have k2 := near_cell (hW2.at_ (i := 2) rfl)
  have k3 := near_cell (hW2.at_ (i := 3) rfl)
  clear hQ1 hQ2 hW1 hW2
  cases hp : (decide (a = c) && decide (b = d))
  · simp only [hp] at hq
    have hPp := Lib.hid hp
    clear hp
    refine wp_region_near (by kernel_rfl) (by kernel_rfl) ?_
    repeat (go_big_quiet_step (first | (go_at_call 41; with_reducible exact near_of (Nat.le_refl _) (hE1.out _)) | (go_at_call 41; with_reducible exact near_of (Nat.le_refl _) (hE2.out _)) | (go_at_call 30; with_reducible exact near_ret (Nat.le_refl _) (hR1.out _)) | (go_at_call 30; with_reducible exact near_ret (Nat.le_refl _) (hR2.out _))))
    refine wpQuiet_nil ?_
    rintro _ ⟨pq, rfl⟩
    have hBq := Lib.hid (hB2.trans (pq.below.mono (by omega)))
    go_wp2_with fail
    go_ret
    exact ⟨ret_bool (by first | (rw [hPp.out]; done) | (rw [hPp.out]; rfl)), hBq.out⟩
  · simp only [hp] at hq
    have hPp := Lib.hid hp
    clear hp
    cases p2
    · refine wp_region_near (by kernel_rfl) (by kernel_rfl) ?_
      repeat (go_big_quiet_step (first | (go_at_call 41; with_reducible exact near_of (Nat.le_refl _) (hE1.out _)) | (go_at_call 41; with_reducible exact near_of (Nat.le_refl _) (hE2.out _)) | (go_at_call 30; with_reducible exact near_ret (Nat.le_refl _) (hR1.out _)) | (go_at_call 30; with_reducible exact near_ret (Nat.le_refl _) (hR2.out _))))
      refine wpQuiet_nil ?_
      rintro _ ⟨pq, rfl⟩
      have hBq := Lib.hid (hB2.trans (pq.below.mono (by omega)))
      go_wp2_with fail
      go_ret
      exact ⟨ret_bool (by first | (rw [hPp.out]; done) | (rw [hPp.out]; rfl)), hBq.out⟩
    · cases p3
      · refine wp_region_near (by kernel_rfl) (by kernel_rfl) ?_
        repeat (go_big_quiet_step (first | (go_at_call 41; with_reducible exact near_of (Nat.le_refl _) (hE1.out _)) | (go_at_call 41; with_reducible exact near_of (Nat.le_refl _) (hE2.out _)) | (go_at_call 30; with_reducible exact near_ret (Nat.le_refl _) (hR1.out _)) | (go_at_call 30; with_reducible exact near_ret (Nat.le_refl _) (hR2.out _))))
        refine wpQuiet_nil ?_
        rintro _ ⟨pq, rfl⟩
        have hBq := Lib.hid (hB2.trans (pq.below.mono (by omega)))
        go_wp2_with fail
        go_ret
        exact ⟨ret_bool (by first | (rw [hPp.out]; done) | (rw [hPp.out]; rfl)), hBq.out⟩
      · refine wp_region_near (by kernel_rfl) (by kernel_rfl) ?_
        repeat (go_big_quiet_step (first | (go_at_call 41; with_reducible exact near_of (Nat.le_refl _) (hE1.out _)) | (go_at_call 41; with_reducible exact near_of (Nat.le_refl _) (hE2.out _)) | (go_at_call 30; with_reducible exact near_ret (Nat.le_refl _) (hR1.out _)) | (go_at_call 30; with_reducible exact near_ret (Nat.le_refl _) (hR2.out _))))
        refine wpQuiet_nil ?_
        rintro _ ⟨pq, rfl⟩
        have hBq := Lib.hid (hB2.trans (pq.below.mono (by omega)))
        go_wp2_with fail
        go_ret
        exact ⟨ret_bool (by first | (rw [hPp.out]; done) | (rw [hPp.out]; rfl)), hBq.out⟩
theorem same_len {xs ys : List TaskD} (h : xs.length ≠ ys.length) : sameTasks xs ys = false := eqL_len h
theorem same_at {xs ys : List TaskD} {k : Nat} {x y : TaskD} (hx : xs[k]? = some x) (hy : ys[k]? = some y) (h : decide (x = y) = false) : sameTasks xs ys = false := eqL_at hx hy (of_decide_eq_false h)
theorem same_all {xs ys : List TaskD} (hl : xs.length = ys.length) (h : ∀ i x y, i < xs.length → xs[i]? = some x → ys[i]? = some y → x = y) : sameTasks xs ys = true := eqL_all hl h
/-- What lies at a place of two lists of tasks. -/
theorem pairsT {B : Nat} {a1 a2 : Option Addr} {w : World} {xs ys : List TaskD} {c1 c2 : Nat} (h1 : LstTask B w (.slice a1 xs.length c1) xs) (h2 : LstTask B w (.slice a2 ys.length c2) ys) (hl : xs.length = ys.length) :
    ∀ k, k < xs.length → ∃ (b1 o1 b2 o2 : Nat) (x y : TaskD) (ub1 ul1 ub2 ul2 : Option Addr) (cb1 cl1 cb2 cl2 : Nat), a1 = some ⟨b1, o1, none⟩ ∧ a2 = some ⟨b2, o2, none⟩ ∧ b1 < B ∧ b2 < B ∧ xs[k]? = some x ∧ ys[k]? = some y ∧
      (w.cell? ⟨b1, o1 + k * 4, none⟩ = some (.int .i64 x.Time) ∧ w.cell? ⟨b1, o1 + k * 4 + 1, none⟩ = some (.int .i64 x.Needs) ∧ w.cell? ⟨b1, o1 + k * 4 + 2, none⟩ = some (.slice ub1 x.Before.length cb1) ∧ w.cell? ⟨b1, o1 + k * 4 + 3, none⟩ = some (.slice ul1 x.Lags.length cl1)) ∧
      (w.cell? ⟨b2, o2 + k * 4, none⟩ = some (.int .i64 y.Time) ∧ w.cell? ⟨b2, o2 + k * 4 + 1, none⟩ = some (.int .i64 y.Needs) ∧ w.cell? ⟨b2, o2 + k * 4 + 2, none⟩ = some (.slice ub2 y.Before.length cb2) ∧ w.cell? ⟨b2, o2 + k * 4 + 3, none⟩ = some (.slice ul2 y.Lags.length cl2)) ∧
      LstI B w (.slice ub1 x.Before.length cb1) x.Before ∧ LstI B w (.slice ul1 x.Lags.length cl1) x.Lags ∧ LstI B w (.slice ub2 y.Before.length cb2) y.Before ∧ LstI B w (.slice ul2 y.Lags.length cl2) y.Lags := fun k hk => by
  obtain ⟨a1', cap1', e1, _, _, _, hc1⟩ := h1.at_
  obtain ⟨a2', cap2', e2, _, _, _, hc2⟩ := h2.at_
  injection e1 with e1 _ _
  injection e2 with e2 _ _
  subst e1 e2
  obtain ⟨b1, o1, x, vb1, vl1, ha1, hb1, hx, p0, p1, p2, p3, l1, l2⟩ := hc1 k hk
  obtain ⟨b2, o2, y, vb2, vl2, ha2, hb2, hy, q0, q1, q2, q3, l3, l4⟩ := hc2 k (by omega)
  obtain ⟨ub1, cb1, rfl, _⟩ := id l1
  obtain ⟨ul1, cl1, rfl, _⟩ := id l2
  obtain ⟨ub2, cb2, rfl, _⟩ := id l3
  obtain ⟨ul2, cl2, rfl, _⟩ := id l4
  exact ⟨b1, o1, b2, o2, x, y, ub1, ul1, ub2, ul2, cb1, cl1, cb2, cl2, ha1, ha2, hb1, hb2, hx, hy, ⟨p0, p1, p2, p3⟩, ⟨q0, q1, q2, q3⟩, l1, l2, l3, l4⟩
set_option maxHeartbeats 4000000 in
theorem equalTask_any (B : Nat) (v1 v2 : Value) (xs ys : List TaskD) (w : World) (h1 : LstTask B w v1 xs) (h2 : LstTask B w v2 ys) (hB : B ≤ w.heap.size) :
    Calls Try.prog 39 #[v1, v2, .func (.func 40) #[] #[]] w fun e w' => e = .returned (.bool (sameTasks xs ys)) ∧ Below w.heap.size w w' := by
  obtain ⟨a1, cap1, rfl, hl1, _, _, _⟩ := h1.at_
  obtain ⟨a2, cap2, rfl, hl2, _, _, _⟩ := h2.at_
  by_cases hl : xs.length = ys.length
  · have hX := Lib.hid (pairsT h1 h2 hl)
    have hAll : Hid (∀ k, k = xs.length → (∀ i x y, i < k → xs[i]? = some x → ys[i]? = some y → x = y) → sameTasks xs ys = true) := Lib.hid fun k hk hp => same_all hl fun i x y hi => hp i x y (by omega)
    have hNe : Hid (∀ (k : Nat) (x y : TaskD), xs[k]? = some x → ys[k]? = some y → decide (x = y) = false → sameTasks xs ys = false) := Lib.hid fun k x y hx hy h => same_at hx hy h
    rw [← hl]
    clear h1 h2 hl hl2
    generalize xs.length = n at *
    generalize sameTasks xs ys = res at *
    unfold maxLen at hl1
    go_enter Try.func39, Try.ntmps39
    go_wp2_with fail
    go_loopw [17] (fun i wr => ∃ k : Nat, k ≤ n ∧ i = .int .i64 k ∧ Hid (∀ i x y, i < k → xs[i]? = some x → ys[i]? = some y → x = y) ∧ Hid (Below w.heap.size w wr)) (fun i _ => n - (intOf i).toNat)
    case atStart => exact ⟨0, Nat.zero_le _, rfl, Lib.hid (fun i x y hi _ _ => by omega), Lib.hid (Below.refl _ _)⟩
    case round =>
      obtain ⟨k, hk, rfl, hP, hBr⟩ := hrel
      by_cases hlt : k < n
      · obtain ⟨b1, o1, b2, o2, x, y, ub1, ul1, ub2, ul2, cb1, cl1, cb2, cl2, rfl, rfl, hb1, hb2, hx, hy, ⟨p0, p1, p2, p3⟩, ⟨q0, q1, q2, q3⟩, l1, l2, l3, l4⟩ := hX.out k hlt
        have hXx := Lib.hid hx
        have hYy := Lib.hid hy
        have hbw : b1 < w.heap.size ∧ b2 < w.heap.size := by omega
        rw [← hBr.out.cell (p := ⟨b1, _, none⟩) hbw.1] at p0 p1 p2 p3
        rw [← hBr.out.cell (p := ⟨b2, _, none⟩) hbw.2] at q0 q1 q2 q3
        have hOne : Hid (∀ w5, Below w.heap.size w w5 → _) := Lib.hid fun w5 hb => sameOne_any B x y (.slice ub1 x.Before.length cb1) (.slice ul1 x.Lags.length cl1) (.slice ub2 y.Before.length cb2) (.slice ul2 y.Lags.length cl2) w5 (Nat.le_trans hB hb.size) (l1.below hb hB) (l2.below hb hB) (l3.below hb hB) (l4.below hb hB)
        have hws : w.heap.size ≤ wr.heap.size := hBr.out.size
        have hB6 := Lib.hid (show Below w.heap.size w ((wr.alloc (.cells #[.int .i64 x.Time, .int .i64 x.Needs, .slice ub1 x.Before.length cb1, .slice ul1 x.Lags.length cl1] 56)).alloc (.cells #[.int .i64 y.Time, .int .i64 y.Needs, .slice ub2 y.Before.length cb2, .slice ul2 y.Lags.length cl2] 56)) from (hBr.out.alloc hws _).alloc (by simp; omega) _)
        have hA := below_alloc (Below.refl wr.heap.size wr) (.cells #[.int .i64 x.Time, .int .i64 x.Needs, .slice ub1 x.Before.length cb1, .slice ul1 x.Lags.length cl1] 56)
        have hb2r : b2 < wr.heap.size := by omega
        have r0 := (hA.cell (p := ⟨b2, o2 + k * 4, none⟩) hb2r).trans q0
        have r1 := (hA.cell (p := ⟨b2, o2 + k * 4 + 1, none⟩) hb2r).trans q1
        have r2 := (hA.cell (p := ⟨b2, o2 + k * 4 + 2, none⟩) hb2r).trans q2
        have r3 := (hA.cell (p := ⟨b2, o2 + k * 4 + 3, none⟩) hb2r).trans q3
        clear hA
        clear hx hy l1 l2 l3 l4
        cases hq : decide (x = y)
        · have hF := Lib.hid (hNe.out k x y hXx.out hYy.out hq)
          rw [hq] at hOne
          go_wp2_with fail
          with_reducible refine (hOne.out _ hB6.out).mono ?_
          rintro e w7 ⟨rfl, hb7⟩
          have hB7 := Lib.hid (below_on hB6.out (Nat.le_refl _) hb7)
          clear hb7
          go_wp2_with fail
          go_ret
          exact ⟨ret_bool hF.out.symm, hB7.out⟩
        · have hE := Lib.hid (of_decide_eq_true hq)
          rw [hq] at hOne
          have hP2 : Hid (∀ i x y, i < k + 1 → xs[i]? = some x → ys[i]? = some y → x = y) := Lib.hid fun i x' y' hi hx hy => by
            by_cases h1 : i < k
            · exact hP.out i x' y' h1 hx hy
            · have : i = k := by omega
              subst this
              rw [hXx.out] at hx; rw [hYy.out] at hy
              cases hx; cases hy
              exact hE.out
          go_wp2_with fail
          with_reducible refine (hOne.out _ hB6.out).mono ?_
          rintro e w7 ⟨rfl, hb7⟩
          have hB7 := Lib.hid (below_on hB6.out (Nat.le_refl _) hb7)
          clear hb7
          go_wp2_with fail
          go_roundw
          case rel => exact ⟨k + 1, by omega, by go_num, hP2, hB7⟩
          case measure => simp [intOf]; omega
      · have hF := Lib.hid (hAll.out k (by omega) hP.out)
        go_wp2_with fail
        go_ret
        exact ⟨ret_bool hF.out.symm, hBr.out⟩
  · have hV := Lib.hid (same_len hl)
    have hne : ((xs.length : Int) != (ys.length : Int)) = true := by rw [bne_iff_ne]; omega
    have hne2 : (xs.length != ys.length) = true := by rw [bne_iff_ne]; omega
    generalize xs.length = n1 at *
    generalize ys.length = n2 at *
    unfold maxLen at hl1 hl2
    clear hl h1 h2
    go_enter Try.func39, Try.ntmps39
    go_wp2_with fail
    go_ret
    exact ⟨ret_bool (by rw [hV.out]), Below.refl _ _⟩
set_option maxHeartbeats 400000 in
theorem implSameTasks_any (B : Nat) (v1 v2 : Value) (xs ys : List TaskD) (w : World) (h1 : LstTask B w v1 xs) (h2 : LstTask B w v2 ys) (hB : B ≤ w.heap.size) :
    Calls Try.prog 29 #[v1, v2] w fun e w' => e = .returned (.bool (sameTasks xs ys)) ∧ Below w.heap.size w w' := by
  have hJ := Lib.hid (equalTask_any B v1 v2 xs ys w h1 h2 hB)
  clear h1 h2
  generalize sameTasks xs ys = q at *
  go_enter Try.func29, Try.ntmps29
  go_wp2_with fail
  with_reducible refine (hJ.out).mono ?_
  rintro e w' ⟨rfl, hb⟩
  have hB1 := Lib.hid hb
  clear hb
  go_wp2_with fail
  go_ret
  exact ⟨rfl, hB1.out⟩
set_option maxHeartbeats 8000000 in
theorem specSameTasks_any (B : Nat) (v1 v2 : Value) (xs ys : List TaskD) (w : World) (h1 : LstTask B w v1 xs) (h2 : LstTask B w v2 ys) :
    Calls Try.prog 25 #[v1, v2] w (Ret (.bool (sameTasks xs ys)) w) := by
  obtain ⟨a1, cap1, rfl, hl1, _, _, _⟩ := h1.at_
  obtain ⟨a2, cap2, rfl, hl2, _, _, _⟩ := h2.at_
  by_cases hl : xs.length = ys.length
  · have hX := Lib.hid (pairsT h1 h2 hl)
    have hAll : Hid (∀ k, k = xs.length → (∀ i x y, i < k → xs[i]? = some x → ys[i]? = some y → x = y) → sameTasks xs ys = true) := Lib.hid fun k hk hp => same_all hl fun i x y hi => hp i x y (by omega)
    have hNe : Hid (∀ (k : Nat) (x y : TaskD), xs[k]? = some x → ys[k]? = some y → decide (x = y) = false → sameTasks xs ys = false) := Lib.hid fun k x y hx hy h => same_at hx hy h
    rw [← hl]
    clear h1 h2 hl hl2
    generalize xs.length = n at *
    generalize sameTasks xs ys = res at *
    unfold maxLen at hl1
    go_enter Try.func25, Try.ntmps25
    go_wp2_with fail
    go_loopw [13] (fun i wr => ∃ k m : Nat, k ≤ n ∧ i = .int .i64 k ∧ Hid (∀ i x y, i < k → xs[i]? = some x → ys[i]? = some y → x = y) ∧ wr = w.drewN m) (fun i _ => n - (intOf i).toNat)
    case atStart => exact ⟨0, 0, Nat.zero_le _, rfl, Lib.hid (fun i x y hi _ _ => by omega), rfl⟩
    case round =>
      obtain ⟨k, m, hk, rfl, hP, rfl⟩ := hrel
      by_cases hlt : k < n
      · obtain ⟨b1, o1, b2, o2, x, y, ub1, ul1, ub2, ul2, cb1, cl1, cb2, cl2, rfl, rfl, hb1, hb2, hx, hy, ⟨p0, p1, p2, p3⟩, ⟨q0, q1, q2, q3⟩, l1, l2, l3, l4⟩ := hX.out k hlt
        have hXx := Lib.hid hx
        have hYy := Lib.hid hy
        rw [← World.cell?_drewN (n := m)] at p0 p1 p2 p3 q0 q1 q2 q3
        have hS1 := Lib.hid (fun nd => l00Same_any B _ _ x.Before y.Before ((w.drewN m).drewN nd) ((l1.drewN m).drewN nd) ((l3.drewN m).drewN nd))
        have hS2 := Lib.hid (fun nd => l00Same_any B _ _ x.Lags y.Lags ((w.drewN m).drewN nd) ((l2.drewN m).drewN nd) ((l4.drewN m).drewN nd))
        have hT := Lib.hid (taskEq x y)
        have hF0 := Lib.hid (hNe.out k x y hXx.out hYy.out)
        have hP0 : Hid (x = y → ∀ i x y, i < k + 1 → xs[i]? = some x → ys[i]? = some y → x = y) := Lib.hid fun hE i x' y' hi hx hy => by
          by_cases h1 : i < k
          · exact hP.out i x' y' h1 hx hy
          · have e0 : i = k := by omega
            rw [e0] at hx hy
            exact (Option.some.inj (hXx.out.symm.trans hx)).symm.trans (hE.trans (Option.some.inj (hYy.out.symm.trans hy)))
        clear hx hy l1 l2 l3 l4
        generalize hd : decide (x = y) = dd at *
        have hD := Lib.hid hd
        clear hd
        generalize decide (x.Before = y.Before) = p at *
        generalize decide (x.Lags = y.Lags) = q at *
        generalize x.Time = ta at *
        generalize y.Time = tb at *
        generalize x.Needs = na at *
        generalize y.Needs = nb at *
        generalize x.Before.length = n1 at *
        generalize x.Lags.length = n2 at *
        generalize y.Before.length = n3 at *
        generalize y.Lags.length = n4 at *
        generalize hwo : w.drewN m = wo at *
        have hWo := Lib.hid hwo
        clear hwo
        by_cases c0 : ta = tb
        · have e0 : (ta != tb) = false := by rw [bne_eq_false_iff_eq]; exact c0
          by_cases c1 : na = nb
          · have e1 : (na != nb) = false := by rw [bne_eq_false_iff_eq]; exact c1
            have hT2 := Lib.hid (show dd = (p && q) by rw [hT.out, decide_eq_true c0, decide_eq_true c1]; simp)
            clear hT c0 c1
            cases p
            · have hF := Lib.hid (hF0.out (by rw [hT2.out]; rfl))
              go_wp2_with fail
              go_quiet (first | (go_at_call 26; with_reducible exact Ret.quiet (hS1.out _)) | (go_at_call 26; with_reducible exact Ret.quiet (hS2.out _)))
              go_wp2_with fail
              go_ret
              exact ⟨_, ret_bool hF.out.symm, by rw [← hWo.out, World.drewN_drewN]⟩
            · cases q
              · have hF := Lib.hid (hF0.out (by rw [hT2.out]; rfl))
                go_wp2_with fail
                go_quiet (first | (go_at_call 26; with_reducible exact Ret.quiet (hS1.out _)) | (go_at_call 26; with_reducible exact Ret.quiet (hS2.out _)))
                go_wp2_with fail
                go_ret
                exact ⟨_, ret_bool hF.out.symm, by rw [← hWo.out, World.drewN_drewN]⟩
              · have hP2 := Lib.hid (hP0.out (of_decide_eq_true (by rw [hD.out, hT2.out]; rfl)))
                go_wp2_with fail
                go_quiet (first | (go_at_call 26; with_reducible exact Ret.quiet (hS1.out _)) | (go_at_call 26; with_reducible exact Ret.quiet (hS2.out _)))
                go_wp2_with fail
                go_roundw
                case rel => exact ⟨k + 1, _, by omega, by go_num, hP2, by rw [← hWo.out, World.drewN_drewN]⟩
                case measure => simp [intOf]; omega
          · have e1 : (na != nb) = true := bne_iff_ne.2 c1
            have hF := Lib.hid (hF0.out (by rw [hT.out, decide_eq_false c1]; simp))
            go_wp2_with fail
            go_quiet (first | (go_at_call 26; with_reducible exact Ret.quiet (hS1.out _)) | (go_at_call 26; with_reducible exact Ret.quiet (hS2.out _)))
            go_wp2_with fail
            go_ret
            exact ⟨_, ret_bool hF.out.symm, by rw [← hWo.out, World.drewN_drewN]⟩
        · have e0 : (ta != tb) = true := bne_iff_ne.2 c0
          have hF := Lib.hid (hF0.out (by rw [hT.out, decide_eq_false c0]; simp))
          go_wp2_with fail
          go_quiet (first | (go_at_call 26; with_reducible exact Ret.quiet (hS1.out _)) | (go_at_call 26; with_reducible exact Ret.quiet (hS2.out _)))
          go_wp2_with fail
          go_ret
          exact ⟨_, ret_bool hF.out.symm, by rw [← hWo.out, World.drewN_drewN]⟩
      · have hF := Lib.hid (hAll.out k (by omega) hP.out)
        go_wp2_with fail
        go_ret
        exact ⟨_, ret_bool hF.out.symm, rfl⟩
  · have hV := Lib.hid (same_len hl)
    have hne : ((xs.length : Int) != (ys.length : Int)) = true := by rw [bne_iff_ne]; omega
    have hne2 : (xs.length != ys.length) = true := by rw [bne_iff_ne]; omega
    generalize xs.length = n1 at *
    generalize ys.length = n2 at *
    unfold maxLen at hl1 hl2
    clear hl h1 h2
    go_enter Try.func25, Try.ntmps25
    go_wp2_with fail
    go_ret
    exact ⟨0, ret_bool (by rw [hV.out]), rfl⟩
end Go.Proofs.Ytnffkfknnnknoaa
