/- Contracts: how long the machine has nothing to do. -/
import Derived.Test.YtonokdbkjeoklaaJobPlan
import Derived.Test.YtonokdbkjeoklaaTimes
namespace Go.Proofs.Ytonokdbkjeoklaa
open Go.RowKit Go.Lst

def lastEnd (xs : List JobD) (ss : List Int) : Nat → Int
  | 0 => 0
  | k + 1 => max (lastEnd xs ss k) (startOf ss k + (jobAt xs k).Time)
def workTo (xs : List JobD) : Nat → Int
  | 0 => 0
  | k + 1 => workTo xs k + (jobAt xs k).Time
def idleRes (xs : List JobD) (ss : List Int) : Int := if planOf xs ss then lastEnd xs ss xs.length - workTo xs xs.length else 0
theorem planOf_ok {xs : List JobD} {ss : List Int} (h : planOf xs ss = true) : okStarts xs ss = true ∧ keptTo xs ss xs.length = true := by
  simpa only [planOf, Bool.and_eq_true] using h

set_option maxHeartbeats 4000000 in
theorem specIdleOf_any (B : Nat) (v1 v2 : Value) (xs : List JobD) (ss : List Int) (w : World) (h1 : LstJob B w v1 xs) (h2 : LstI B w v2 ss) :
    Calls Try.prog 39 #[v1, v2] w (Ret (.tuple #[.int .i64 (idleRes xs ss), .bool (planOf xs ss)]) w) := by
  have hS := Lib.hid (l02Starts_any B v1 v2 xs ss w h1 h2)
  cases hq : okStarts xs ss
  · have hV := Lib.hid (show planOf xs ss = false by unfold planOf; rw [hq]; rfl)
    have hR := Lib.hid (show idleRes xs ss = 0 by unfold idleRes; rw [hV.out]; rfl)
    rw [hV.out, hR.out]
    rw [hq] at hS
    clear h1 h2 hq
    go_enter Try.func39, Try.ntmps39
    go_wp2_with (go_at_call 69; refine (hS.out).mono ?_; rintro e w' ⟨m, rfl, rfl⟩)
    go_ret2
    exact Ret.later _ _ _
  · have hK := Lib.hid (fun m => l02Kept_any B v1 v2 xs ss (w.drewN m) (LstJob.below h1 (Lst.Below.drewN (Below.refl B w) m) (Nat.le_refl _)) (h2.drewN m) hq)
    rw [hq] at hS
    cases hq2 : keptTo xs ss xs.length
    · have hV := Lib.hid (show planOf xs ss = false by unfold planOf; rw [hq2, Bool.and_false])
      have hR := Lib.hid (show idleRes xs ss = 0 by unfold idleRes; rw [hV.out]; rfl)
      rw [hV.out, hR.out]
      rw [hq2] at hK
      clear h1 h2 hq hq2
      go_enter Try.func39, Try.ntmps39
      go_wp2_with (first | (go_at_call 69; refine (hS.out).mono ?_; rintro e w' ⟨m, rfl, rfl⟩) | (go_at_call 70; refine (hK.out _).mono ?_; rintro e w' ⟨m2, rfl, rfl⟩))
      go_ret2
      exact ⟨_, rfl, by first | rfl | exact World.drewN_drewN ..⟩
    · have hV := Lib.hid (show planOf xs ss = true by unfold planOf; rw [hq, hq2]; rfl)
      have hR := Lib.hid (show idleRes xs ss = lastEnd xs ss xs.length - workTo xs xs.length by unfold idleRes; rw [hV.out]; rfl)
      rw [hV.out, hR.out]
      rw [hq2] at hK
      obtain ⟨a1, cap1, rfl, hl1, _⟩ := h1.at_
      obtain ⟨a2, cap2, rfl, hl2, _⟩ := h2.at_
      have h24 := (areJobs_of (okStarts_of hq).1).2.1
      have he := (okStarts_of hq).2.1
      rw [he] at h2 hS hK ⊢
      have hA := Lib.hid (start_cells h1 h2 hq)
      have hLS : Hid (∀ k, lastEnd xs ss (k + 1) = max (lastEnd xs ss k) (startOf ss k + (jobAt xs k).Time)) := Lib.hid fun _ => rfl
      have hWS : Hid (∀ k, workTo xs (k + 1) = workTo xs k + (jobAt xs k).Time) := Lib.hid fun _ => rfl
      clear h1 h2 hq hq2 hl2 he
      generalize xs.length = n at *
      go_enter Try.func39, Try.ntmps39
      go_wp2_with (first | (go_at_call 69; refine (hS.out).mono ?_; rintro e w' ⟨m, rfl, rfl⟩) | (go_at_call 70; refine (hK.out _).mono ?_; rintro e w' ⟨m2, rfl, rfl⟩))
      go_loopw [6, 7, 8] (fun lv sv ii wr => ∃ (i nd : Nat) (l z : Int), i ≤ n ∧ ii = .int .i64 i ∧ lv = .int .i64 l ∧ sv = .int .i64 z ∧ Hid (l = lastEnd xs ss i) ∧ Hid (z = workTo xs i) ∧ 0 ≤ l ∧ l ≤ 1010000 ∧ 0 ≤ z ∧ z ≤ 10000 * i ∧ wr = w.drewN nd) (fun _ _ ii _ => n - (intOf ii).toNat)
      case atStart => exact ⟨0, _, 0, 0, Nat.zero_le _, rfl, rfl, rfl, Lib.hid rfl, Lib.hid rfl, by omega, by omega, by omega, by omega, by first | rfl | exact World.drewN_drewN ..⟩
      case round =>
        obtain ⟨i, nd, l, z, hi, rfl, rfl, rfl, hL, hZ, l1, l2, z1, z2, rfl⟩ := hrel
        by_cases hlt : i < n
        · obtain ⟨b1, o1, b2, o2, x, s, rfl, rfl, _, _, p0, _, _, _, q0, hjx, hss, s1, s2, t1, t2, r1, r2⟩ := hA.out i hlt
          rw [← World.cell?_drewN (n := nd)] at p0 q0
          generalize hwo : w.drewN nd = wo at *
          have hWo := Lib.hid hwo
          have hL2 := Lib.hid (show max l (s + x.Time) = lastEnd xs ss (i + 1) by rw [hLS.out, hL.out, hjx, hss])
          have hZ2 := Lib.hid (show z + x.Time = workTo xs (i + 1) by rw [hWS.out, hZ.out, hjx])
          have hw1 : IntKind.i64.wrap (s + x.Time) = s + x.Time := IntWalk.i64_in _ (by omega)
          clear hwo hjx hss
          go_wp2_with fail
          go_quiet ((go_at_call 71; exact Ret.quiet (Ret.same (l00Max_any _ _ _))))
          go_wp2_with fail
          go_roundw
          case rel => exact ⟨i + 1, _, _, _, by omega, by go_num, rfl, rfl, hL2, hZ2, by omega, by omega, by omega, by omega, by rw [← hWo.out, World.drewN_drewN]⟩
          case measure => simp [intOf]; omega
        · have hL2 := Lib.hid (show l - z = lastEnd xs ss n - workTo xs n by rw [hL.out, hZ.out, show i = n by omega])
          go_wp2
          go_ret2
          exact ⟨_, ret_ib hL2.out, rfl⟩

set_option maxHeartbeats 4000000 in
theorem implIdleOf_any (B : Nat) (v1 v2 : Value) (xs : List JobD) (ss : List Int) (w : World) (h1 : LstJob B w v1 xs) (h2 : LstI B w v2 ss) (hB : B ≤ w.heap.size) :
    Calls Try.prog 40 #[v1, v2] w fun e w' => e = .returned (.tuple #[.int .i64 (idleRes xs ss), .bool (planOf xs ss)]) ∧ Below w.heap.size w w' := by
  have hP := Lib.hid (implIsJobPlan_any B v1 v2 xs ss w h1 h2 hB)
  cases hq : planOf xs ss
  · have hR := Lib.hid (show idleRes xs ss = 0 by unfold idleRes; rw [hq]; rfl)
    rw [hR.out]
    rw [hq] at hP
    generalize okStarts xs ss = q at *
    clear h1 h2 hq
    cases q
    · go_enter Try.func40, Try.ntmps40
      go_wp2_with (go_at_call 38; refine (hP.out).mono ?_; rintro e w1 ⟨rfl, hb1⟩; have hB1 := Lib.hid hb1; clear hb1)
      go_ret2
      exact ⟨rfl, hB1.out⟩
    · go_enter Try.func40, Try.ntmps40
      go_wp2_with (go_at_call 38; refine (hP.out).mono ?_; rintro e w1 ⟨rfl, hb1⟩; have hB1 := Lib.hid hb1; clear hb1)
      go_ret2
      exact ⟨rfl, hB1.out⟩
  · have hR := Lib.hid (show idleRes xs ss = lastEnd xs ss xs.length - workTo xs xs.length by unfold idleRes; rw [hq]; rfl)
    rw [hR.out]
    obtain ⟨hok, _⟩ := planOf_ok hq
    rw [hq, hok] at hP
    have he := (okStarts_of hok).2.1
    obtain ⟨a1, cap1, rfl, hl1, _⟩ := h1.at_
    obtain ⟨a2, cap2, rfl, hl2, _⟩ := h2.at_
    have h24 := (areJobs_of (okStarts_of hok).1).2.1
    rw [he] at h2 hP ⊢
    have hA := Lib.hid (start_cells (h1.mono hB) (h2.mono hB) hok)
    have hLS : Hid (∀ k, lastEnd xs ss (k + 1) = max (lastEnd xs ss k) (startOf ss k + (jobAt xs k).Time)) := Lib.hid fun _ => rfl
    have hWS : Hid (∀ k, workTo xs (k + 1) = workTo xs k + (jobAt xs k).Time) := Lib.hid fun _ => rfl
    clear h1 h2 hq hl2 he hok
    generalize xs.length = n at *
    go_enter Try.func40, Try.ntmps40
    go_wp2_with (go_at_call 38; refine (hP.out).mono ?_; rintro e w1 ⟨rfl, hb1⟩; have hB1 := Lib.hid hb1; clear hb1)
    go_loopw [8, 9, 26] (fun lv sv ii wr => ∃ (i : Nat) (l z : Int), i ≤ n ∧ ii = .int .i64 i ∧ lv = .int .i64 l ∧ sv = .int .i64 z ∧ Hid (l = lastEnd xs ss i) ∧ Hid (z = workTo xs i) ∧ 0 ≤ l ∧ l ≤ 1010000 ∧ 0 ≤ z ∧ z ≤ 10000 * i ∧ Hid (Below w.heap.size w wr)) (fun _ _ ii _ => n - (intOf ii).toNat)
    case atStart => exact ⟨0, 0, 0, Nat.zero_le _, rfl, rfl, rfl, Lib.hid rfl, Lib.hid rfl, by omega, by omega, by omega, by omega, hB1⟩
    case round =>
      clear hB1
      obtain ⟨i, l, z, hi, rfl, rfl, rfl, hL, hZ, l1, l2, z1, z2, hB1⟩ := hrel
      by_cases hlt : i < n
      · obtain ⟨b1, o1, b2, o2, x, s, rfl, rfl, hbl1, hbl2, p0, p1, p2, p3, q0, hjx, hss, s1, s2, t1, t2, r1, r2⟩ := hA.out i hlt
        rw [← hB1.out.cell (p := ⟨b1, o1 + i * 4, none⟩) hbl1] at p0
        rw [← hB1.out.cell (p := ⟨b1, o1 + i * 4 + 1, none⟩) hbl1] at p1
        rw [← hB1.out.cell (p := ⟨b1, o1 + i * 4 + 2, none⟩) hbl1] at p2
        rw [← hB1.out.cell (p := ⟨b1, o1 + i * 4 + 3, none⟩) hbl1] at p3
        rw [← hB1.out.cell (p := ⟨b2, o2 + i, none⟩) hbl2] at q0
        have hbw1 : b1 < wr.heap.size := Nat.lt_of_lt_of_le hbl1 hB1.out.size
        have hbw2 : b2 < wr.heap.size := Nat.lt_of_lt_of_le hbl2 hB1.out.size
        have hL2 := Lib.hid (show max l (s + x.Time) = lastEnd xs ss (i + 1) by rw [hLS.out, hL.out, hjx, hss])
        have hZ2 := Lib.hid (show z + x.Time = workTo xs (i + 1) by rw [hWS.out, hZ.out, hjx])
        have hw1 : IntKind.i64.wrap (s + x.Time) = s + x.Time := IntWalk.i64_in _ (by omega)
        clear hjx hss hbl1 hbl2
        go_wp2_with fail
        go_quiet (fail)
        simp only [mx_eq]
        have l3 : 0 ≤ max l (s + x.Time) := by omega
        have l4 : max l (s + x.Time) ≤ 1010000 := by omega
        generalize max l (s + x.Time) = mm at *
        go_wp2_with fail
        go_roundw
        case rel => exact ⟨i + 1, _, _, by omega, by go_num, rfl, rfl, hL2, hZ2, l3, l4, by omega, by omega, Lib.hid (below_drew (below_alloc hB1.out _) _)⟩
        case measure => simp [intOf]; omega
      · have hL2 := Lib.hid (show l - z = lastEnd xs ss n - workTo xs n by rw [hL.out, hZ.out, show i = n by omega])
        go_wp2
        go_ret2
        exact ⟨ret_ib hL2.out, hB1.out⟩
theorem idleOf_both (xs : List JobD) (ss : List Int) (_ : ∀ y ∈ xs, y.wf) (_ : ∀ x ∈ ss, (Lit.int .i64 x).wf = true) : ∃ (r0 : Int) (r1 : Bool),
    (∀ (B : Nat) (v1 v2 : Value) (w : World), LstJob B w v1 xs → LstI B w v2 ss → B ≤ w.heap.size → Calls Try.prog 39 #[v1, v2] w fun e w' => e = .returned (.tuple #[.int .i64 r0, .bool r1]) ∧ Below w.heap.size w w') ∧
    (∀ (B : Nat) (v1 v2 : Value) (w : World), LstJob B w v1 xs → LstI B w v2 ss → B ≤ w.heap.size → Calls Try.prog 40 #[v1, v2] w fun e w' => e = .returned (.tuple #[.int .i64 r0, .bool r1]) ∧ Below w.heap.size w w') :=
  ⟨idleRes xs ss, planOf xs ss, fun B v1 v2 w h1 h2 _ => (specIdleOf_any B v1 v2 xs ss w h1 h2).mono fun _ _ hr => hr.below, fun B v1 v2 w h1 h2 hB => implIdleOf_any B v1 v2 xs ss w h1 h2 hB⟩
end Go.Proofs.Ytonokdbkjeoklaa
