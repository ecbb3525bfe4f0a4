/- Contracts: which teams are at home; the program's walk and the model's. -/
import Derived.Test.YtpmglmpopmppbaaHomes
import Derived.Test.YtpmglmpopmppbaaInRows
import Derived.BigRegion
namespace Go.Proofs.Ytpmglmpopmppbaa
open Go.RowKit Go.Lst

theorem cells_of {B : Nat} {w : World} {v : Value} {xs : List Int} (h : LstI B w v xs) (h1 : 1 ≤ xs.length) : ∃ b o cap, v = .slice (some ⟨b, o, none⟩) xs.length cap ∧ b < B ∧ xs.length ≤ cap ∧ ∀ k, k < xs.length → w.cell? ⟨b, o + k, none⟩ = some (.int .i64 (xs.getD k 0)) := by
  obtain ⟨a, cap, rfl, hl, h2, _, hc⟩ := h.at_
  obtain ⟨b, o, x0, rfl, hb, _, _⟩ := hc 0 (by omega)
  refine ⟨b, o, cap, rfl, hb, h2, fun k hk => ?_⟩
  obtain ⟨b', o', x', he, _, hx', hcell⟩ := hc k hk
  injection he with he
  injection he with e1 e2 _
  subst e1 e2
  rw [getD_of hx']
  exact hcell
theorem areRounds_at {q : Bool} (B : Nat) (v : Value) (xs : List Int) (T : Int) (w : World) (h : LstI B w v xs) (hB : B ≤ w.heap.size) (hwf : ∀ x ∈ xs, (Lit.int .i64 x).wf = true) (hq : roundsOk T xs = q) :
    Calls Try.prog 22 #[.int .i64 T, v] w fun x w' => x = .returned (.bool q) ∧ Below w.heap.size w w' := by
  rw [← hq]; exact implAreRounds_any B v xs T w h hB hwf
set_option maxHeartbeats 4000000 in
set_option maxRecDepth 100000 in
theorem implHomes_any (B : Nat) (v : Value) (xs : List Int) (T : Int) (w : World) (h : LstI B w v xs) (hB : B ≤ w.heap.size) (hwf : ∀ x ∈ xs, (Lit.int .i64 x).wf = true) :
    Calls Try.prog 24 #[.int .i64 T, v] w (HomesPost (homesL T xs) (roundsOk T xs) w) := by
  cases hq : roundsOk T xs
  · have hC := Lib.hid (areRounds_at B v xs T w h hB hwf hq)
    have hF : Hid (∀ w', Below w.heap.size w w' → HomesPost (homesL T xs) false w (.returned (.tuple #[.slice none 0 0, .bool false])) w') := Lib.hid fun w' hb => homes_no (by unfold homesL; rw [hq]; rfl) rfl hb
    obtain ⟨a, cap, rfl, _⟩ := h.at_
    clear h hwf
    generalize HomesPost (homesL T xs) false w = Q at *
    generalize xs.length = n at *
    go_enter Try.func24, Try.ntmps24
    go_wp2_with (go_at_call 22; (with_reducible refine hC.out.mono ?_); rintro e' w5 ⟨rfl, hb5⟩; have hQe := Lib.hid (hF.out _ hb5); clear hb5)
    show Q (.returned (.tuple #[_, _])) _
    exact Hid.out (by assumption)
  · obtain ⟨t, r, m, rfl, t1, t2, t3, r1, r2, hn, hrow, _⟩ := rounds_of hq
    clear t3
    have hC := Lib.hid (areRounds_at B v xs t w h hB hwf hq)
    have hL1 : 1 ≤ r * t := Nat.mul_pos (by omega) (by omega)
    have hL2 : r * t ≤ (2 * t - 2) * t := Nat.mul_le_mul_right t r2
    have hL3 : (2 * t - 2) * t ≤ 480 := Nat.mul_le_mul (show 2 * t - 2 ≤ 30 by omega) t2
    have hg := rounds_games t1 t2 hn hrow
    obtain ⟨b, o, cap, rfl, hbB, hcap, hc⟩ := cells_of h (by omega)
    have hSt : Hid (∀ k, k < xs.length → homesTo t xs (k + 1) = (homesTo t xs k).set (homePos t xs k) (decide (k % 2 = 0))) := Lib.hid fun k hk => homes_step (by omega) hg (Nat.le_refl _) hk
    have hCe : Hid (∀ k, k < xs.length → ∃ q s x P : Nat, q = k / t ∧ s = q * t ∧ P = s + x ∧ P = homePos t xs k ∧ P < xs.length ∧ x < t ∧ w.cell? ⟨b, o + k, none⟩ = some (.int .i64 (x : Int))) := Lib.hid fun k hk => by
      obtain ⟨e1, e2⟩ := game_in (gamesTo_at hg hk)
      refine ⟨k / t, k / t * t, (xs.getD k 0).toNat, _, rfl, rfl, rfl, rfl, homePos_lt (by omega) hn hg hk, by omega, ?_⟩
      rw [hc k hk]
      congr 2
      omega
    have hP : Hid (∀ (w' : World) (v : Value), w'.ownsRow w.heap.size 4 1 v xs.length ((homesTo t xs xs.length).map Value.bool) → Below w.heap.size w w' → HomesPost (homesL t xs) true w (.returned (.tuple #[v, .bool true])) w') := Lib.hid fun w' v ho hb => by
      unfold homesL
      rw [hq, if_pos rfl, Int.toNat_natCast]
      exact homes_yes rfl (Nat.le_refl _) (homesTo_length t xs _) ho (by omega) hb
    have hH0 : Hid (homesTo t xs 0 = List.replicate xs.length false) := Lib.hid rfl
    have hHl := Lib.hid (homesTo_length t xs)
    have hn480 : xs.length ≤ 480 := by omega
    have hn1 : 1 ≤ xs.length := by omega
    generalize HomesPost (homesL t xs) true w = Q at *
    clear h hwf hq hL1 hL2 hL3 hn hrow hg hc
    generalize homesTo t xs = H at *
    generalize homePos t xs = hp at *
    generalize xs.length = n at *
    obtain ⟨i0, hi, hz0, hz1, hz2⟩ := info_parts infoBl
    have x6 : ((t : Int) == 0) = false := by rw [beq_eq_false_iff_ne]; omega
    have x7 : ¬ (t : Int) = 0 := by omega
    have x8 : ¬ t = 0 := by omega
    go_enter Try.func24, Try.ntmps24
    go_wp2_with (first | (go_at_call 22; (with_reducible refine hC.out.mono ?_); rintro e' w5 ⟨rfl, hb5⟩; have hB5 := Lib.hid hb5; have hS5 := hb5.size; clear hb5) | (at_make; refine wpList_make_full _ rfl _ _ _ rfl w.heap.size _ i0 (.bool false) 1 Try.underlying30 hi hz0 hz1 _ _ _ _ n rfl rfl rfl rfl (by rw [hz2]; omega) (by unfold maxLen; omega) hS5 ?_; intro w6 hown6 hg6; have hO6 := Lib.hid (homes0 hown6); have hB6 := Lib.hid (hB5.out.grown hg6 hS5 (fun k hk => by cases hk)); clear hown6 hg6))
    clear hC hB5
    generalize w5.heap.size = g at *
    go_loopw [19] (fun i wr => ∃ k : Nat, k ≤ n ∧ i = .int .i64 k ∧ Hid (wr.ownsRow w.heap.size 4 1 (.slice (some ⟨g, 0, none⟩) n n) n ((H k).map Value.bool)) ∧ Hid (Below w.heap.size w wr)) (fun i _ => n - (intOf i).toNat)
    case atStart => exact ⟨0, Nat.zero_le _, rfl, Lib.hid (by rw [hH0.out]; exact hO6.out), hB6⟩
    case round =>
      clear hO6 hB6
      obtain ⟨k, hk, rfl, hO, hBw⟩ := hrel
      by_cases hlt : k < n
      · obtain ⟨q, s, x, P, e1, e2, e3, e4, e5, e6, cx⟩ := hCe.out k hlt
        rw [← hBw.out.cell (p := ⟨b, o + k, none⟩) (show b < w.heap.size by omega)] at cx
        have hS1 := Lib.hid (hSt.out k hlt)
        rw [← e4] at hS1
        have hbit := homeBit hO.out (hHl.out k) e5
        have hfr : wr.frozen? ⟨g, P, none⟩ = false := hO.out.frozenAt P
        have x1 : (k : Int).tdiv (t : Int) = (q : Int) := by rw [(divB k t).2, e1]
        have x2 : (k : Int) / (t : Int) = (q : Int) := by rw [(divB k t).1, e1]
        have x3 : (q : Int) * (t : Int) = (s : Int) := by rw [e2, Int.natCast_mul]
        have hsk : q ≤ 480 ∧ s ≤ 480 := ⟨by rw [e1]; exact Nat.le_trans (Nat.div_le_self _ _) (by omega), by omega⟩
        have x4 : (s : Int) + (x : Int) = (P : Int) := by omega
        have y1 : IntKind.i64.wrap (q : Int) = (q : Int) := IntWalk.i64_in _ (by omega)
        have y2 : IntKind.i64.wrap (s : Int) = (s : Int) := IntWalk.i64_in _ (by omega)
        have y3 : IntKind.i64.wrap (P : Int) = (P : Int) := IntWalk.i64_in _ (by omega)
        have y4 : (P : Int) < (n : Int) := by omega
        have y5 : (k : Int) < (n : Int) := by omega
        obtain ⟨d, hd⟩ : ∃ d, d = k % 2 := ⟨_, rfl⟩
        have z1 : (k : Int).tmod 2 = (d : Int) := by rw [hd]; exact (modB k 2).2
        have z2 : (k : Int) % 2 = (d : Int) := by rw [hd]; exact (modB k 2).1
        rw [← hd] at hS1
        have hd2 : d < 2 := by omega
        clear hd e1 e2 e3 e4
        have hgw : w.heap.size ≤ g := (hO.out.lt g rfl).1
        rcases (show d = 0 ∨ d = 1 by omega) with hd0 | hd0
        all_goals
          subst hd0
          go_wp2_with fail
          go_roundw
          case rel => exact ⟨k + 1, by omega, by go_num, Lib.hid (by rw [hS1.out]; exact homeSet hO.out P _), Lib.hid (hBw.out.setCell (p := ⟨g, P, none⟩) hgw _)⟩
          case measure => simp [intOf]; omega
      · have hkn : k = n := by omega
        subst hkn
        have hQe := Lib.hid (hP.out _ _ hO.out hBw.out)
        go_wp2_with fail
        exact hQe.out
set_option maxHeartbeats 4000000 in
set_option maxRecDepth 100000 in
theorem l07Homes_any (B : Nat) (v : Value) (xs : List Int) (t : Nat) (w : World) (h : LstI B w v xs) (hB : B ≤ w.heap.size) (hq : roundsOk t xs = true) :
    Calls Try.prog 54 #[.int .i64 t, v] w fun e w' => ∃ g, e = .returned (.slice (some ⟨g, 0, none⟩) xs.length xs.length) ∧ w'.ownsRow w.heap.size 4 1 (.slice (some ⟨g, 0, none⟩) xs.length xs.length) xs.length ((homesTo t xs xs.length).map Value.bool) ∧ Below w.heap.size w w' := by
  obtain ⟨t', r, m, he, t1, t2, t3, r1, r2, hn, hrow, _⟩ := rounds_of hq
  obtain rfl : t = t' := by omega
  have hev : xs.length % 2 = 0 := by rw [hn, t3, show r * (2 * m) = 2 * (r * m) by rw [Nat.mul_left_comm], Nat.mul_mod_right]
  clear t3 he
  have hL1 : 1 ≤ r * t := Nat.mul_pos (by omega) (by omega)
  have hL2 : r * t ≤ (2 * t - 2) * t := Nat.mul_le_mul_right t r2
  have hL3 : (2 * t - 2) * t ≤ 480 := Nat.mul_le_mul (show 2 * t - 2 ≤ 30 by omega) t2
  have hg := rounds_games t1 t2 hn hrow
  obtain ⟨b, o, cap, rfl, hbB, hcap, hc⟩ := cells_of h (by omega)
  have hSt : Hid (∀ k, k % 2 = 0 → homesTo t xs (k + 2) = (homesTo t xs k).set (homePos t xs k) true) := Lib.hid fun k hk => homes_two hk
  have hCe : Hid (∀ k, k < xs.length → ∃ q s x P : Nat, q = k / t ∧ s = q * t ∧ P = s + x ∧ P = homePos t xs k ∧ P < xs.length ∧ x < t ∧ w.cell? ⟨b, o + k, none⟩ = some (.int .i64 (x : Int))) := Lib.hid fun k hk => by
    obtain ⟨e1, e2⟩ := game_in (gamesTo_at hg hk)
    refine ⟨k / t, k / t * t, (xs.getD k 0).toNat, _, rfl, rfl, rfl, rfl, homePos_lt (by omega) hn hg hk, by omega, ?_⟩
    rw [hc k hk]
    congr 2
    omega
  have hH0 : Hid (homesTo t xs 0 = List.replicate xs.length false) := Lib.hid rfl
  have hHl := Lib.hid (homesTo_length t xs)
  have hn480 : xs.length ≤ 480 := by omega
  have hn1 : 1 ≤ xs.length := by omega
  clear h hq hL1 hL2 hL3 hn hrow hg hc
  generalize homesTo t xs = H at *
  generalize homePos t xs = hp at *
  generalize xs.length = n at *
  obtain ⟨i0, hi, hz0, hz1, hz2⟩ := info_parts infoBl
  have x6 : ((t : Int) == 0) = false := by rw [beq_eq_false_iff_ne]; omega
  have x7 : ¬ (t : Int) = 0 := by omega
  have x8 : ¬ t = 0 := by omega
  have hEv := Lib.hid hev
  clear hev
  go_enter Try.func54, Try.ntmps54
  go_wp2_with (at_make; refine wpList_make_full _ rfl _ _ _ rfl w.heap.size _ i0 (.bool false) 1 Try.underlying30 hi hz0 hz1 _ _ _ _ n rfl rfl rfl rfl (by rw [hz2]; omega) (by unfold maxLen; omega) (Nat.le_refl _) ?_; intro w6 hown6 hg6; have hO6 := Lib.hid (homes0 hown6); have hB6 := Lib.hid ((Below.refl w.heap.size w).grown hg6 (Nat.le_refl _) (fun k hk => by cases hk)); clear hown6 hg6)
  have hgw : w.heap.size ≤ w.heap.size := Nat.le_refl _
  generalize hgg : w.heap.size = g at *
  have hGG := Lib.hid hgg
  clear hgg
  go_loopw [6] (fun i wr => ∃ k : Nat, k ≤ n ∧ Hid (k % 2 = 0) ∧ i = .int .i64 k ∧ Hid (wr.ownsRow g 4 1 (.slice (some ⟨g, 0, none⟩) n n) n ((H k).map Value.bool)) ∧ Hid (Below g w wr)) (fun i _ => n - (intOf i).toNat)
  case atStart => exact ⟨0, Nat.zero_le _, Lib.hid rfl, rfl, Lib.hid (by rw [hH0.out]; exact hO6.out), hB6⟩
  case round =>
    clear hO6 hB6
    obtain ⟨k, hk, hke, rfl, hO, hBw⟩ := hrel
    by_cases hlt : k < n
    · obtain ⟨q, s, x, P, e1, e2, e3, e4, e5, e6, cx⟩ := hCe.out k hlt
      have hk2 : k + 2 ≤ n := by have := hEv.out; have := hke.out; omega
      have hkk := Lib.hid (show (k + 2) % 2 = 0 by have := hke.out; omega)
      rw [← hBw.out.cell (p := ⟨b, o + k, none⟩) (show b < g by have := hGG.out; omega)] at cx
      have hS1 := Lib.hid (hSt.out k hke.out)
      rw [← e4] at hS1
      have hbit := homeBit hO.out (hHl.out k) e5
      have hfr : wr.frozen? ⟨g, P, none⟩ = false := hO.out.frozenAt P
      have x1 : (k : Int).tdiv (t : Int) = (q : Int) := by rw [(divB k t).2, e1]
      have x2 : (k : Int) / (t : Int) = (q : Int) := by rw [(divB k t).1, e1]
      have x3 : (q : Int) * (t : Int) = (s : Int) := by rw [e2, Int.natCast_mul]
      have hsk : q ≤ 480 ∧ s ≤ 480 := ⟨by rw [e1]; exact Nat.le_trans (Nat.div_le_self _ _) (by omega), by omega⟩
      have x4 : (s : Int) + (x : Int) = (P : Int) := by omega
      have y1 : IntKind.i64.wrap (q : Int) = (q : Int) := IntWalk.i64_in _ (by omega)
      have y2 : IntKind.i64.wrap (s : Int) = (s : Int) := IntWalk.i64_in _ (by omega)
      have y3 : IntKind.i64.wrap (P : Int) = (P : Int) := IntWalk.i64_in _ (by omega)
      have y4 : (P : Int) < (n : Int) := by omega
      have y5 : (k : Int) < (n : Int) := by omega
      have y6 : IntKind.i64.wrap ((k : Int) + 2) = ((k + 2 : Nat) : Int) := by rw [IntWalk.i64_in _ (by omega)]; omega
      clear e1 e2 e3 e4
      go_wp2_with fail
      go_region
      all_goals
        go_wp2
        go_roundw
        case rel => exact ⟨k + 2, hk2, hkk, by first | rfl | go_num, Lib.hid (by rw [hS1.out]; exact homeSet hO.out P _), by first | exact Lib.hid (hBw.out.setCell (p := ⟨g, P, none⟩) hgw _) | exact Lib.hid (hBw.out.setCell (p := ⟨g, P, none⟩) hgw _).drew⟩
        case measure => simp [intOf]; omega
    · have hkn : k = n := by omega
      subst hkn
      have hO7 := hO.out
      go_wp2_with fail
      go_ret
      rw [hGG.out]
      exact ⟨g, rfl, hO.out, hBw.out⟩
theorem l07Rounds_at {q : Bool} (B : Nat) (v : Value) (xs : List Int) (T : Int) (w : World) (h : LstI B w v xs) (hq : roundsOk T xs = q) : Calls Try.prog 50 #[.int .i64 T, v] w fun x w' => x = .returned (.bool q) ∧ Below w.heap.size w w' := by
  rw [← hq]; exact (l07Rounds_any B v xs T w h).mono fun _ _ hr => hr.below
set_option maxHeartbeats 2000000 in
theorem specHomes_any (B : Nat) (v : Value) (xs : List Int) (T : Int) (w : World) (h : LstI B w v xs) (hB : B ≤ w.heap.size) :
    Calls Try.prog 23 #[.int .i64 T, v] w (HomesPost (homesL T xs) (roundsOk T xs) w) := by
  have hL := Lib.hid h
  cases hq : roundsOk T xs
  · have hC := Lib.hid (l07Rounds_at B v xs T w h hq)
    have hF : Hid (∀ w', Below w.heap.size w w' → HomesPost (homesL T xs) false w (.returned (.tuple #[.slice none 0 0, .bool false])) w') := Lib.hid fun w' hb => homes_no (by unfold homesL; rw [hq]; rfl) rfl hb
    obtain ⟨a, cap, rfl, _⟩ := h.at_
    clear h hL
    generalize HomesPost (homesL T xs) false w = Q at *
    generalize xs.length = n at *
    go_enter Try.func23, Try.ntmps23
    go_wp2_with (go_at_call 50; (with_reducible refine hC.out.mono ?_); rintro e' w5 ⟨rfl, hb5⟩; have hQe := Lib.hid (hF.out _ hb5); clear hb5)
    show Q (.returned (.tuple #[_, _])) _
    exact Hid.out (by assumption)
  · obtain ⟨t, r, m, rfl, t1, t2, t3, r1, r2, hn, _, _⟩ := rounds_of hq
    have hC := Lib.hid (l07Rounds_at B v xs t w h hq)
    have hlen : xs.length ≤ 1048576 := by
      have hL2 : r * t ≤ (2 * t - 2) * t := Nat.mul_le_mul_right t r2
      have hL3 : (2 * t - 2) * t ≤ 480 := Nat.mul_le_mul (show 2 * t - 2 ≤ 30 by omega) t2
      omega
    have hHm : Hid (∀ w', Below w.heap.size w w' → Calls Try.prog 54 #[.int .i64 t, v] w' fun e w'' => ∃ v', e = .returned v' ∧ HomesPost (homesL t xs) true w (.returned (.tuple #[v', .bool true])) w'') := Lib.hid fun w' hb => (l07Homes_any w.heap.size v xs t w' ((hL.out.below hb hB).mono hB) hb.size hq).mono fun e w'' hh => by
      obtain ⟨g, rfl, ho, hb2⟩ := hh
      refine ⟨_, rfl, ?_⟩
      unfold homesL
      rw [hq, if_pos rfl, Int.toNat_natCast]
      exact homes_yes rfl (Nat.le_refl _) (homesTo_length t xs _) (ownsRow_mono ho hb.size) hlen (hb.trans (hb2.mono hb.size))
    obtain ⟨a, cap, rfl, _⟩ := h.at_
    generalize HomesPost (homesL t xs) true w = Q at *
    clear h hL t3 hn hlen hq
    generalize xs.length = n at *
    go_enter Try.func23, Try.ntmps23
    go_wp2_with (first | (go_at_call 50; (with_reducible refine hC.out.mono ?_); rintro e' w5 ⟨rfl, hb5⟩; have hB5 := Lib.hid hb5; clear hb5) | (go_at_call 54; (with_reducible refine (hHm.out _ hB5.out).mono ?_); rintro e6 w6 ⟨v6, rfl, hq6⟩; have hQe := Lib.hid hq6; clear hq6))
    exact hQe.out
theorem homesOf_both (x0 : Int) (x1 : List Int) (_ : (Lit.int .i64 x0).wf = true) (hw1 : ∀ y ∈ x1, (Lit.int .i64 y).wf = true) : ∃ (r0 : List Bool) (r1 : Bool), r0.length ≤ 1048576 ∧
    (∀ (B : Nat) (v1 : Value) (w : World), LstI B w v1 x1 → B ≤ w.heap.size → Calls Try.prog 23 #[.int .i64 x0, v1] w fun e w' => ∃ v', e = .returned (.tuple #[v', .bool r1]) ∧ Lst.Own w.heap.size w'.heap.size w' v' 4 1 r0.length (r0.map Value.bool) ∧ Below w.heap.size w w') ∧
    (∀ (B : Nat) (v1 : Value) (w : World), LstI B w v1 x1 → B ≤ w.heap.size → Calls Try.prog 24 #[.int .i64 x0, v1] w fun e w' => ∃ v', e = .returned (.tuple #[v', .bool r1]) ∧ Lst.Own w.heap.size w'.heap.size w' v' 4 1 r0.length (r0.map Value.bool) ∧ Below w.heap.size w w') := by
  refine ⟨homesL x0 x1, roundsOk x0 x1, ?_, fun B v1 w h hB => specHomes_any B v1 x1 x0 w h hB, fun B v1 w h hB => implHomes_any B v1 x1 x0 w h hB hw1⟩
  unfold homesL
  split
  · rename_i hq
    obtain ⟨t, r, m, _, t1, t2, _, r1, r2, hn, _, _⟩ := rounds_of hq
    have hL2 : r * t ≤ (2 * t - 2) * t := Nat.mul_le_mul_right t r2
    have hL3 : (2 * t - 2) * t ≤ 480 := Nat.mul_le_mul (show 2 * t - 2 ≤ 30 by omega) t2
    rw [homesTo_length]
    omega
  · simp
end Go.Proofs.Ytpmglmpopmppbaa
