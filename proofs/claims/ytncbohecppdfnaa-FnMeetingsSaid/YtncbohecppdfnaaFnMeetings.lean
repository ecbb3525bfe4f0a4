/- Local times lead back, and meetings are within all opening times, at the least minute: the law holds of every input. -/
import Derived.Test.YtncbohecppdfnaaRows
import Derived.Test.YtncbohecppdfnaaNamed
import Derived.Test.YtncbohecppdfnaaMeetSpec
import Derived.Test.YtncbohecppdfnaaFillI
import Derived.ProofKit
import Derived.OpenShut
namespace Go.Proofs.Ytncbohecppdfnaa.fnMeetings
open Go.ChangeShapes Go.WideShapes Go.ChangeAt Go.RowKit Go.Lst

theorem meet_fits {zs : List Int} {o c l : Int} {t : Nat} (h : meetAt zs o c l = some t) : t < 1440 ∧ ∀ z ∈ zs, o ≤ remG (t + z) 1440 ∧ remG (t + z) 1440 + l ≤ c := by
  unfold meetAt at h
  split at h
  · refine ⟨List.mem_range.1 (List.mem_of_find?_eq_some h), fun z hz => ?_⟩
    have h2 := List.find?_some h
    simp only [Bool.not_eq_true'] at h2
    unfold anyClosed at h2
    rw [List.any_eq_false] at h2
    have := h2 z hz
    unfold closedAt at this
    simp only [Bool.or_eq_true, decide_eq_true_eq, not_or] at this
    omega
  · cases h
def capOf : Value → Nat
  | .slice _ _ c => c
  | _ => 0
theorem loc_here (m z : Int) (h1 : -1000000 ≤ m) (h2 : m ≤ 1000000) (h3 : -720 ≤ z) (h4 : z ≤ 840) (w : World) : Calls Try.prog 10 #[.int .i64 m, .int .i64 z] w fun e w' => e = .returned (.tuple #[.int .i64 (locD m z), .int .i64 (locM m z), .bool true]) ∧ Below w.heap.size w w' := by
  have hq : locOk m z = true := by
    unfold locOk
    rw [show inB m (-1000000) 1000000 = true by unfold inB; simp; omega, show inB z (-720) 840 = true by unfold inB; simp; omega]; rfl
  have := implLocalTime_any m z w
  unfold LocIs LocPost at this
  rw [hq] at this
  exact this
set_option maxHeartbeats 8000000 in
set_option maxRecDepth 100000 in
theorem walk (v0 : Value) (x0 : List Int) (hw0 : ∀ y ∈ x0, (Lit.int .u8 y).wf = true) (v1 : Value) (x1 : List Int) (hw1 : ∀ y ∈ x1, (Lit.int .u8 y).wf = true) (W : World) (h0 : Lst W.heap.size W v0 (x0.map (Value.int .u8))) (h1 : Lst W.heap.size W v1 (x1.map (Value.int .u8))) :
    Calls Try.prog 3 #[v0, v1] W fun e w' => e = .returned (.bool true) ∧ Below W.heap.size W w' := by
  have hA0 : Hid (∀ W' (i : Nat), Below W.heap.size W W' → i ≤ 1000 → Calls Try.prog 9 #[v0, .int .i64 i, .int .i64 27] W' fun e w' => e = .returned (.int .i64 (atB x0 i 27)) ∧ W' = w') := Lib.hid fun W' i hb hi => b10At_any W.heap.size v0 x0 i 27 W' (h0.below hb (Nat.le_refl _)) hw0 hi (by omega)
  have hR0 := Lib.hid (fun (i : Nat) => atB_in (bs := x0) i 27 (by omega))
  have hA1 : ∀ W' (i : Nat) n, Below W.heap.size W W' → i ≤ 1000 → n ≤ 1048576 → Calls Try.prog 9 #[v1, .int .i64 i, .int .i64 n] W' fun e w' => e = .returned (.int .i64 (atB x1 i n)) ∧ W' = w' := fun W' i n hb hi hn => b10At_any W.heap.size v1 x1 i n W' (h1.below hb (Nat.le_refl _)) hw1 hi hn
  have C0 : Hid (∀ W', Below W.heap.size W W' → Calls Try.prog 9 #[v1, .int .i64 0, .int .i64 256] W' fun e w' => e = .returned (.int .i64 (atB x1 0 256)) ∧ W' = w') := Lib.hid fun W' hb => hA1 W' 0 256 hb (by omega) (by omega)
  have C1 : Hid (∀ W', Below W.heap.size W W' → Calls Try.prog 9 #[v1, .int .i64 1, .int .i64 256] W' fun e w' => e = .returned (.int .i64 (atB x1 1 256)) ∧ W' = w') := Lib.hid fun W' hb => hA1 W' 1 256 hb (by omega) (by omega)
  have C2 : Hid (∀ W', Below W.heap.size W W' → Calls Try.prog 9 #[v1, .int .i64 2, .int .i64 53] W' fun e w' => e = .returned (.int .i64 (atB x1 2 53)) ∧ W' = w') := Lib.hid fun W' hb => hA1 W' 2 53 hb (by omega) (by omega)
  have C3 : Hid (∀ W', Below W.heap.size W W' → Calls Try.prog 9 #[v1, .int .i64 3, .int .i64 3] W' fun e w' => e = .returned (.int .i64 (atB x1 3 3)) ∧ W' = w') := Lib.hid fun W' hb => hA1 W' 3 3 hb (by omega) (by omega)
  have C4 : Hid (∀ W', Below W.heap.size W W' → Calls Try.prog 9 #[v1, .int .i64 4, .int .i64 10] W' fun e w' => e = .returned (.int .i64 (atB x1 4 10)) ∧ W' = w') := Lib.hid fun W' hb => hA1 W' 4 10 hb (by omega) (by omega)
  have C5 : Hid (∀ W', Below W.heap.size W W' → Calls Try.prog 9 #[v1, .int .i64 5, .int .i64 14] W' fun e w' => e = .returned (.int .i64 (atB x1 5 14)) ∧ W' = w') := Lib.hid fun W' hb => hA1 W' 5 14 hb (by omega) (by omega)
  have C6 : Hid (∀ W', Below W.heap.size W W' → Calls Try.prog 9 #[v1, .int .i64 6, .int .i64 8] W' fun e w' => e = .returned (.int .i64 (atB x1 6 8)) ∧ W' = w') := Lib.hid fun W' hb => hA1 W' 6 8 hb (by omega) (by omega)
  have r0 := atB_in (bs := x1) 0 256 (by omega)
  have r1 := atB_in (bs := x1) 1 256 (by omega)
  have r2 := atB_in (bs := x1) 2 53 (by omega)
  have r3 := atB_in (bs := x1) 3 3 (by omega)
  have r4 := atB_in (bs := x1) 4 10 (by omega)
  have r5 := atB_in (bs := x1) 5 14 (by omega)
  have r6 := atB_in (bs := x1) 6 8 (by omega)
  generalize atB x1 0 256 = c0 at *
  generalize atB x1 1 256 = c1 at *
  generalize atB x1 2 53 = c2 at *
  generalize atB x1 3 3 = c3 at *
  generalize atB x1 4 10 = c4 at *
  generalize atB x1 5 14 = c5 at *
  generalize atB x1 6 8 = c6 at *
  obtain ⟨a0, p0, hv0, hl0, -⟩ := id h0
  obtain ⟨a1, p1, hv1, hl1, -⟩ := id h1
  rw [List.length_map] at hv0 hl0 hv1 hl1
  subst hv0 hv1
  have hLong := Lib.hid (fun w => b10Long_any a0 a1 x0.length x1.length p0 p1 w)
  clear hA1 h0 h1
  cases hbig : (decide (1048576 < x0.length) || decide (1048576 < x1.length))
  rotate_left
  · rw [hbig] at hLong
    generalize x0.length = n0 at *
    generalize x1.length = n1 at *
    go_enter Try.func3, Try.ntmps3
    go_wp2_with (go_at_call 8; (with_reducible refine (hLong.out _).mono ?_); rintro e w' ⟨rfl, rfl⟩)
    go_ret
    exact ⟨rfl, Below.refl _ _⟩
  · rw [hbig] at hLong
    clear hbig
    generalize x0.length = n0 at *
    generalize x1.length = n1 at *
    -- the numbers, each by a name
    obtain ⟨m, hm⟩ : ∃ m, m = 256 * c0 + c1 - 30000 := ⟨_, rfl⟩
    obtain ⟨z, hz⟩ : ∃ z, z = 30 * (c2 - 24) := ⟨_, rfl⟩
    obtain ⟨o, ho⟩ : ∃ o, o = 60 * c4 := ⟨_, rfl⟩
    obtain ⟨cl, hcl⟩ : ∃ cl, cl = o + 60 * (1 + c5) := ⟨_, rfl⟩
    obtain ⟨lg, hlg⟩ : ∃ lg, lg = 15 * (1 + c6) := ⟨_, rfl⟩
    obtain ⟨k1, hk1⟩ : ∃ k1, k1 = 256 * c0 := ⟨_, rfl⟩
    obtain ⟨k2, hk2⟩ : ∃ k2, k2 = k1 + c1 := ⟨_, rfl⟩
    obtain ⟨k3, hk3⟩ : ∃ k3, k3 = c2 - 24 := ⟨_, rfl⟩
    obtain ⟨k5, hk5⟩ : ∃ k5, k5 = 1 + c5 := ⟨_, rfl⟩
    obtain ⟨k6, hk6⟩ : ∃ k6, k6 = 60 * k5 := ⟨_, rfl⟩
    obtain ⟨k7, hk7⟩ : ∃ k7, k7 = 1 + c6 := ⟨_, rfl⟩
    have g1 : IntKind.i64.wrap (256 * c0) = k1 := by rw [hk1]; exact IntWalk.i64_in _ (by omega)
    have g2 : IntKind.i64.wrap (k1 + c1) = k2 := by rw [hk2]; exact IntWalk.i64_in _ (by omega)
    have g3 : IntKind.i64.wrap (k2 - 30000) = m := by rw [show k2 - 30000 = m by omega]; exact IntWalk.i64_in _ (by omega)
    have g4 : IntKind.i64.wrap (c2 - 24) = k3 := by rw [hk3]; exact IntWalk.i64_in _ (by omega)
    have g5 : IntKind.i64.wrap (30 * k3) = z := by rw [show 30 * k3 = z by omega]; exact IntWalk.i64_in _ (by omega)
    have g6 : IntKind.i64.wrap (60 * c4) = o := by rw [ho]; exact IntWalk.i64_in _ (by omega)
    have g7 : IntKind.i64.wrap (1 + c5) = k5 := by rw [hk5]; exact IntWalk.i64_in _ (by omega)
    have g8 : IntKind.i64.wrap (60 * k5) = k6 := by rw [hk6]; exact IntWalk.i64_in _ (by omega)
    have g9 : IntKind.i64.wrap (o + k6) = cl := by rw [show o + k6 = cl by omega]; exact IntWalk.i64_in _ (by omega)
    have g10 : IntKind.i64.wrap (1 + c6) = k7 := by rw [hk7]; exact IntWalk.i64_in _ (by omega)
    have g11 : IntKind.i64.wrap (15 * k7) = lg := by rw [show 15 * k7 = lg by omega]; exact IntWalk.i64_in _ (by omega)
    have bm : -1000000 ≤ m ∧ m ≤ 1000000 := by omega
    have bz : -720 ≤ z ∧ z ≤ 840 := by omega
    have hLoc := Lib.hid (fun w => loc_here m z bm.1 bm.2 bz.1 bz.2 w)
    have hd0 : 1440 * locD m z + locM m z = m + z := by unfold locD locM remG; omega
    have hd1 : 0 ≤ locM m z ∧ locM m z ≤ 1439 := by unfold locM remG; omega
    generalize locD m z = d0 at *
    generalize locM m z = l0 at *
    obtain ⟨s1, hs1⟩ : ∃ s1, s1 = 1440 * d0 := ⟨_, rfl⟩
    obtain ⟨s2, hs2⟩ : ∃ s2, s2 = m + z := ⟨_, rfl⟩
    have g12 : IntKind.i64.wrap (1440 * d0) = s1 := by rw [hs1]; exact IntWalk.i64_in _ (by omega)
    have g13 : IntKind.i64.wrap (s1 + l0) = s2 := by rw [show s1 + l0 = s2 by omega]; exact IntWalk.i64_in _ (by omega)
    have g14 : IntKind.i64.wrap (m + z) = s2 := by rw [hs2]; exact IntWalk.i64_in _ (by omega)
    have t1 : decide (l0 < 0) = false := decide_eq_false (by omega)
    have t2 : decide (1439 < l0) = false := decide_eq_false (by omega)
    have hO := Lib.hid (And.intro (show 0 ≤ o ∧ o ≤ 1439 by omega) (And.intro (show o ≤ cl ∧ cl ≤ 1440 by omega) (show 1 ≤ lg ∧ lg ≤ 1440 by omega)))
    have hC3 : 0 ≤ c3 ∧ c3 < 3 := r3
    clear hm hz ho hcl hlg hk1 hk2 hk3 hk5 hk6 hk7 hs1 hs2 hd0 hd1 r0 r1 r2 r3 r4 r5 r6 bm
    have T0 := Lib.hid (Below.refl W.heap.size W)
    obtain ⟨i0, hi, hz0, hz1, hz2⟩ := info_parts infoNum
    unfold maxLen at hl0 hl1
    go_enter Try.func3, Try.ntmps3
    go_wp2_with (first | (go_at_call 8; (with_reducible refine (hLong.out _).mono ?_); rintro e w' ⟨rfl, rfl⟩) | (go_at_call 9; (with_reducible refine (C0.out _ T0.out).mono ?_); rintro e w' ⟨rfl, rfl⟩) | (go_at_call 9; (with_reducible refine (C1.out _ T0.out).mono ?_); rintro e w' ⟨rfl, rfl⟩) | (go_at_call 9; (with_reducible refine (C2.out _ T0.out).mono ?_); rintro e w' ⟨rfl, rfl⟩) | (go_at_call 10; (with_reducible refine (hLoc.out _).mono ?_); rintro e w2 ⟨rfl, hb⟩; have B2 := Lib.hid hb; clear hb))
    have hS2 := Lib.hid B2.out.size
    have O2 := Lib.hid (show (w2.alloc (.cells #[.int .i64 z] 2)).ownsRow W.heap.size 2 1 (.slice (some ⟨w2.heap.size, 0, none⟩) 1 1) 1 (([z] : List Int).map (Value.int .i64)) from World.ownsRow_lit w2 #[.int .i64 z] 1 hS2.out (by unfold maxLen; omega) rfl)
    have B3 := Lib.hid (B2.out.alloc hS2.out (.cells #[.int .i64 z] 2))
    go_loopw [10, 11] (fun zv iv wr => ∃ (zs : List Int) (i : Nat), i ≤ 3 ∧ (i : Int) ≤ c3 ∧ iv = .int .i64 i ∧ Hid (zs.length = i + 1 ∧ ∀ x ∈ zs, -720 ≤ x ∧ x ≤ 840) ∧ Hid (wr.ownsRow W.heap.size 2 1 zv (i + 1) (zs.map (Value.int .i64))) ∧ Hid (Below W.heap.size W wr)) (fun _ iv _ => 3 - (intOf iv).toNat)
    case atStart => exact ⟨[z], 0, by omega, by omega, rfl, Lib.hid ⟨rfl, fun x hx => by rw [List.mem_singleton.1 hx]; exact bz⟩, O2, B3⟩
    case round =>
      clear O2 B3 B2 hS2
      obtain ⟨zs, i, hi3, hic, rfl, hZ, hO1, hBw⟩ := hrel
      have hsz := Lib.hid hBw.out.size
      by_cases hlt : (i : Int) < c3
      · have hY := hR0.out i
        have hC := Lib.hid (hA0.out wr i hBw.out (by omega))
        have hC3' := Lib.hid (C3.out wr hBw.out)
        generalize atB x0 i 27 = y at *
        obtain ⟨f1, hf1⟩ : ∃ f1, f1 = y - 12 := ⟨_, rfl⟩
        obtain ⟨f2, hf2⟩ : ∃ f2, f2 = 60 * f1 := ⟨_, rfl⟩
        have e1 : IntKind.i64.wrap (y - 12) = f1 := by rw [hf1]; exact IntWalk.i64_in _ (by omega)
        have e2 : IntKind.i64.wrap (60 * f1) = f2 := by rw [hf2]; exact IntWalk.i64_in _ (by omega)
        have hZ2 : Hid ((zs ++ [f2]).length = i + 1 + 1 ∧ ∀ x ∈ zs ++ [f2], -720 ≤ x ∧ x ≤ 840) := Lib.hid ⟨by rw [List.length_append, hZ.out.1]; rfl, fun x hx => by
          rcases List.mem_append.1 hx with hx | hx
          · exact hZ.out.2 x hx
          · rw [List.mem_singleton.1 hx]; omega⟩
        have hi4 := Lib.hid hlt
        clear hf1 hf2 hZ
        go_wp2_with (first | (go_at_call 9; (with_reducible refine (hC3'.out).mono ?_); rintro e w' ⟨rfl, rfl⟩) | (go_at_call 9; (with_reducible refine (hC.out).mono ?_); rintro e w' ⟨rfl, rfl⟩) | (at_builtin; refine wpList_append_own _ rfl _ _ _ rfl W.heap.size 2 i0 (.int .i64 0) 1 8 Try.underlying27 hi hz0 hz1 hz2 rfl (by decide) _ (i + 1) _ rfl (hO1.out.alloc _) ⟨wr.heap.size, 0, none⟩ 1 1 [.int .i64 f2] rfl rfl (newsN wr _ _) (one_int _) (by unfold maxLen; omega) (by omega) (by rw [World.size_alloc]; have := hsz.out; omega) ?_; intro v8 w8 hown8 hgrow8 hnil8; have hB8 := Lib.hid ((hBw.out.alloc hsz.out (.cells #[.int .i64 f2] 2)).grown hgrow8 (by rw [World.size_alloc]; have := hsz.out; omega) (fun g hg => (hO1.out.lt g hg).1)); have hO8 := Lib.hid (show w8.ownsRow W.heap.size 2 1 v8 (i + 1 + 1) ((zs ++ [f2]).map (Value.int .i64)) by rw [List.map_append]; exact hown8); clear hown8 hgrow8 hnil8))
        go_roundw
        case rel => exact ⟨zs ++ [f2], i + 1, by have := hi4.out; omega, by have := hi4.out; omega, by go_num, hZ2, hO8, hB8⟩
        case measure => simp [intOf]; have := hi4.out; omega
      · have hC3' := Lib.hid (C3.out wr hBw.out)
        have hC4 := Lib.hid (C4.out wr hBw.out)
        have hC5 := Lib.hid (C5.out wr hBw.out)
        have hC6 := Lib.hid (C6.out wr hBw.out)
        have hlt2 : decide ((i : Int) < c3) = false := decide_eq_false hlt
        have hLs : LstI wr.heap.size wr u10 zs := by
          have h2 : Lst.Own W.heap.size wr.heap.size wr u10 2 1 zs.length (zs.map (Value.int .i64)) := by rw [hZ.out.1]; exact Lst.Own.new hO1.out (by unfold maxLen; omega)
          exact h2.lstI (Nat.le_refl _)
        have hM1 := Lib.hid (implMeetingTime_any wr.heap.size _ zs o cl lg wr hLs (Nat.le_refl _))
        have hM2 := Lib.hid (fun W' (hb : Below wr.heap.size wr W') => specMeetingTime_any wr.heap.size u10 zs o cl lg W' (hLs.below hb (Nat.le_refl _)))
        have hZc : Hid (∀ W' j, Below wr.heap.size wr W' → j < i + 1 → ∃ g x, u10 = .slice (some ⟨g, 0, none⟩) (i + 1) (capOf u10) ∧ W'.cell? ⟨g, j, none⟩ = some (.int .i64 x) ∧ x ∈ zs) := Lib.hid fun W' j hb hj => by
          have hl := hO1.out.lt
          rcases hO1.out.2 with ⟨_, h0⟩ | ⟨g, c, cur, hv, hA, _, _, _, _⟩
          · omega
          · have hg := (hl g (by rw [hv]; rfl)).2
            have ho := hO1.out
            rw [hv] at ho
            refine ⟨g, zs[j]'(by rw [hZ.out.1]; exact hj), by rw [hv]; rfl, ?_, List.getElem_mem _⟩
            rw [hb.cell (p := ⟨g, j, none⟩) hg, ho.cellAt j (by omega), List.getElem?_map, List.getElem?_eq_getElem (by rw [hZ.out.1]; exact hj)]; rfl
        obtain ⟨av, cv, hu⟩ : ∃ a c, u10 = Value.slice a (i + 1) c := by
          rcases hO1.out.2 with ⟨hv, h0⟩ | ⟨g, c, cur, hv, _⟩
          · omega
          · exact ⟨_, _, hv⟩
        subst hu
        unfold MeetIs NumPost at hM1 hM2
        cases hmt : meetAt zs o cl lg with
        | none =>
          rw [hmt] at hM1 hM2
          clear hZc hmt hLs
          go_wp2_with (first | (go_at_call 9; (with_reducible refine (hC3'.out).mono ?_); rintro e w' ⟨rfl, rfl⟩) | (go_at_call 9; (with_reducible refine (hC4.out).mono ?_); rintro e w' ⟨rfl, rfl⟩) | (go_at_call 9; (with_reducible refine (hC5.out).mono ?_); rintro e w' ⟨rfl, rfl⟩) | (go_at_call 9; (with_reducible refine (hC6.out).mono ?_); rintro e w' ⟨rfl, rfl⟩) | (go_at_call 11; (with_reducible refine (hM1.out).mono ?_); rintro e w5 ⟨rfl, hb⟩; have B5 := Lib.hid hb; clear hb) | (go_at_call 12; (with_reducible refine (hM2.out _ B5.out).mono ?_); rintro e w6 ⟨rfl, hb⟩; have B6 := Lib.hid (below_on B5.out (Nat.le_refl _) hb); clear hb))
          go_ret
          exact ⟨rfl, below_on hBw.out (Nat.le_refl _) B6.out⟩
        | some t =>
          rw [hmt] at hM1 hM2
          obtain ⟨ht, hfit⟩ := meet_fits hmt
          have hFit := Lib.hid hfit
          clear hmt hLs hfit
          have hOb := hO.out
          go_wp2_with (first | (go_at_call 9; (with_reducible refine (hC3'.out).mono ?_); rintro e w' ⟨rfl, rfl⟩) | (go_at_call 9; (with_reducible refine (hC4.out).mono ?_); rintro e w' ⟨rfl, rfl⟩) | (go_at_call 9; (with_reducible refine (hC5.out).mono ?_); rintro e w' ⟨rfl, rfl⟩) | (go_at_call 9; (with_reducible refine (hC6.out).mono ?_); rintro e w' ⟨rfl, rfl⟩) | (go_at_call 11; (with_reducible refine (hM1.out).mono ?_); rintro e w5 ⟨rfl, hb⟩; have B5 := Lib.hid hb; clear hb) | (go_at_call 12; (with_reducible refine (hM2.out _ B5.out).mono ?_); rintro e w6 ⟨rfl, hb⟩; have B6 := Lib.hid (below_on B5.out (Nat.le_refl _) hb); clear hb))
          generalize wr = wo at *
          go_loopw [116] (fun jv wr => ∃ j : Nat, j ≤ i + 1 ∧ jv = .int .i64 j ∧ Hid (Below wo.heap.size wo wr)) (fun jv _ => i + 1 - (intOf jv).toNat)
          case atStart => exact ⟨0, by omega, rfl, B6⟩
          case round =>
            obtain ⟨j, hj, rfl, hBj⟩ := hrel
            by_cases hlj : j < i + 1
            · obtain ⟨g, x, hu, hcell, hx⟩ := hZc.out wr j hBj.out hlj
              injection hu with hu1 hu2 hu3
              subst hu1
              have hxb := hZ.out.2 x hx
              obtain ⟨f1, f2⟩ := hFit.out x hx
              have hL := Lib.hid (loc_here (t : Int) x (by omega) (by omega) hxb.1 hxb.2 wr)
              have hr : 0 ≤ remG (t + x) 1440 ∧ remG (t + x) 1440 < 1440 := remG_in (by omega)
              unfold locM at hL
              generalize remG (t + x) 1440 = rr at *
              generalize locD t x = dd at *
              have e1 : IntKind.i64.wrap (rr + lg) = rr + lg := IntWalk.i64_in _ (by omega)
              have q1 : decide (rr < o) = false := decide_eq_false (by omega)
              have q2 : decide (cl < rr + lg) = false := decide_eq_false (by omega)
              have hd : (j : Int) < ((i + 1 : Nat) : Int) := by omega
              have hlj2 := Lib.hid hlj
              clear hu3 hx f1 f2
              have hdA : (j : Int) < (i : Int) + 1 := by omega
              have hdB : decide ((j : Int) < (i : Int) + 1) = true := decide_eq_true hdA
              clear hlj
              go_wp2_with (go_at_call 10; (with_reducible refine (hL.out).mono ?_); rintro e w7 ⟨rfl, hb⟩; have B7 := Lib.hid (below_on hBj.out (Nat.le_refl _) hb); clear hb)
              go_roundw
              case rel => exact ⟨j + 1, by have := hlj2.out; omega, by go_num, B7⟩
              case measure => simp [intOf]; have := hlj2.out; omega
            · have hd : ¬ (j : Int) < ((i + 1 : Nat) : Int) := by omega
              have hd2 : decide ((j : Int) < ((i + 1 : Nat) : Int)) = false := decide_eq_false hd
              have hdA : ¬ (j : Int) < (i : Int) + 1 := by omega
              have hdB : decide ((j : Int) < (i : Int) + 1) = false := decide_eq_false hdA
              go_wp2_with fail
              go_ret
              exact ⟨by simp, below_on hBw.out (Nat.le_refl _) hBj.out⟩
theorem own : ownKnob Try.prog.godebug = none := by kernel_rfl
theorem laid : laidOutB Try.prog = true := by kernel_rfl
theorem cells0 : Try.prog.cellsOf 5 = 1 := by kernel_rfl
theorem cells1 : Try.prog.cellsOf 5 = 1 := by kernel_rfl

set_option maxRecDepth 100000 in
theorem contract (H : Type) (enc : TypeId × Value → H) (W : World) (base : Nat) (args : Array Value) (ds gs : List (DataW H)) (before : List MemPlace)
    (hval : ∀ (j : Nat) t v, Try.f3.params[j]? = some t → args[j]? = some v → Value.okWide Try.prog W .any base t v)
    (hW : DataW.Whole enc Try.prog Try.f3.params.toList Rows.fnMeetingsSpec.vars false W args.toList ds gs before) :
    Calls Try.prog 3 args W fun e W' => ∃ v, e = .returned v ∧ Rows.fnMeetingsSpec.post enc Try.prog Try.f3 false true false false W args v W' := by
  have hW' := hW
  have hlt : ∀ x ∈ before, x.block < W.heap.size := fun x hx => hW'.lt x hx
  obtain ⟨p, q, hA0, hV, rfl, hfz, hnd⟩ := hW
  have hA : DataW.TrodAll enc Try.prog W 0 (fun _ => true) true Try.f3.params.toList args.toList ds p := hA0
  rw [Try.params3] at hA hval
  obtain ⟨v0, vs0, d0, ds0, p0, q0, hargs, rfl, rfl, h0, r0⟩ := trodAll_cons hA
  obtain ⟨v1, vs1, d1, ds1, p1, q1, rfl, rfl, rfl, h1, r1⟩ := trodAll_cons r0
  obtain ⟨rfl, rfl, rfl⟩ := trodAll_nil r1
  obtain rfl : args = #[v0, v1] := by first | exact Array.ext' (by exact hargs) | (cases args; simp_all)
  obtain ⟨rfl, rfl⟩ := trodVars_none hV
  clear hA0
  have k0 := h0
  have k1 := h1
  obtain ⟨a0, L0, w0⟩ := Go.Lst.open_ints Try.underlying22 Try.underlying5 cells0 (hval 0 22 v0 rfl rfl) h0
  obtain ⟨a1, L1, w1⟩ := Go.Lst.open_ints Try.underlying22 Try.underlying5 cells1 (hval 1 22 v1 rfl rfl) h1
  simp only [List.append_nil] at hW' hlt
  refine (walk v0 a0 w0 v1 a1 w1 W L0 L1).mono fun e W' ⟨he, hb⟩ => ?_
  subst he
  exact ⟨_, rfl, Go.Lst.post_new (pv := []) hW' (fun _ _ _ => (trodAll_cons_mk (shut_bool Try.underlying4 _) trodAll_mk0)) (fun sp hsp => (trodAll_cons_mk (WideElems.Trod_stays laid (by kernel_rfl) (of_decide_eq_true (by kernel_rfl)) k0 (fun x hx => hb.same (hlt x (by simp [hx]))) (fun x hx => hsp x (by simp [hx]))) (trodAll_cons_mk (WideElems.Trod_stays laid (by kernel_rfl) (of_decide_eq_true (by kernel_rfl)) k1 (fun x hx => hb.same (hlt x (by simp [hx]))) (fun x hx => hsp x (by simp [hx]))) trodAll_mk0))) (fun _ _ => rfl) (by simp)
    hb (ok_one (by kernel_rfl) rfl (okWide_bool_mk Try.underlying4 _))⟩

set_option maxRecDepth 100000 in
theorem lifted (os : Os) (started : os.Started) (H : Type) (enc : TypeId × Value → H) :
    ReturnsInHanded {} Try.checked os 3 .any (Rows.fnMeetingsSpec.pre6 enc Try.prog Try.f3 Rows.fnMeetingsRow.domain false) (Rows.fnMeetingsSpec.post enc Try.prog Try.f3 false true false false) := by
  refine returnsInHanded_of_change (C := Try.checked) own started (by kernel_rfl) Try.func3
    (ChangeSpec.witness6 (enc := enc) (C := Try.checked) false ⟨#[], #[.slice none 0 0, .slice none 0 0], []⟩ 8 (by kernel_rfl) (by kernel_rfl) (by kernel_rfl) (by kernel_rfl)) ?_
  intro W base args ds gs before hval hW _ _
  exact contract H enc W base args ds gs before hval hW

set_option maxRecDepth 100000 in
theorem proved : Rows.FnMeetingsSaid :=
  OpenClaim.holds_of_wide 3 Try.f3 rfl rfl rfl rfl rfl rfl rfl ⟨rfl, rfl, rfl, rfl, rfl⟩ rfl rfl rfl rfl rfl (by kernel_rfl) Try.func3 (by kernel_rfl)
    (of_decide_eq_true (by kernel_rfl)) (by unfold Func.isWrapper; first | (rw [if_pos (by decide +kernel)]; kernel_rfl) | (rw [if_neg (by decide +kernel)]; exact ⟨rfl, rfl⟩))
    (fun os started H enc _ => lifted os started H enc)
end Go.Proofs.Ytncbohecppdfnaa.fnMeetings
