/- Contracts: a text is a shift of a rule, the model's. -/
import Derived.Test.YtcpfiledegnlpaaShiftSpec
import Derived.Deep.RegionHeld3
namespace Go.Proofs.Ytcpfiledegnlpaa
open Go.RowKit Go.Lst

theorem whole_three {w : World} {g : Nat} (n0 n1 n2 : Int) {t : TypeId} {c0 c1 c2 : Value} (h : Whole w g t #[c0, c1, c2]) : Whole (((w.setCell ⟨g, 0, none⟩ (.int .i64 n0)).setCell ⟨g, 1, none⟩ (.int .i64 n1)).setCell ⟨g, 2, none⟩ (.int .i64 n2)) g t #[.int .i64 n0, .int .i64 n1, .int .i64 n2] :=
  ((h.put 0 (.int .i64 n0)).put 1 (.int .i64 n1)).put 2 (.int .i64 n2)
set_option maxHeartbeats 8000000 in
set_option maxRecDepth 100000 in
theorem l06Shift_any (B : Nat) (b o : Nat) (r : ShiftRuleD) (s : ByteArray) (hr : okRule r = true) (hs : s.size ≤ 9223372036854775807) (w : World) (hbB : b < w.heap.size) (h0 : w.cell? ⟨b, o, none⟩ = some (.int .i64 r.Slots)) (h1 : w.cell? ⟨b, o + 1, none⟩ = some (.int .i64 r.Least)) (h2 : w.cell? ⟨b, o + 2, none⟩ = some (.int .i64 r.Most)) (h3 : w.cell? ⟨b, o + 3, none⟩ = some (.int .i64 r.Row)) (h4 : w.cell? ⟨b, o + 4, none⟩ = some (.int .i64 r.Pause)) :
    Calls Try.prog 65 #[.pointer (some ⟨b, o, none⟩), .string s] w fun e w' => e = .returned (.bool (shiftB r s)) ∧ Below w.heap.size w w' := by
  have hR := okRule_of hr
  have hQ : Hid (∀ q w', shiftB r s = q → Below w.heap.size w w' → (fun (e : Ending) (w' : World) => e = .returned (.bool (shiftB r s)) ∧ Below w.heap.size w w') (.returned (.bool q)) w') := Lib.hid fun q w' h hb => ⟨by rw [h], hb⟩
  have hSz : Hid (¬ (s.size : Int) = r.Slots → shiftB r s = false) := Lib.hid fun h => shiftB_size h
  have hNone : Hid (∀ k, k ≤ s.size → runP r s k = none → shiftB r s = false) := Lib.hid fun k hk h => shiftB_none h hk
  have hSome : Hid (∀ p, (s.size : Int) = r.Slots → runP r s s.size = some p → shiftB r s = decide (r.Least ≤ p.worked)) := Lib.hid fun p h hp => by rw [shiftB_some hp, decide_eq_true h, Bool.true_and]
  generalize (fun (e : Ending) (w' : World) => e = .returned (.bool (shiftB r s)) ∧ Below w.heap.size w w') = Q at *
  have hC0 : Hid (∀ w', Below w.heap.size w w' → w'.cell? ⟨b, o, none⟩ = some (.int .i64 r.Slots) ∧ w'.cell? ⟨b, o + 1, none⟩ = some (.int .i64 r.Least) ∧ w'.cell? ⟨b, o + 2, none⟩ = some (.int .i64 r.Most) ∧ w'.cell? ⟨b, o + 3, none⟩ = some (.int .i64 r.Row) ∧ w'.cell? ⟨b, o + 4, none⟩ = some (.int .i64 r.Pause)) := Lib.hid fun w' hb => ⟨(hb.cell (p := ⟨b, o, none⟩) hbB).trans h0, (hb.cell (p := ⟨b, o + 1, none⟩) hbB).trans h1, (hb.cell (p := ⟨b, o + 2, none⟩) hbB).trans h2, (hb.cell (p := ⟨b, o + 3, none⟩) hbB).trans h3, (hb.cell (p := ⟨b, o + 4, none⟩) hbB).trans h4⟩
  clear h1 h2 h3 h4
  have hSt := Lib.hid (fun w' => l06Start_any w')
  unfold startP at hSt
  by_cases hz : (s.size : Int) = r.Slots
  case neg =>
    have hbne : ((s.size : Int) != r.Slots) = true := by rw [bne_iff_ne]; exact hz
    have hE := hSz.out hz
    generalize r.Slots = rs at *
    go_enter Try.func65, Try.ntmps65
    go_wp2_with fail
    first | refine hQ.out _ _ hE ?_ | (go_ret2; refine hQ.out _ _ hE ?_)
    exact by repeat (first | exact Below.refl _ _ | refine below_alloc ?_ _ | refine below_drew ?_ _ | refine Below.drew ?_ | refine Below.setCell ?_ (by simp) _)
  have hbne : ((s.size : Int) != r.Slots) = false := by rw [bne_eq_false_iff_eq]; exact hz
  have hRun0 : Hid (runP r s 0 = some startP) := Lib.hid rfl
  go_enter Try.func65, Try.ntmps65
  go_wp2_with (go_at_call 80; (with_reducible refine (hSt.out _).mono ?_); rintro e w1 ⟨rfl, hb1⟩; have hB1 := Lib.hid hb1; clear hb1)
  have hS0 := Lib.hid ((hB1.out.alloc hB1.out.size (.cells #[.int .i64 0, .int .i64 0, .int .i64 (-1)] 95)))
  have hT0 : Hid (Whole (w1.alloc (.cells #[.int .i64 0, .int .i64 0, .int .i64 (-1)] 95)) w1.heap.size 95 startP.cells) := Lib.hid (Whole.made w1 95 _ rfl)
  have hgw := hB1.out.size
  generalize w1.alloc (.cells #[.int .i64 0, .int .i64 0, .int .i64 (-1)] 95) = WI at *
  generalize w1.heap.size = g at *
  clear hSt hB1
  go_loopw [6] (fun iv wr => ∃ (k : Nat) (p : PlaceD), k ≤ s.size ∧ iv = .int .i64 k ∧ Hid (runP r s k = some p) ∧ Hid (Whole wr g 95 p.cells) ∧ Hid (Below w.heap.size w wr)) (fun iv _ => s.size - (intOf iv).toNat)
  case atStart => exact ⟨0, _, Nat.zero_le _, rfl, hRun0, hT0, hS0⟩
  case round =>
    clear hRun0 hT0 hS0
    obtain ⟨k, p, hk, rfl, hRun, hT, hB⟩ := hrel
    have hg := runP_good hRun.out
    obtain ⟨p0, p1, p2⟩ := p
    unfold PlaceD.cells at hT
    unfold Good at hg
    simp only at hg hT
    have c0 := hT.out.at_ (i := 0) rfl
    have c1 := hT.out.at_ (i := 1) rfl
    have c2 := hT.out.at_ (i := 2) rfl
    by_cases hlt : k < s.size
    · have hgd := byte_getD s k hlt
      by_cases h119 : (s[k]'hlt).toNat = 119
      · have hr119 : (s.data.toList.getD k 0).toNat = 119 := by rw [hgd]; exact h119
        have b1 : (((s[k]'hlt).toNat : Int) != 119) = false := by rw [h119]; rfl
        have e1 : (((s[k]'hlt).toNat : Int) == 119) = true := by rw [h119]; rfl
        clear h119
        cases hm : mayWork r ⟨p0, p1, p2⟩
        · obtain ⟨⟨n0, n1, n2⟩, hgp⟩ : ∃ q : PlaceD, goesP r ⟨p0, p1, p2⟩ = q := ⟨_, rfl⟩
          have hRun2 := Lib.hid (runP_not hRun.out hr119 hm)
          have hCall : Hid (∀ W, Below w.heap.size w W → Calls Try.prog 81 #[.pointer (some ⟨b, o, none⟩), .agg #[.int .i64 p0, .int .i64 p1, .int .i64 p2], .bool true] W fun e w' => e = .returned (.tuple #[.agg #[.int .i64 n0, .int .i64 n1, .int .i64 n2], .bool false]) ∧ Below W.heap.size W w') := Lib.hid fun W hW => by
            obtain ⟨-, -, d2, d3, d4⟩ := hC0.out W hW
            have hh := goes_work b o r ⟨p0, p1, p2⟩ W d2 d3 d4 (Nat.lt_of_lt_of_le hbB hW.size) (by simp only; omega) (by simp only; omega)
            rw [hm] at hh
            rw [hgp] at hh
            exact hh
          clear hgd
          go_wp2_with fail
          have hS0 : Hid (∀ w' : World, Below wr.heap.size wr w' → (w'.cell? ⟨g, 0, none⟩ = some (.int .i64 p0) ∧ w'.cell? ⟨g, 1, none⟩ = some (.int .i64 p1) ∧ w'.cell? ⟨g, 2, none⟩ = some (.int .i64 p2)) ∧ Below wr.heap.size wr w') := Lib.hid fun w' hb => ⟨⟨(hT.out.kept hb).at_ (i := 0) rfl, (hT.out.kept hb).at_ (i := 1) rfl, (hT.out.kept hb).at_ (i := 2) rfl⟩, hb⟩
          have hR0 := Below.refl wr.heap.size wr
          have hgs := hT.out.size
          go_region_held3 (fun w' => (w'.cell? ⟨g, 0, none⟩ = some (.int .i64 p0) ∧ w'.cell? ⟨g, 1, none⟩ = some (.int .i64 p1) ∧ w'.cell? ⟨g, 2, none⟩ = some (.int .i64 p2)) ∧ Below wr.heap.size wr w') ((first | exact hS0.out _ hR0 | exact hS0.out _ hR0.drew | exact hS0.out _ hB8.out | exact hS0.out _ hB8.out.drew | exact hS0.out _ (below_alloc hR0 _) | exact hS0.out _ (below_alloc hR0.drew _) | exact hS0.out _ (below_alloc hR0 _).drew | exact hS0.out _ (hB8.out.alloc hB8.out.size _) | exact hS0.out _ (hB8.out.drew.alloc hB8.out.size _) | exact hS0.out _ (((hB8.out.setCell (p := ⟨wr.heap.size, 0, none⟩) (Nat.le_refl _) _).setCell (p := ⟨wr.heap.size, 1, none⟩) (Nat.le_refl _) _).setCell (p := ⟨wr.heap.size, 2, none⟩) (Nat.le_refl _) _))) ((go_at_call 81; refine (hCall.out _ (by first | exact hB.out | exact hB.out.drew | exact hB.out.alloc hB.out.size _ | exact hB.out.drew.alloc hB.out.size _ | exact (hB.out.alloc hB.out.size _).drew)).mono ?_; rintro e w8 ⟨rfl, hb8⟩; have hB8 := Lib.hid (show Below wr.heap.size wr w8 from by first | exact hb8 | exact below_on hR0 (Nat.le_refl _) hb8 | exact below_on hR0.drew (Nat.le_refl _) hb8 | exact below_on (below_alloc hR0 _) (Nat.le_refl _) hb8 | exact below_on (below_alloc hR0.drew _) (Nat.le_refl _) hb8 | exact below_on (below_alloc hR0 _).drew (Nat.le_refl _) hb8); (first | (have hO8 : Whole w8 wr.heap.size 95 #[.int .i64 0, .int .i64 0, .int .i64 0] := (by first | exact (Whole.made wr 95 _ rfl).kept hb8 | exact Whole.kept (w := (wr.alloc (.cells _ 95)).drew) (Whole.made wr 95 _ rfl) hb8 | exact Whole.kept (w := wr.drew.alloc (.cells _ 95)) (Whole.made wr.drew 95 _ rfl) hb8); have q0 := hO8.at_ (i := 0) rfl; have q1 := hO8.at_ (i := 1) rfl; have q2 := hO8.at_ (i := 2) rfl; have z0 := hO8.free 0; have z1 := hO8.free 1; have z2 := hO8.free 2) | skip)))
          all_goals first
            | (have hX0 := Lib.hid (whole_three n0 n1 n2 hO8)
               have hT3 := Lib.hid ((((hT.out.kept hB8.out).apart (p := ⟨wr.heap.size, 0, none⟩) (Nat.ne_of_lt hgs) (.int .i64 n0)).apart (p := ⟨wr.heap.size, 1, none⟩) (Nat.ne_of_lt hgs) (.int .i64 n1)).apart (p := ⟨wr.heap.size, 2, none⟩) (Nat.ne_of_lt hgs) (.int .i64 n2))
               have hB3 := Lib.hid (below_on hB.out (Nat.le_refl _) (((hB8.out.setCell (p := ⟨wr.heap.size, 0, none⟩) (Nat.le_refl _) (.int .i64 n0)).setCell (p := ⟨wr.heap.size, 1, none⟩) (Nat.le_refl _) (.int .i64 n1)).setCell (p := ⟨wr.heap.size, 2, none⟩) (Nat.le_refl _) (.int .i64 n2)))
               clear hb8 hB8 hO8 q0 q1 q2 z0 z1 z2 hS0 hR0 hgs hT hB hCall c0 c1 c2
               generalize ((w8.setCell ⟨wr.heap.size, 0, none⟩ (.int .i64 n0)).setCell ⟨wr.heap.size, 1, none⟩ (.int .i64 n1)).setCell ⟨wr.heap.size, 2, none⟩ (.int .i64 n2) = W at *
               generalize wr.heap.size = h at *)
            | (have hX0 := Lib.hid (Whole.made w8 95 #[.int .i64 n0, .int .i64 n1, .int .i64 n2] (b := w8.heap.size) rfl)
               have hT3 := Lib.hid ((hT.out.kept hB8.out).more (.cells #[.int .i64 n0, .int .i64 n1, .int .i64 n2] 95))
               have hB3 := Lib.hid (below_on hB.out (Nat.le_refl _) (hB8.out.alloc hB8.out.size (.cells #[.int .i64 n0, .int .i64 n1, .int .i64 n2] 95)))
               clear hb8 hB8 hS0 hR0 hgs hT hB hCall c0 c1 c2
               generalize w8.alloc _ = W at *
               generalize w8.heap.size = h at *)
          all_goals
            have x0 := hX0.out.at_ (i := 0) rfl
            have x1 := hX0.out.at_ (i := 1) rfl
            have x2 := hX0.out.at_ (i := 2) rfl
            have q0 := hT3.out.at_ (i := 0) rfl
            have q1 := hT3.out.at_ (i := 1) rfl
            have q2 := hT3.out.at_ (i := 2) rfl
            have z0 := hT3.out.free 0
            have z1 := hT3.out.free 1
            have z2 := hT3.out.free 2
            go_wp2_with fail
            first | refine hQ.out _ _ (hNone.out (k + 1) (by omega) hRun2.out) ?_ | (go_ret2; refine hQ.out _ _ (hNone.out (k + 1) (by omega) hRun2.out) ?_)
            exact hB3.out
        · have hgp0 : goesP r ⟨p0, p1, p2⟩ = workPlace ⟨p0, p1, p2⟩ := by unfold goesP; rw [if_pos]; unfold mayWork at hm; simp only [Bool.and_eq_true] at hm; exact hm.1
          obtain ⟨⟨n0, n1, n2⟩, hgp⟩ : ∃ q : PlaceD, workPlace ⟨p0, p1, p2⟩ = q := ⟨_, rfl⟩
          have hRun2 := Lib.hid (hgp ▸ runP_work hRun.out hr119 hm)
          have hCall : Hid (∀ W, Below w.heap.size w W → Calls Try.prog 81 #[.pointer (some ⟨b, o, none⟩), .agg #[.int .i64 p0, .int .i64 p1, .int .i64 p2], .bool true] W fun e w' => e = .returned (.tuple #[.agg #[.int .i64 n0, .int .i64 n1, .int .i64 n2], .bool true]) ∧ Below W.heap.size W w') := Lib.hid fun W hW => by
            obtain ⟨-, -, d2, d3, d4⟩ := hC0.out W hW
            have hh := goes_work b o r ⟨p0, p1, p2⟩ W d2 d3 d4 (Nat.lt_of_lt_of_le hbB hW.size) (by simp only; omega) (by simp only; omega)
            rw [hm] at hh
            rw [hgp0, hgp] at hh
            exact hh
          clear hgd
          go_wp2_with fail
          have hS0 : Hid (∀ w' : World, Below wr.heap.size wr w' → (w'.cell? ⟨g, 0, none⟩ = some (.int .i64 p0) ∧ w'.cell? ⟨g, 1, none⟩ = some (.int .i64 p1) ∧ w'.cell? ⟨g, 2, none⟩ = some (.int .i64 p2)) ∧ Below wr.heap.size wr w') := Lib.hid fun w' hb => ⟨⟨(hT.out.kept hb).at_ (i := 0) rfl, (hT.out.kept hb).at_ (i := 1) rfl, (hT.out.kept hb).at_ (i := 2) rfl⟩, hb⟩
          have hR0 := Below.refl wr.heap.size wr
          have hgs := hT.out.size
          go_region_held3 (fun w' => (w'.cell? ⟨g, 0, none⟩ = some (.int .i64 p0) ∧ w'.cell? ⟨g, 1, none⟩ = some (.int .i64 p1) ∧ w'.cell? ⟨g, 2, none⟩ = some (.int .i64 p2)) ∧ Below wr.heap.size wr w') ((first | exact hS0.out _ hR0 | exact hS0.out _ hR0.drew | exact hS0.out _ hB8.out | exact hS0.out _ hB8.out.drew | exact hS0.out _ (below_alloc hR0 _) | exact hS0.out _ (below_alloc hR0.drew _) | exact hS0.out _ (below_alloc hR0 _).drew | exact hS0.out _ (hB8.out.alloc hB8.out.size _) | exact hS0.out _ (hB8.out.drew.alloc hB8.out.size _) | exact hS0.out _ (((hB8.out.setCell (p := ⟨wr.heap.size, 0, none⟩) (Nat.le_refl _) _).setCell (p := ⟨wr.heap.size, 1, none⟩) (Nat.le_refl _) _).setCell (p := ⟨wr.heap.size, 2, none⟩) (Nat.le_refl _) _))) ((go_at_call 81; refine (hCall.out _ (by first | exact hB.out | exact hB.out.drew | exact hB.out.alloc hB.out.size _ | exact hB.out.drew.alloc hB.out.size _ | exact (hB.out.alloc hB.out.size _).drew)).mono ?_; rintro e w8 ⟨rfl, hb8⟩; have hB8 := Lib.hid (show Below wr.heap.size wr w8 from by first | exact hb8 | exact below_on hR0 (Nat.le_refl _) hb8 | exact below_on hR0.drew (Nat.le_refl _) hb8 | exact below_on (below_alloc hR0 _) (Nat.le_refl _) hb8 | exact below_on (below_alloc hR0.drew _) (Nat.le_refl _) hb8 | exact below_on (below_alloc hR0 _).drew (Nat.le_refl _) hb8); (first | (have hO8 : Whole w8 wr.heap.size 95 #[.int .i64 0, .int .i64 0, .int .i64 0] := (by first | exact (Whole.made wr 95 _ rfl).kept hb8 | exact Whole.kept (w := (wr.alloc (.cells _ 95)).drew) (Whole.made wr 95 _ rfl) hb8 | exact Whole.kept (w := wr.drew.alloc (.cells _ 95)) (Whole.made wr.drew 95 _ rfl) hb8); have q0 := hO8.at_ (i := 0) rfl; have q1 := hO8.at_ (i := 1) rfl; have q2 := hO8.at_ (i := 2) rfl; have z0 := hO8.free 0; have z1 := hO8.free 1; have z2 := hO8.free 2) | skip)))
          all_goals first
            | (have hX0 := Lib.hid (whole_three n0 n1 n2 hO8)
               have hT3 := Lib.hid ((((hT.out.kept hB8.out).apart (p := ⟨wr.heap.size, 0, none⟩) (Nat.ne_of_lt hgs) (.int .i64 n0)).apart (p := ⟨wr.heap.size, 1, none⟩) (Nat.ne_of_lt hgs) (.int .i64 n1)).apart (p := ⟨wr.heap.size, 2, none⟩) (Nat.ne_of_lt hgs) (.int .i64 n2))
               have hB3 := Lib.hid (below_on hB.out (Nat.le_refl _) (((hB8.out.setCell (p := ⟨wr.heap.size, 0, none⟩) (Nat.le_refl _) (.int .i64 n0)).setCell (p := ⟨wr.heap.size, 1, none⟩) (Nat.le_refl _) (.int .i64 n1)).setCell (p := ⟨wr.heap.size, 2, none⟩) (Nat.le_refl _) (.int .i64 n2)))
               clear hb8 hB8 hO8 q0 q1 q2 z0 z1 z2 hS0 hR0 hgs hT hB hCall c0 c1 c2
               generalize ((w8.setCell ⟨wr.heap.size, 0, none⟩ (.int .i64 n0)).setCell ⟨wr.heap.size, 1, none⟩ (.int .i64 n1)).setCell ⟨wr.heap.size, 2, none⟩ (.int .i64 n2) = W at *
               generalize wr.heap.size = h at *)
            | (have hX0 := Lib.hid (Whole.made w8 95 #[.int .i64 n0, .int .i64 n1, .int .i64 n2] (b := w8.heap.size) rfl)
               have hT3 := Lib.hid ((hT.out.kept hB8.out).more (.cells #[.int .i64 n0, .int .i64 n1, .int .i64 n2] 95))
               have hB3 := Lib.hid (below_on hB.out (Nat.le_refl _) (hB8.out.alloc hB8.out.size (.cells #[.int .i64 n0, .int .i64 n1, .int .i64 n2] 95)))
               clear hb8 hB8 hS0 hR0 hgs hT hB hCall c0 c1 c2
               generalize w8.alloc _ = W at *
               generalize w8.heap.size = h at *)
          all_goals
            have x0 := hX0.out.at_ (i := 0) rfl
            have x1 := hX0.out.at_ (i := 1) rfl
            have x2 := hX0.out.at_ (i := 2) rfl
            have q0 := hT3.out.at_ (i := 0) rfl
            have q1 := hT3.out.at_ (i := 1) rfl
            have q2 := hT3.out.at_ (i := 2) rfl
            have z0 := hT3.out.free 0
            have z1 := hT3.out.free 1
            have z2 := hT3.out.free 2
            go_wp2_with fail
            have hX := Lib.hid (whole_three n0 n1 n2 hT3.out)
            have hB4 := Lib.hid (((hB3.out.setCell (p := ⟨g, 0, none⟩) hgw (.int .i64 n0)).setCell (p := ⟨g, 1, none⟩) hgw (.int .i64 n1)).setCell (p := ⟨g, 2, none⟩) hgw (.int .i64 n2))
            clear q0 q1 q2 z0 z1 z2 x0 x1 x2
            go_roundw
            case rel => exact ⟨k + 1, ⟨n0, n1, n2⟩, by omega, by go_num, hRun2, hX, hB4⟩
            case measure => simp [intOf]; omega
      · have b1 : (((s[k]'hlt).toNat : Int) != 119) = true := by rw [bne_iff_ne]; omega
        have e1 : (((s[k]'hlt).toNat : Int) == 119) = false := by rw [beq_eq_false_iff_ne]; omega
        by_cases h46 : (s[k]'hlt).toNat = 46
        · have hr46 : (s.data.toList.getD k 0).toNat = 46 := by rw [hgd]; exact h46
          have b2 : (((s[k]'hlt).toNat : Int) != 46) = false := by rw [h46]; rfl
          clear h46 h119
          obtain ⟨⟨n0, n1, n2⟩, hfp⟩ : ∃ q : PlaceD, freePlace ⟨p0, p1, p2⟩ = q := ⟨_, rfl⟩
          have hRun2 := Lib.hid (hfp ▸ runP_free hRun.out hr46)
          have hCall : Hid (∀ W, Below w.heap.size w W → Calls Try.prog 81 #[.pointer (some ⟨b, o, none⟩), .agg #[.int .i64 p0, .int .i64 p1, .int .i64 p2], .bool false] W fun e w' => e = .returned (.tuple #[.agg #[.int .i64 n0, .int .i64 n1, .int .i64 n2], .bool true]) ∧ Below W.heap.size W w') := Lib.hid fun W hW => by
            have hh := goes_free b o ⟨p0, p1, p2⟩ W (by simp only; omega)
            rw [hfp] at hh
            exact hh
          clear hgd
          go_wp2_with fail
          have hS0 : Hid (∀ w' : World, Below wr.heap.size wr w' → (w'.cell? ⟨g, 0, none⟩ = some (.int .i64 p0) ∧ w'.cell? ⟨g, 1, none⟩ = some (.int .i64 p1) ∧ w'.cell? ⟨g, 2, none⟩ = some (.int .i64 p2)) ∧ Below wr.heap.size wr w') := Lib.hid fun w' hb => ⟨⟨(hT.out.kept hb).at_ (i := 0) rfl, (hT.out.kept hb).at_ (i := 1) rfl, (hT.out.kept hb).at_ (i := 2) rfl⟩, hb⟩
          have hR0 := Below.refl wr.heap.size wr
          have hgs := hT.out.size
          go_region_held3 (fun w' => (w'.cell? ⟨g, 0, none⟩ = some (.int .i64 p0) ∧ w'.cell? ⟨g, 1, none⟩ = some (.int .i64 p1) ∧ w'.cell? ⟨g, 2, none⟩ = some (.int .i64 p2)) ∧ Below wr.heap.size wr w') ((first | exact hS0.out _ hR0 | exact hS0.out _ hR0.drew | exact hS0.out _ hB8.out | exact hS0.out _ hB8.out.drew | exact hS0.out _ (below_alloc hR0 _) | exact hS0.out _ (below_alloc hR0.drew _) | exact hS0.out _ (below_alloc hR0 _).drew | exact hS0.out _ (hB8.out.alloc hB8.out.size _) | exact hS0.out _ (hB8.out.drew.alloc hB8.out.size _) | exact hS0.out _ (((hB8.out.setCell (p := ⟨wr.heap.size, 0, none⟩) (Nat.le_refl _) _).setCell (p := ⟨wr.heap.size, 1, none⟩) (Nat.le_refl _) _).setCell (p := ⟨wr.heap.size, 2, none⟩) (Nat.le_refl _) _))) ((go_at_call 81; refine (hCall.out _ (by first | exact hB.out | exact hB.out.drew | exact hB.out.alloc hB.out.size _ | exact hB.out.drew.alloc hB.out.size _ | exact (hB.out.alloc hB.out.size _).drew)).mono ?_; rintro e w8 ⟨rfl, hb8⟩; have hB8 := Lib.hid (show Below wr.heap.size wr w8 from by first | exact hb8 | exact below_on hR0 (Nat.le_refl _) hb8 | exact below_on hR0.drew (Nat.le_refl _) hb8 | exact below_on (below_alloc hR0 _) (Nat.le_refl _) hb8 | exact below_on (below_alloc hR0.drew _) (Nat.le_refl _) hb8 | exact below_on (below_alloc hR0 _).drew (Nat.le_refl _) hb8); (first | (have hO8 : Whole w8 wr.heap.size 95 #[.int .i64 0, .int .i64 0, .int .i64 0] := (by first | exact (Whole.made wr 95 _ rfl).kept hb8 | exact Whole.kept (w := (wr.alloc (.cells _ 95)).drew) (Whole.made wr 95 _ rfl) hb8 | exact Whole.kept (w := wr.drew.alloc (.cells _ 95)) (Whole.made wr.drew 95 _ rfl) hb8); have q0 := hO8.at_ (i := 0) rfl; have q1 := hO8.at_ (i := 1) rfl; have q2 := hO8.at_ (i := 2) rfl; have z0 := hO8.free 0; have z1 := hO8.free 1; have z2 := hO8.free 2) | skip)))
          all_goals first
            | (have hX0 := Lib.hid (whole_three n0 n1 n2 hO8)
               have hT3 := Lib.hid ((((hT.out.kept hB8.out).apart (p := ⟨wr.heap.size, 0, none⟩) (Nat.ne_of_lt hgs) (.int .i64 n0)).apart (p := ⟨wr.heap.size, 1, none⟩) (Nat.ne_of_lt hgs) (.int .i64 n1)).apart (p := ⟨wr.heap.size, 2, none⟩) (Nat.ne_of_lt hgs) (.int .i64 n2))
               have hB3 := Lib.hid (below_on hB.out (Nat.le_refl _) (((hB8.out.setCell (p := ⟨wr.heap.size, 0, none⟩) (Nat.le_refl _) (.int .i64 n0)).setCell (p := ⟨wr.heap.size, 1, none⟩) (Nat.le_refl _) (.int .i64 n1)).setCell (p := ⟨wr.heap.size, 2, none⟩) (Nat.le_refl _) (.int .i64 n2)))
               clear hb8 hB8 hO8 q0 q1 q2 z0 z1 z2 hS0 hR0 hgs hT hB hCall c0 c1 c2
               generalize ((w8.setCell ⟨wr.heap.size, 0, none⟩ (.int .i64 n0)).setCell ⟨wr.heap.size, 1, none⟩ (.int .i64 n1)).setCell ⟨wr.heap.size, 2, none⟩ (.int .i64 n2) = W at *
               generalize wr.heap.size = h at *)
            | (have hX0 := Lib.hid (Whole.made w8 95 #[.int .i64 n0, .int .i64 n1, .int .i64 n2] (b := w8.heap.size) rfl)
               have hT3 := Lib.hid ((hT.out.kept hB8.out).more (.cells #[.int .i64 n0, .int .i64 n1, .int .i64 n2] 95))
               have hB3 := Lib.hid (below_on hB.out (Nat.le_refl _) (hB8.out.alloc hB8.out.size (.cells #[.int .i64 n0, .int .i64 n1, .int .i64 n2] 95)))
               clear hb8 hB8 hS0 hR0 hgs hT hB hCall c0 c1 c2
               generalize w8.alloc _ = W at *
               generalize w8.heap.size = h at *)
          all_goals
            have x0 := hX0.out.at_ (i := 0) rfl
            have x1 := hX0.out.at_ (i := 1) rfl
            have x2 := hX0.out.at_ (i := 2) rfl
            have q0 := hT3.out.at_ (i := 0) rfl
            have q1 := hT3.out.at_ (i := 1) rfl
            have q2 := hT3.out.at_ (i := 2) rfl
            have z0 := hT3.out.free 0
            have z1 := hT3.out.free 1
            have z2 := hT3.out.free 2
            go_wp2_with fail
            have hX := Lib.hid (whole_three n0 n1 n2 hT3.out)
            have hB4 := Lib.hid (((hB3.out.setCell (p := ⟨g, 0, none⟩) hgw (.int .i64 n0)).setCell (p := ⟨g, 1, none⟩) hgw (.int .i64 n1)).setCell (p := ⟨g, 2, none⟩) hgw (.int .i64 n2))
            clear q0 q1 q2 z0 z1 z2 x0 x1 x2
            go_roundw
            case rel => exact ⟨k + 1, ⟨n0, n1, n2⟩, by omega, by go_num, hRun2, hX, hB4⟩
            case measure => simp [intOf]; omega
        · have b2 : (((s[k]'hlt).toNat : Int) != 46) = true := by rw [bne_iff_ne]; omega
          have hE := hNone.out (k + 1) (by omega) (runP_bad hRun.out (by rw [hgd]; exact h46) (by rw [hgd]; exact h119))
          clear h46 h119 hgd
          go_wp2_with fail
          first | refine hQ.out _ _ hE ?_ | (go_ret2; refine hQ.out _ _ hE ?_)
          exact hB.out
    · obtain rfl : k = s.size := by omega
      have hE := hSome.out _ hz hRun.out
      obtain ⟨d0, d1, -, -, -⟩ := hC0.out wr hB.out
      simp only at hE
      go_wp2_with fail
      go_quiet (fail)
      go_wp2_with fail
      first | refine hQ.out _ _ hE ?_ | (go_ret2; refine hQ.out _ _ hE ?_)
      exact below_drew hB.out _
end Go.Proofs.Ytcpfiledegnlpaa
