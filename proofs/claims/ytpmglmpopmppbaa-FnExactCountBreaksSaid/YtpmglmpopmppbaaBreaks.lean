/- Contracts: how often teams do not change. -/
import Derived.Test.YtpmglmpopmppbaaHomesRun
import Derived.Deep.QuietTactic
import Derived.BigQuiet
namespace Go.Proofs.Ytpmglmpopmppbaa
open Go.RowKit Go.Lst

def brkTo (t : Nat) (hs : List Bool) : Nat → Int
  | 0 => 0
  | k + 1 => if hs.getD (t + k) false == hs.getD k false then brkTo t hs k + 1 else brkTo t hs k
theorem brkTo_in (t : Nat) (hs : List Bool) : ∀ k, 0 ≤ brkTo t hs k ∧ brkTo t hs k ≤ k
  | 0 => by simp [brkTo]
  | k + 1 => by
    have := brkTo_in t hs k
    unfold brkTo
    split <;> omega
def brkL (T : Int) (xs : List Int) : Int := if roundsOk T xs then brkTo T.toNat (homesTo T.toNat xs xs.length) (xs.length - T.toNat) else 0
theorem own_open {A B n : Nat} {w : World} {v : Value} {e : TypeId} {cs : List Value} (h : Lst.Own A B w v e 1 n cs) (hn : 1 ≤ n) : ∃ g c, v = .slice (some ⟨g, 0, none⟩) n c ∧ w.ownsRow A e 1 (.slice (some ⟨g, 0, none⟩) n c) n cs ∧ g < w.heap.size := by
  have h1 := h.1
  rcases h1.2 with ⟨_, h0⟩ | ⟨g, c, cur, rfl, _⟩
  · omega
  · exact ⟨g, c, rfl, h1, (h1.lt g rfl).2⟩
theorem homes_false {B : Nat} {v : Value} {xs : List Int} {T : Int} {w : World} (h : LstI B w v xs) (hB : B ≤ w.heap.size) (hwf : ∀ x ∈ xs, (Lit.int .i64 x).wf = true) (hq : roundsOk T xs = false) :
    Calls Try.prog 24 #[.int .i64 T, v] w fun e w' => ∃ v', e = .returned (.tuple #[v', .bool false]) ∧ Below w.heap.size w w' :=
  (implHomes_any B v xs T w h hB hwf).mono fun e w' hh => by
    obtain ⟨v', rfl, _, hb⟩ := hh
    exact ⟨v', by rw [hq], hb⟩
theorem homes_true {B t : Nat} {v : Value} {xs : List Int} {w : World} (h : LstI B w v xs) (hB : B ≤ w.heap.size) (hwf : ∀ x ∈ xs, (Lit.int .i64 x).wf = true) (hq : roundsOk t xs = true) (h1 : 1 ≤ xs.length) :
    Calls Try.prog 24 #[.int .i64 t, v] w fun e w' => ∃ g c, e = .returned (.tuple #[.slice (some ⟨g, 0, none⟩) xs.length c, .bool true]) ∧ (∀ k, k < xs.length → w'.cell? ⟨g, k, none⟩ = some (.bool ((homesTo t xs xs.length).getD k false))) ∧ g < w'.heap.size ∧ Below w.heap.size w w' :=
  (implHomes_any B v xs t w h hB hwf).mono fun e w' hh => by
    obtain ⟨v', rfl, ho, hb⟩ := hh
    have hl : homesL t xs = homesTo t xs xs.length := by unfold homesL; rw [hq, if_pos rfl, Int.toNat_natCast]
    rw [hl, homesTo_length] at ho
    obtain ⟨g, c, rfl, hr, hg⟩ := own_open ho h1
    exact ⟨g, c, by rw [hq], fun k hk => homeBit hr (homesTo_length t xs _) hk, hg, hb⟩
set_option maxHeartbeats 4000000 in
set_option maxRecDepth 100000 in
theorem implBreaks_any (B : Nat) (v : Value) (xs : List Int) (T : Int) (w : World) (h : LstI B w v xs) (hB : B ≤ w.heap.size) (hwf : ∀ x ∈ xs, (Lit.int .i64 x).wf = true) :
    Calls Try.prog 29 #[.int .i64 T, v] w (NumPost (brkL T xs) (roundsOk T xs) w) := by
  cases hq : roundsOk T xs
  · have hC := Lib.hid (homes_false h hB hwf hq)
    have hF : Hid (∀ w', Below w.heap.size w w' → NumPost (brkL T xs) false w (.returned (.tuple #[.int .i64 0, .bool false])) w') := Lib.hid fun w' hb => num_no (by unfold brkL; rw [hq]; rfl) rfl hb
    obtain ⟨a, cap, rfl, _⟩ := h.at_
    clear h hwf
    generalize NumPost (brkL T xs) false w = Q at *
    generalize xs.length = n at *
    go_enter Try.func29, Try.ntmps29
    go_wp2_with (go_at_call 24; (with_reducible refine hC.out.mono ?_); rintro e' w5 ⟨v5, rfl, hb5⟩; have hQe := Lib.hid (hF.out _ hb5); clear hb5)
    show Q (.returned (.tuple #[_, _])) _
    exact Hid.out (by assumption)
  · obtain ⟨t, r, m, rfl, t1, t2, t3, r1, r2, hn, _, _⟩ := rounds_of hq
    clear t3
    have hL1 : 1 ≤ r * t := Nat.mul_pos (by omega) (by omega)
    have hL2 : r * t ≤ (2 * t - 2) * t := Nat.mul_le_mul_right t r2
    have hL3 : (2 * t - 2) * t ≤ 480 := Nat.mul_le_mul (show 2 * t - 2 ≤ 30 by omega) t2
    have hL4 : 1 * t ≤ r * t := Nat.mul_le_mul_right t r1
    have hC := Lib.hid (homes_true h hB hwf hq (by omega))
    obtain ⟨a, cap, rfl, _⟩ := h.at_
    have hP : Hid (∀ (w' : World) (x : Int), x = brkTo t (homesTo t xs xs.length) (xs.length - t) → Below w.heap.size w w' → NumPost (brkL t xs) true w (.returned (.tuple #[.int .i64 x, .bool true])) w') := Lib.hid fun w' x hx hb => num_yes (by
      unfold brkL
      rw [hq, if_pos rfl, Int.toNat_natCast]
      exact hx.symm) rfl hb
    have hIn := Lib.hid (brkTo_in t (homesTo t xs xs.length))
    have hSt : Hid (∀ k, brkTo t (homesTo t xs xs.length) (k + 1) = if (homesTo t xs xs.length).getD (t + k) false == (homesTo t xs xs.length).getD k false then brkTo t (homesTo t xs xs.length) k + 1 else brkTo t (homesTo t xs xs.length) k) := Lib.hid fun k => rfl
    have hZ : Hid (brkTo t (homesTo t xs xs.length) 0 = 0) := Lib.hid rfl
    have hn480 : xs.length ≤ 480 := by omega
    have hnt : t ≤ xs.length := by omega
    generalize NumPost (brkL t xs) true w = Q at *
    clear h hwf hq hL1 hL2 hL3 hL4 hn
    generalize brkTo t (homesTo t xs xs.length) = b at *
    generalize homesTo t xs xs.length = hs at *
    generalize xs.length = n at *
    go_enter Try.func29, Try.ntmps29
    go_wp2_with (go_at_call 24; (with_reducible refine hC.out.mono ?_); rintro e' w5 ⟨g, c, rfl, hc5, hg5, hb5⟩; have hCe := Lib.hid hc5; have hB5 := Lib.hid hb5; have hG := Lib.hid hg5; clear hc5 hb5 hg5)
    clear hC
    have hS5 : Hid (w.heap.size ≤ w5.heap.size) := Lib.hid hB5.out.size
    go_loopw [8, 9] (fun bv av wr => ∃ k : Nat, t + k ≤ n ∧ av = .int .i64 ((t + k : Nat) : Int) ∧ bv = .int .i64 (b k) ∧ Hid (Below w5.heap.size w5 wr)) (fun _ av _ => n - (intOf av).toNat)
    case atStart => exact ⟨0, by omega, rfl, by rw [hZ.out], Lib.hid (Below.refl _ _)⟩
    case round =>
      obtain ⟨k, hk, rfl, rfl, hBw⟩ := hrel
      obtain ⟨i1, i2⟩ := hIn.out k
      have hS1 := Lib.hid (hSt.out k)
      generalize hbk : b k = bk at *
      have hBk := Lib.hid hbk
      clear hbk
      obtain ⟨s, hs1⟩ : ∃ s, s = t + k := ⟨_, rfl⟩
      by_cases hlt : s < n
      · have c1 := hCe.out s hlt
        have c2 := hCe.out k (by omega)
        rw [← hBw.out.cell (p := ⟨g, s, none⟩) hG.out] at c1
        rw [← hBw.out.cell (p := ⟨g, k, none⟩) hG.out] at c2
        rw [← hs1] at hS1 ⊢
        have y1 : IntKind.i64.wrap ((s : Int) - (t : Int)) = (k : Int) := by rw [IntWalk.i64_in _ (by omega)]; omega
        have y0 : (s : Int) - (t : Int) = (k : Int) := by omega
        have y4 : (s : Int) < (n : Int) := by omega
        have y5 : (k : Int) < (n : Int) := by omega
        have y6 : IntKind.i64.wrap ((s : Int) + 1) = ((s + 1 : Nat) : Int) := by rw [IntWalk.i64_in _ (by omega)]; omega
        have y7 : IntKind.i64.wrap (bk + 1) = bk + 1 := IntWalk.i64_in _ (by omega)
        have hSk := Lib.hid (show t + (k + 1) = s + 1 by omega)
        have hk1 : t + (k + 1) ≤ n := by omega
        clear hs1
        generalize hs.getD s false = x at *
        generalize hs.getD k false = y at *
        cases x <;> cases y
        all_goals
          go_wp2_with fail
          go_quiet (fail)
          go_wp2
          go_roundw
          case rel => exact ⟨k + 1, hk1, by rw [hSk.out]; first | rfl | go_num, by rw [hS1.out]; rfl, Lib.hid (Lst.Below.drewN hBw.out _)⟩
          case measure => simp [intOf]; omega
      · have hkn : k = n - t := by omega
        have hQe := Lib.hid (hP.out wr bk (by rw [← hkn]; exact hBk.out.symm) (hB5.out.trans (hBw.out.mono hS5.out)))
        have y4 : ¬ (s : Int) < (n : Int) := by omega
        rw [← hs1]
        go_wp2_with fail
        exact hQe.out
theorem homes_row {B t : Nat} {v : Value} {xs : List Int} {w w' : World} (h : LstI B w v xs) (hB : B ≤ w.heap.size) (hq : roundsOk t xs = true) (hb : Below w.heap.size w w') :
    Calls Try.prog 54 #[.int .i64 t, v] w' fun e w'' => ∃ g, e = .returned (.slice (some ⟨g, 0, none⟩) xs.length xs.length) ∧ (∀ k, k < xs.length → w''.cell? ⟨g, k, none⟩ = some (.bool ((homesTo t xs xs.length).getD k false))) ∧ g < w''.heap.size ∧ Below w.heap.size w w'' :=
  (l07Homes_any w.heap.size v xs t w' ((h.below hb hB).mono hB) hb.size hq).mono fun e w'' hh => by
    obtain ⟨g, rfl, ho, hb2⟩ := hh
    exact ⟨g, rfl, fun k hk => homeBit ho (homesTo_length t xs _) hk, (ho.lt g rfl).2, hb.trans (hb2.mono hb.size)⟩
set_option maxHeartbeats 4000000 in
set_option maxRecDepth 100000 in
theorem specBreaks_any (B : Nat) (v : Value) (xs : List Int) (T : Int) (w : World) (h : LstI B w v xs) (hB : B ≤ w.heap.size) :
    Calls Try.prog 28 #[.int .i64 T, v] w (NumPost (brkL T xs) (roundsOk T xs) w) := by
  cases hq : roundsOk T xs
  · have hC := Lib.hid (l07Rounds_at B v xs T w h hq)
    have hF : Hid (∀ w', Below w.heap.size w w' → NumPost (brkL T xs) false w (.returned (.tuple #[.int .i64 0, .bool false])) w') := Lib.hid fun w' hb => num_no (by unfold brkL; rw [hq]; rfl) rfl hb
    obtain ⟨a, cap, rfl, _⟩ := h.at_
    clear h
    generalize NumPost (brkL T xs) false w = Q at *
    generalize xs.length = n at *
    go_enter Try.func28, Try.ntmps28
    go_wp2_with (go_at_call 50; (with_reducible refine hC.out.mono ?_); rintro e' w5 ⟨rfl, hb5⟩; have hQe := Lib.hid (hF.out _ hb5); clear hb5)
    show Q (.returned (.tuple #[_, _])) _
    exact Hid.out (by assumption)
  · obtain ⟨t, r, m, rfl, t1, t2, t3, r1, r2, hn, _, _⟩ := rounds_of hq
    clear t3
    have hL1 : 1 ≤ r * t := Nat.mul_pos (by omega) (by omega)
    have hL2 : r * t ≤ (2 * t - 2) * t := Nat.mul_le_mul_right t r2
    have hL3 : (2 * t - 2) * t ≤ 480 := Nat.mul_le_mul (show 2 * t - 2 ≤ 30 by omega) t2
    have hL4 : 1 * t ≤ r * t := Nat.mul_le_mul_right t r1
    have hC := Lib.hid (l07Rounds_at B v xs t w h hq)
    have hHm := Lib.hid (fun w' hb => homes_row (w' := w') h hB hq hb)
    obtain ⟨a, cap, rfl, _⟩ := h.at_
    have hP : Hid (∀ (w' : World) (x : Int), x = brkTo t (homesTo t xs xs.length) (xs.length - t) → Below w.heap.size w w' → NumPost (brkL t xs) true w (.returned (.tuple #[.int .i64 x, .bool true])) w') := Lib.hid fun w' x hx hb => num_yes (by
      unfold brkL
      rw [hq, if_pos rfl, Int.toNat_natCast]
      exact hx.symm) rfl hb
    have hIn := Lib.hid (brkTo_in t (homesTo t xs xs.length))
    have hSt : Hid (∀ k, brkTo t (homesTo t xs xs.length) (k + 1) = if (homesTo t xs xs.length).getD (t + k) false == (homesTo t xs xs.length).getD k false then brkTo t (homesTo t xs xs.length) k + 1 else brkTo t (homesTo t xs xs.length) k) := Lib.hid fun k => rfl
    have hZ : Hid (brkTo t (homesTo t xs xs.length) 0 = 0) := Lib.hid rfl
    have hn480 : xs.length ≤ 480 := by omega
    have hnt : t ≤ xs.length := by omega
    generalize NumPost (brkL t xs) true w = Q at *
    clear h hq hL1 hL2 hL3 hL4 hn
    generalize brkTo t (homesTo t xs xs.length) = b at *
    generalize homesTo t xs xs.length = hs at *
    generalize xs.length = n at *
    go_enter Try.func28, Try.ntmps28
    go_wp2_with (first | (go_at_call 50; (with_reducible refine hC.out.mono ?_); rintro e' w4 ⟨rfl, hb4⟩; have hB4 := Lib.hid hb4; clear hb4) | (go_at_call 54; (with_reducible refine (hHm.out _ hB4.out).mono ?_); rintro e' w5 ⟨g, rfl, hc5, hg5, hb5⟩; have hCe := Lib.hid hc5; have hB5 := Lib.hid hb5; have hG := Lib.hid hg5; clear hc5 hb5 hg5))
    clear hC hHm hB4
    have hS5 : Hid (w.heap.size ≤ w5.heap.size) := Lib.hid hB5.out.size
    go_loopw [7, 8] (fun bv av wr => ∃ k : Nat, t + k ≤ n ∧ av = .int .i64 ((t + k : Nat) : Int) ∧ bv = .int .i64 (b k) ∧ Hid (Below w5.heap.size w5 wr)) (fun _ av _ => n - (intOf av).toNat)
    case atStart => exact ⟨0, by omega, rfl, by rw [hZ.out], Lib.hid (Below.refl _ _)⟩
    case round =>
      obtain ⟨k, hk, rfl, rfl, hBw⟩ := hrel
      obtain ⟨i1, i2⟩ := hIn.out k
      have hS1 := Lib.hid (hSt.out k)
      generalize hbk : b k = bk at *
      have hBk := Lib.hid hbk
      clear hbk
      obtain ⟨s, hs1⟩ : ∃ s, s = t + k := ⟨_, rfl⟩
      by_cases hlt : s < n
      · have c1 := hCe.out s hlt
        have c2 := hCe.out k (by omega)
        rw [← hBw.out.cell (p := ⟨g, s, none⟩) hG.out] at c1
        rw [← hBw.out.cell (p := ⟨g, k, none⟩) hG.out] at c2
        rw [← hs1] at hS1 ⊢
        have y1 : IntKind.i64.wrap ((s : Int) - (t : Int)) = (k : Int) := by rw [IntWalk.i64_in _ (by omega)]; omega
        have y0 : (s : Int) - (t : Int) = (k : Int) := by omega
        have y4 : (s : Int) < (n : Int) := by omega
        have y5 : (k : Int) < (n : Int) := by omega
        have y6 : IntKind.i64.wrap ((s : Int) + 1) = ((s + 1 : Nat) : Int) := by rw [IntWalk.i64_in _ (by omega)]; omega
        have y7 : IntKind.i64.wrap (bk + 1) = bk + 1 := IntWalk.i64_in _ (by omega)
        have hSk := Lib.hid (show t + (k + 1) = s + 1 by omega)
        have hk1 : t + (k + 1) ≤ n := by omega
        clear hs1
        generalize hs.getD s false = x at *
        generalize hs.getD k false = y at *
        cases x <;> cases y
        all_goals
          go_wp2_with fail
          go_quiet (fail)
          go_wp2
          go_roundw
          case rel => exact ⟨k + 1, hk1, by rw [hSk.out]; first | rfl | go_num, by rw [hS1.out]; rfl, Lib.hid (Lst.Below.drewN hBw.out _)⟩
          case measure => simp [intOf]; omega
      · have hkn : k = n - t := by omega
        have hQe := Lib.hid (hP.out wr bk (by rw [← hkn]; exact hBk.out.symm) (hB5.out.trans (hBw.out.mono hS5.out)))
        have y4 : ¬ (s : Int) < (n : Int) := by omega
        rw [← hs1]
        go_wp2_with fail
        exact hQe.out
theorem countBreaks_both (x0 : Int) (x1 : List Int) (_ : (Lit.int .i64 x0).wf = true) (hw1 : ∀ y ∈ x1, (Lit.int .i64 y).wf = true) : ∃ (r0 : Int) (r1 : Bool),
    (∀ (B : Nat) (v1 : Value) (w : World), LstI B w v1 x1 → B ≤ w.heap.size → Calls Try.prog 28 #[.int .i64 x0, v1] w fun e w' => e = .returned (.tuple #[.int .i64 r0, .bool r1]) ∧ Below w.heap.size w w') ∧
    (∀ (B : Nat) (v1 : Value) (w : World), LstI B w v1 x1 → B ≤ w.heap.size → Calls Try.prog 29 #[.int .i64 x0, v1] w fun e w' => e = .returned (.tuple #[.int .i64 r0, .bool r1]) ∧ Below w.heap.size w w') :=
  ⟨brkL x0 x1, roundsOk x0 x1, fun B v1 w h hB => specBreaks_any B v1 x1 x0 w h hB, fun B v1 w h hB => implBreaks_any B v1 x1 x0 w h hB hw1⟩
end Go.Proofs.Ytpmglmpopmppbaa
