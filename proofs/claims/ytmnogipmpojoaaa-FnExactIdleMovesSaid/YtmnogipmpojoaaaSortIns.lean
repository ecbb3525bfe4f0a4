/- Contract: a part of a row sorted by insertion. Conditions: the comparison tells which of two places comes first; the part holds its own places. -/
import Derived.Test.YtmnogipmpojoaaaSortSwap
import Derived.Shelf.Abstract
import Derived.Deep.QuietTactic
import Derived.BigQuiet
namespace Go.Proofs.Ytmnogipmpojoaaa
open Go.RowKit Go.Lst Srt Go.Shelf

set_option maxHeartbeats 2000000 in
theorem insertion_any (A g n c a b F : Nat) (lb : Array Value) (W0 w : World) (f : Nat → Int) (sg : Int → Int → Int) (lt : Int → Int → Bool) (hT : Tot n lt) (hC : Cmp F lb g n W0 sg lt) (h : Row A g n c W0 w f) (hab : a ≤ b) (hb : b ≤ n) (hn : n ≤ 1024)
    (hid : ∀ k, a ≤ k → k < b → f k = (k : Int)) :
    Calls Try.prog 36 #[.slice (some ⟨g, 0, none⟩) n c, .int .i64 a, .int .i64 b, .func (.func F) #[] lb] w fun e w' => e = .returned (.tuple #[]) ∧ ∃ f', Row A g n c W0 w' f' ∧ Merged lt a b f f' := by
  have hR0 := Lib.hid h
  by_cases h0 : a = b
  · subst h0
    have hM : Hid (Merged lt a a f f) := Lib.hid ⟨Re.refl _ _ _, fun i j i1 i2 i3 => by omega⟩
    clear h hid hC hT
    go_enter Try.func36, Try.ntmps36
    go_wp2_with fail
    go_loopw [8] (fun iv wr => iv = .int .i64 ((a : Int) + 1) ∧ wr = w) (fun _ _ => 0)
    case atStart => exact ⟨rfl, rfl⟩
    case round =>
      obtain ⟨rfl, rfl⟩ := hrel
      have hq : ¬ ((a : Int) + 1 < (a : Int)) := by omega
      have hq2 : decide ((a : Int) + 1 < (a : Int)) = false := decide_eq_false hq
      go_wp2_with fail
      go_end0
      exact ⟨rfl, f, hR0.out, hM.out⟩
  have hS0 : Hid (Sorted lt a (a + 1) f) := Lib.hid fun i j i1 i2 i3 => by omega
  have hRe0 := Lib.hid (Re.refl a (a + 1) f)
  have hEn : Hid (∀ i f', i = b → Sorted lt a i f' → Re a i f f' → Merged lt a b f f') := Lib.hid fun i f' e h1 h2 => by subst e; exact ⟨h2, h1⟩
  have hCs := Lib.hid hC.says
  have hCg := Lib.hid hC.sign
  have eg := hC.enter
  -- a number that stands behind a sorted part, and its places
  have hVal : Hid (∀ i f', a < i → i < b → Re a i f f' → f' i = (i : Int) ∧ ∀ k, a ≤ k → k < i → 0 ≤ f' k ∧ f' k < f' i) := Lib.hid fun i f' h1 h2 hr => by
    have e := (hr.out i (.inr (Nat.le_refl _))).trans (hid i (by omega) h2)
    refine ⟨e, fun k k1 k2 => ?_⟩
    obtain ⟨l, l1, l2, e2⟩ := hr.from' k k1 k2
    rw [e2, e, hid l l1 (by omega)]
    omega
  have hIns : Hid (∀ i f' j, i < b → Sorted lt a i f' → Re a i f f' → a ≤ j → j ≤ i → (∀ k, j ≤ k → k < i → lt (f' i) (f' k) = true) → (a < j → lt (f' (j - 1)) (f' i) = true) → Sorted lt a (i + 1) (toLeft f' i j) ∧ Re a (i + 1) f (toLeft f' i j)) := Lib.hid fun i f' j h1 hs hr j1 j2 hi lo => by
    have m := insert_left hT hs j1 j2 lo (fun h => hi j (Nat.le_refl _) h)
    exact ⟨m.2, (hr.wide (Nat.le_refl _) (Nat.le_succ _)).trans m.1⟩
  have hOf := Lib.hid (fun x y => hT.of_not (x := x) (y := y))
  have hTz := Lib.hid (fun f i => toLeft_zero f i)
  have hTs := Lib.hid (fun f m c => toLeft_step f m c)
  clear h hid hC hT
  go_enter Try.func36, Try.ntmps36
  go_wp2_with fail
  go_loopw [8] (fun iv wr => ∃ (i : Nat) (f' : Nat → Int), a < i ∧ i ≤ b ∧ iv = .int .i64 i ∧ Hid (Sorted lt a i f') ∧ Hid (Re a i f f') ∧ Hid (Row A g n c W0 wr f')) (fun iv _ => b - (intOf iv).toNat)
  case atStart => exact ⟨a + 1, f, by omega, by omega, by go_num, hS0, hRe0, hR0⟩
  case round =>
    clear hS0 hRe0 hR0
    obtain ⟨i, f', hai, hib, rfl, hS, hRe, hR⟩ := hrel
    by_cases hlt : i < b
    · obtain ⟨hfi, hlow⟩ := hVal.out i f' hai hlt hRe.out
      have hLow := Lib.hid hlow
      have hFi := Lib.hid hfi
      clear hfi
      have hR1 := Lib.hid (show Row A g n c W0 wr (toLeft f' i i) by rw [hTz.out]; exact hR.out)
      have hIn := Lib.hid (fun j => hIns.out i f' j hlt hS.out hRe.out)
      clear hlow hS hRe hR
      have hd : (i : Int) < (b : Int) := by omega
      go_wp2_with fail
      go_loopw [9] (fun jv wr' => ∃ j : Nat, a ≤ j ∧ j ≤ i ∧ jv = .int .i64 j ∧ Hid (∀ k, j ≤ k → k < i → lt (f' i) (f' k) = true) ∧ Hid (Row A g n c W0 wr' (toLeft f' i j))) (fun jv _ => (intOf jv).toNat)
      case atStart => exact ⟨i, by omega, Nat.le_refl _, rfl, Lib.hid (fun k h1 h2 => by omega), hR1⟩
      case round =>
        clear hR1
        obtain ⟨j, haj, hji, rfl, hK, hRj⟩ := hrel
        by_cases hja : a < j
        · have c1 := hRj.out.cell (k := j) (by omega)
          have c2 := hRj.out.cell (k := j - 1) (by omega)
          have f1 := hRj.out.frozen j
          have f2 := hRj.out.frozen (j - 1)
          have v1 : toLeft f' i j j = f' i := by unfold toLeft; rw [if_pos rfl]
          have v2 : toLeft f' i j (j - 1) = f' (j - 1) := by unfold toLeft; rw [if_neg (by omega), if_neg (by omega)]
          rw [v1] at c1
          rw [v2] at c2
          obtain ⟨b1, b2⟩ := hLow.out (j - 1) (by omega) (by omega)
          have nc1 := fun pn => near_cell c1 pn
          have nc2 := fun pn => near_cell c2 pn
          have hCall := Lib.hid (fun (pn : Near wr.heap.size wr) => hCs.out _ (hRj.out.below pn.below).kept (f' (j - 1)) (f' i) b1 b2 (by rw [hFi.out]; omega))
          have hSg := hCg.out (f' (j - 1)) (f' i) b1 b2 (by rw [hFi.out]; omega)
          have z1 : (0 : Int) ≤ (j : Int) - 1 := by omega
          have t1 : ((j : Int) - 1).toNat = j - 1 := by omega
          have l1 : (j : Int) - 1 < (n : Int) := by omega
          have hdj : (a : Int) < (j : Int) := by omega
          have hRm := Lib.hid (fun (pn : Near wr.heap.size wr) => hRj.out.below pn.below)
          have l0 : (j : Int) < (n : Int) := by omega
          have hpj : j - 1 < n := by omega
          have hwj : IntKind.i64.wrap ((j : Int) - 1) = (j : Int) - 1 := IntWalk.i64_in _ (by omega)
          cases hlv : lt (f' i) (f' (j - 1))
          · have hN := Lib.hid (hIn.out j haj hji hK.out (fun _ => hOf.out _ _ hlv (by omega)))
            rw [hlv] at hSg
            clear hlv b1 b2 v1 v2
            generalize sg (f' i) (f' (j - 1)) = z at *
            generalize f' i = x at *
            generalize f' (j - 1) = y at *
            go_wp2_with fail
            refine wp_region_near (by kernel_rfl) (by kernel_rfl) ?_
            repeat (go_big_quiet_step ((go_at_fn F; with_reducible exact near_of (Nat.le_refl _) (hCall.out _))))
            refine wpQuiet_nil ?_
            rintro _ ⟨pq, rfl⟩
            go_wp2_with fail
            go_roundw
            case rel => exact ⟨i + 1, _, by omega, by omega, by go_num, Lib.hid hN.out.1, Lib.hid hN.out.2, Lib.hid (hRm.out _)⟩
            case measure => simp [intOf]; omega
          · have hK2 : Hid (∀ k, j - 1 ≤ k → k < i → lt (f' i) (f' k) = true) := Lib.hid fun k k1 k2 => by
              by_cases e : k = j - 1
              · rw [e]; exact hlv
              · exact hK.out k (by omega) k2
            rw [hlv] at hSg
            have hSw : Hid (∀ wq, (∃ pn : Near wr.heap.size wr, pn.at_ = wq) → Row A g n c W0 (((wq.setCell ⟨g, j, none⟩ (.int .i64 (f' (j - 1)))).setCell ⟨g, j - 1, none⟩ (.int .i64 (f' i))).drew) (toLeft f' i (j - 1)) ∧ wq.cell? ⟨g, j, none⟩ = some (.int .i64 (f' i)) ∧ wq.cell? ⟨g, j - 1, none⟩ = some (.int .i64 (f' (j - 1))) ∧ wq.frozen? ⟨g, j, none⟩ = false ∧ wq.frozen? ⟨g, j - 1, none⟩ = false) := Lib.hid fun wq hm => by
              obtain ⟨m, rfl⟩ := hm
              have h2 := (hRj.out.below m.below).swap j (j - 1)
              rw [v1, v2] at h2
              have h3 := hTs.out f' i (j - 1) (by omega)
              rw [show j - 1 + 1 = j by omega] at h3
              rw [h3] at h2
              exact ⟨h2, near_cell c1 m, near_cell c2 m, (hRj.out.below m.below).frozen j, (hRj.out.below m.below).frozen (j - 1)⟩
            clear hlv b1 b2 v1 v2
            generalize sg (f' i) (f' (j - 1)) = z at *
            generalize f' (j - 1) = y at *
            go_wp2_with fail
            refine wp_region_near (by kernel_rfl) (by kernel_rfl) ?_
            repeat (go_big_quiet_step ((go_at_fn F; with_reducible exact near_of (Nat.le_refl _) (hCall.out _))))
            refine wpQuiet_nil ?_
            rintro _ ⟨pq, rfl⟩
            generalize hwq : pq.at_ = wq
            obtain ⟨hs9, c1', c2', f1', f2'⟩ := hSw.out wq ⟨_, hwq⟩
            have hS9 := Lib.hid hs9
            clear hs9 hwq c1 c2 f1 f2 nc1 nc2
            go_wp2_with fail
            go_region
            go_wp2_with fail
            go_roundw
            case rel => exact ⟨j - 1, by omega, by omega, by go_num, hK2, hS9⟩
            case measure => simp [intOf]; omega
        · obtain rfl : j = a := by omega
          have hN := Lib.hid (hIn.out j haj hji hK.out (fun h => by omega))
          have hdj : ¬ ((j : Int) < (j : Int)) := by omega
          have hdj2 : decide ((j : Int) < (j : Int)) = false := decide_eq_false hdj
          have hdj3 : decide (j < j) = false := decide_eq_false (by omega)
          have hRm := Lib.hid (fun m => hRj.out.drewN m)
          go_wp2_with fail
          go_quiet (fail)
          go_wp2_with fail
          go_roundw
          case rel => exact ⟨i + 1, _, by omega, by omega, by go_num, Lib.hid hN.out.1, Lib.hid hN.out.2, Lib.hid (hRm.out _)⟩
          case measure => simp [intOf]; omega
    · have hm := Lib.hid (hEn.out i f' (by omega) hS.out hRe.out)
      go_wp2_with fail
      go_end0
      exact ⟨rfl, f', hR.out, hm.out⟩
end Go.Proofs.Ytmnogipmpojoaaa
