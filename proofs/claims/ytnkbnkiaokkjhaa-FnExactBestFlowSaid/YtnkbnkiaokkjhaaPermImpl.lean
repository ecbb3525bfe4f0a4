/- Contracts: the next order, in the program. No condition. -/
import Derived.Test.YtnkbnkiaokkjhaaPermPure
import Derived.StillTailTactics
namespace Go.Proofs.Ytnkbnkiaokkjhaa
open Go.RowKit Go.Lst Srt

set_option maxHeartbeats 4000000 in
set_option maxRecDepth 100000 in
theorem reverseAt_any (A g n c b : Nat) (f : Nat → Int) (w0 w : World) (hR0 : Row A g n c w0 w f) (hb : b < n) (hn : n ≤ 1000) :
    Calls Try.prog 61 #[.slice (some ⟨g, b, none⟩) (n - b) (c - b)] w fun e w' => (∃ v, e = .returned v) ∧ Row A g n c w0 w' (revA n b f) := by
  have hR1 := Lib.hid (show Row A g n c w0 w (revK n b 0 f) by rw [revK_zero]; exact hR0)
  have hEnd : Hid (∀ k (W : World), n - 1 - k ≤ b + k → b + k ≤ n → Row A g n c w0 W (revK n b k f) → Row A g n c w0 W (revA n b f)) := Lib.hid fun k W h1 h2 hR => ⟨by rw [← cellsF_congr (revK_done f h1 h2)]; exact hR.own, hR.kept⟩
  obtain ⟨m, hm⟩ : ∃ m, m = n - b := ⟨_, rfl⟩
  rw [← hm]
  have hbm : b + m = n := by omega
  clear hR0 hm
  go_enter Try.func61, Try.ntmps61
  have hwn : IntKind.i64.wrap ((m : Int) - 1) = (m : Int) - 1 := IntWalk.i64_in _ (by omega)
  go_wp2_with fail
  go_loopw [2, 3] (fun iv jv wr => ∃ k : Nat, 2 * k ≤ m ∧ iv = .int .i64 k ∧ jv = .int .i64 ((m : Int) - 1 - k) ∧ Hid (Row A g n c w0 wr (revK n b k f))) (fun iv _ _ => m - (intOf iv).toNat)
  case atStart => exact ⟨0, Nat.zero_le _, rfl, by simp, hR1⟩
  case round =>
    clear hR1
    obtain ⟨k, hk, rfl, rfl, hR⟩ := hrel
    by_cases hlt : 2 * k + 1 < m
    · obtain ⟨j, hj⟩ : ∃ j : Nat, j = m - 1 - k := ⟨_, rfl⟩
      have ej : (m : Int) - 1 - (k : Int) = (j : Int) := by omega
      rw [ej]
      have hS := Lib.hid (hR.out.swap (b + k) (b + j))
      have hS2 := revK_swap (n := n) (b := b) (k := k) f (by omega)
      rw [show n - 1 - k = b + j by omega] at hS2
      rw [hS2] at hS
      have c1 := hR.out.cell (k := b + k) (by omega)
      have c2 := hR.out.cell (k := b + j) (by omega)
      have f1 := hR.out.frozen (b + k)
      have f2 := hR.out.frozen (b + j)
      have hkj : (k : Int) < (j : Int) := by omega
      have hkn : (k : Int) < (m : Int) := by omega
      have hjn : (j : Int) < (m : Int) := by omega
      have w1 : IntKind.i64.wrap ((k : Int) + 1) = (k : Int) + 1 := IntWalk.i64_in _ (by omega)
      have w2 : IntKind.i64.wrap ((j : Int) - 1) = (j : Int) - 1 := IntWalk.i64_in _ (by omega)
      have ej2 : (j : Int) - 1 = (m : Int) - 1 - ((k + 1 : Nat) : Int) := by omega
      have hEJ := Lib.hid ej2
      have hne := Lib.hid (show b + k ≠ b + j by omega)
      clear ej hS2 hj ej2
      generalize hu : revK n b k f (b + k) = u at *
      generalize hv : revK n b k f (b + j) = v at *
      clear hu hv hR
      go_wp2_with fail
      go_region
      go_wp2_with fail
      go_roundw
      case rel => exact ⟨k + 1, by omega, by go_num, by rw [hEJ.out], hS⟩
      case measure => simp [intOf]; omega
    · have hE := Lib.hid (hEnd.out k wr (by omega) (by omega) hR.out)
      have hd : ¬ (k : Int) < (m : Int) - 1 - (k : Int) := by omega
      go_wp2_with fail
      go_end0
      exact ⟨⟨_, rfl⟩, hE.out⟩
/-- What a search for the next order answers. -/
def NextPost (A g n c : Nat) (w0 : World) (f : Nat → Int) (e : Ending) (w' : World) : Prop :=
  (nextF n f = none ∧ e = .returned (.bool false) ∧ Row A g n c w0 w' f) ∨ ∃ h, nextF n f = some h ∧ e = .returned (.bool true) ∧ Row A g n c w0 w' h
theorem next_no {A g n c : Nat} {w0 w' : World} {f : Nat → Int} (h : pivF f (n - 1) = none) (hR : Row A g n c w0 w' f) : NextPost A g n c w0 f (.returned (.bool false)) w' := .inl ⟨by unfold nextF; rw [h], rfl, hR⟩
theorem next_yes {A g n c i : Nat} {w0 w' : World} {f : Nat → Int} (h : pivF f (n - 1) = some i) (hR : Row A g n c w0 w' (revA n (i + 1) (Srt.swap f i (swpF f (f i) (n - 1))))) : NextPost A g n c w0 f (.returned (.bool true)) w' := .inr ⟨_, by unfold nextF; rw [h], rfl, hR⟩
set_option maxHeartbeats 8000000 in
set_option maxRecDepth 100000 in
theorem nextOrder_any (A g n c : Nat) (f : Nat → Int) (w0 w : World) (hR0 : Row A g n c w0 w f) (hn1 : 1 ≤ n) (hn : n ≤ 24) (hnc : n ≤ c) (ho : OrdF n f) : Calls Try.prog 58 #[.slice (some ⟨g, 0, none⟩) n c] w (NextPost A g n c w0 f) := by
  have hNo : Hid (pivF f (n - 1) = none → ∀ w', Row A g n c w0 w' f → NextPost A g n c w0 f (.returned (.bool false)) w') := Lib.hid fun h w' hR => next_no h hR
  have hYes : Hid (∀ i, pivF f (n - 1) = some i → ∀ w', Row A g n c w0 w' (revA n (i + 1) (Srt.swap f i (swpF f (f i) (n - 1)))) → NextPost A g n c w0 f (.returned (.bool true)) w') := Lib.hid fun i h w' hR => next_yes h hR
  have hRv := Lib.hid (fun b f' w' (h : Row A g n c w0 w' f') (hb : b < n) => reverseAt_any A g n c b f' w0 w' h hb (by omega))
  have hP0 := Lib.hid (show pivF f 0 = none from rfl)
  have hPs := Lib.hid (fun k => (show pivF f (k + 1) = if f k < f (k + 1) then some k else pivF f k from rfl))
  have hQs := Lib.hid (fun a k => (show swpF f a (k + 1) = if a < f (k + 1) then k + 1 else swpF f a k from rfl))
  have hO := Lib.hid ho
  generalize NextPost A g n c w0 f = Q at *
  have hRr := Lib.hid hR0
  clear hR0 ho
  have hwn : IntKind.i64.wrap ((n : Int) - 2) = (n : Int) - 2 := IntWalk.i64_in _ (by omega)
  go_enter Try.func58, Try.ntmps58
  go_wp2_with fail
  go_loopw [3] (fun av wr => ∃ k : Nat, k + 1 ≤ n ∧ av = .int .i64 ((k : Int) - 1) ∧ Hid (pivF f (n - 1) = pivF f k) ∧ Hid (Row A g n c w0 wr f)) (fun av _ => ((intOf av) + 1).toNat)
  case atStart => exact ⟨n - 1, by omega, by go_num, Lib.hid rfl, hRr⟩
  case round =>
    clear hRr
    obtain ⟨k, hk, rfl, hP, hR⟩ := hrel
    cases k with
    | zero =>
      have hF := Lib.hid (hNo.out (by rw [hP.out]; exact hP0.out))
      have z1 : ¬ (0 : Int) ≤ ((0 : Nat) : Int) - 1 := by omega
      have z2 : decide ((0 : Int) ≤ ((0 : Nat) : Int) - 1) = false := decide_eq_false z1
      go_wp2_with fail
      go_quiet (fail)
      go_wp2
      exact hF.out _ (hR.out.drewN nq)
    | succ k =>
      have c1 := hR.out.cell (k := k) (by omega)
      have c2 := hR.out.cell (k := k + 1) (by omega)
      rw [show ((k + 1 : Nat) : Int) - 1 = (k : Int) by omega]
      have i1 : (k : Int) < (n : Int) := by omega
      have i2 : (k : Int) + 1 < (n : Int) := by omega
      have i3 : (0 : Int) ≤ (k : Int) + 1 := by omega
      have i4 : ((k : Int) + 1).toNat = k + 1 := by omega
      have i5 : (0 : Int) ≤ (k : Int) := by omega
      have i6 : decide ((0 : Int) ≤ (k : Int)) = true := decide_eq_true i5
      by_cases hlt : f k < f (k + 1)
      · have hPv := Lib.hid (show pivF f (n - 1) = some k by rw [hP.out, hPs.out, if_pos hlt])
        have hltH := Lib.hid hlt
        generalize hfa : f k = a at *
        generalize hfb : f (k + 1) = b at *
        have hFa := Lib.hid hfa
        have hFb := Lib.hid hfb
        clear hfa hfb
        have d1 : decide (b ≤ a) = false := decide_eq_false (by omega)
        have d2 : ¬ b ≤ a := by omega
        have hRk := Lib.hid hR.out
        have hk0 : ¬ (k : Int) < 0 := by omega
        clear hR hP
        go_wp2_with fail
        go_quiet (fail)
        have hRd := Lib.hid (hRk.out.drewN nq)
        clear hRk c1 c2
        generalize wr.drewN nq = w3 at *
        go_wp2
        go_loopw [4] (fun wv wq => ∃ j : Nat, j + 1 ≤ n ∧ k < j ∧ wv = .int .i64 (j : Nat) ∧ Hid (swpF f (f k) (n - 1) = swpF f (f k) j) ∧ Hid (Row A g n c w0 wq f)) (fun wv _ => (intOf wv).toNat)
        case atStart => exact ⟨n - 1, by omega, by omega, by go_num, Lib.hid rfl, hRd⟩
        case round =>
          clear hRd
          obtain ⟨j, hj, hkj, rfl, hJ, hR⟩ := hrel
          have c1 := hR.out.cell (k := k) (by omega)
          have c2 := hR.out.cell (k := j) (by omega)
          rw [hFa.out] at c1
          have j1 : (j : Int) < (n : Int) := by omega
          have hst := hQs.out (f k) (j - 1)
          rw [show j - 1 + 1 = j by omega, hFa.out] at hst
          have hEt := Lib.hid hst
          clear hst
          by_cases hja : f j ≤ a
          · have hJ2 := Lib.hid (show swpF f (f k) (n - 1) = swpF f (f k) (j - 1) by rw [hJ.out, hFa.out, hEt.out, if_neg (by omega)])
            have hkj2 := Lib.hid (show k < j - 1 by
              have : j ≠ k + 1 := fun e => by rw [e, hFb.out] at hja; omega
              omega)
            have d3 : decide (f j ≤ a) = true := decide_eq_true hja
            generalize f j = b2 at *
            go_wp2_with fail
            go_quiet (fail)
            go_wp2
            go_roundw
            case rel => exact ⟨j - 1, by omega, hkj2.out, by go_num, hJ2, Lib.hid (hR.out.drewN nq)⟩
            case measure => simp [intOf]; omega
          · have hJ2 := Lib.hid (show swpF f (f k) (n - 1) = j by rw [hJ.out, hFa.out, hEt.out, if_pos (by omega)])
            have d3 : decide (f j ≤ a) = false := decide_eq_false hja
            have hX := Lib.hid (hYes.out k hPv.out)
            rw [hJ2.out] at hX
            obtain ⟨b2, hb2⟩ : ∃ b2, f j = b2 := ⟨_, rfl⟩
            rw [hb2] at c2 d3 hja
            have hFj := Lib.hid hb2
            clear hb2
            go_wp2_with fail
            go_quiet (fail)
            have hRd := Lib.hid (hR.out.drewN nq)
            clear hR c1 c2
            generalize wr.drewN nq = w4 at *
            have c1 := hRd.out.cell (k := k) (by omega)
            have c2 := hRd.out.cell (k := j) (by omega)
            rw [hFa.out] at c1
            rw [hFj.out] at c2
            have f1 := hRd.out.frozen k
            have f2 := hRd.out.frozen j
            have hS := Lib.hid (hRd.out.swap k j)
            rw [hFa.out, hFj.out] at hS
            have hne := Lib.hid (show k ≠ j by omega)
            clear hRd
            go_wp2
            go_region
            go_wp2_with fail
            with_reducible refine (hRv.out (k + 1) _ _ hS.out (by omega)).mono ?_
            rintro e' w' ⟨⟨v9, rfl⟩, hR9⟩
            have hE9 := Lib.hid (hX.out w' hR9)
            clear hR9
            go_wp2_with fail
            exact hE9.out
      · have hP2 := Lib.hid (show pivF f (n - 1) = pivF f k by rw [hP.out, hPs.out, if_neg hlt])
        have d0 : f (k + 1) ≤ f k := by omega
        have d1 : decide (f (k + 1) ≤ f k) = true := decide_eq_true d0
        generalize f k = a at *
        generalize f (k + 1) = b at *
        go_wp2_with fail
        go_quiet (fail)
        go_wp2
        go_roundw
        case rel => exact ⟨k, by omega, by go_num, hP2, Lib.hid (hR.out.drewN nq)⟩
        case measure => first | (simp [intOf]; done) | (simp [intOf]; omega)
end Go.Proofs.Ytnkbnkiaokkjhaa
