/- Contracts: the next order, in the model. No condition. -/
import Derived.Test.YtnkbnkiaokkjhaaPermImpl
namespace Go.Proofs.Ytnkbnkiaokkjhaa
open Go.RowKit Go.Lst Srt

set_option maxHeartbeats 8000000 in
set_option maxRecDepth 100000 in
theorem l02NextOrder_any (A g n c : Nat) (f : Nat → Int) (w0 w : World) (hR0 : Row A g n c w0 w f) (hn1 : 1 ≤ n) (hn : n ≤ 24) (ho : OrdF n f) : Calls Try.prog 21 #[.slice (some ⟨g, 0, none⟩) n c] w (NextPost A g n c w0 f) := by
  have hNo : Hid (pivF f (n - 1) = none → ∀ w', Row A g n c w0 w' f → NextPost A g n c w0 f (.returned (.bool false)) w') := Lib.hid fun h w' hR => next_no h hR
  have hYes : Hid (∀ i, pivF f (n - 1) = some i → ∀ w', Row A g n c w0 w' (revA n (i + 1) (Srt.swap f i (swpF f (f i) (n - 1)))) → NextPost A g n c w0 f (.returned (.bool true)) w') := Lib.hid fun i h w' hR => next_yes h hR
  have hKs := Lib.hid (fun b k f' (h : b + k < n - 1 - k) => revK_swap (n := n) (b := b) (k := k) f' h)
  have hKz := Lib.hid (fun b f' => revK_zero n b f')
  have hKd := Lib.hid (fun b k f' (W : World) (h1 : n - 1 - k ≤ b + k) (h2 : b + k ≤ n) (hR : Row A g n c w0 W (revK n b k f')) => (show Row A g n c w0 W (revA n b f') from ⟨by rw [← cellsF_congr (revK_done f' h1 h2)]; exact hR.own, hR.kept⟩))
  have hP0 := Lib.hid (show pivF f 0 = none from rfl)
  have hPs := Lib.hid (fun k => (show pivF f (k + 1) = if f k < f (k + 1) then some k else pivF f k from rfl))
  have hQs := Lib.hid (fun a k => (show swpF f a (k + 1) = if a < f (k + 1) then k + 1 else swpF f a k from rfl))
  have hO := Lib.hid ho
  generalize NextPost A g n c w0 f = Q at *
  have hRr := Lib.hid hR0
  clear hR0 ho
  have hwn : IntKind.i64.wrap ((n : Int) - 2) = (n : Int) - 2 := IntWalk.i64_in _ (by omega)
  go_enter Try.func21, Try.ntmps21
  go_wp2_with fail
  go_loopw [3] (fun av wr => ∃ k : Nat, k + 1 ≤ n ∧ av = .int .i64 ((k : Int) - 1) ∧ Hid (pivF f (n - 1) = pivF f k) ∧ Hid (Row A g n c w0 wr f)) (fun av _ => ((intOf av) + 1).toNat)
  case atStart => exact ⟨n - 1, by omega, by go_num, Lib.hid rfl, hRr⟩
  case round =>
    clear hRr
    obtain ⟨k, hk, rfl, hP, hR⟩ := hrel
    cases k with
    | zero =>
      have hF := Lib.hid (hNo.out (by rw [hP.out]; exact hP0.out))
      have z1 : ¬ (0 : Int) ≤ ((0 : Nat) : Int) - 1 := by omega
      have z2 : decide ((0 : Int) ≤ ((0 : Nat) : Int) - 1) = false := decide_eq_false z1
      go_wp2_with fail
      go_quiet (fail)
      go_wp2
      exact hF.out _ (hR.out.drewN nq)
    | succ k =>
      have c1 := hR.out.cell (k := k) (by omega)
      have c2 := hR.out.cell (k := k + 1) (by omega)
      rw [show ((k + 1 : Nat) : Int) - 1 = (k : Int) by omega]
      have i1 : (k : Int) < (n : Int) := by omega
      have i2 : (k : Int) + 1 < (n : Int) := by omega
      have i3 : (0 : Int) ≤ (k : Int) + 1 := by omega
      have i4 : ((k : Int) + 1).toNat = k + 1 := by omega
      have i5 : (0 : Int) ≤ (k : Int) := by omega
      have i6 : decide ((0 : Int) ≤ (k : Int)) = true := decide_eq_true i5
      by_cases hlt : f k < f (k + 1)
      · have hPv := Lib.hid (show pivF f (n - 1) = some k by rw [hP.out, hPs.out, if_pos hlt])
        have hltH := Lib.hid hlt
        generalize hfa : f k = a at *
        generalize hfb : f (k + 1) = b at *
        have hFa := Lib.hid hfa
        have hFb := Lib.hid hfb
        clear hfa hfb
        have d1 : decide (b < a) = false := decide_eq_false (by omega)
        have d2 : ¬ b < a := by omega
        have hRk := Lib.hid hR.out
        have hk0 : ¬ (k : Int) < 0 := by omega
        clear hR hP
        go_wp2_with fail
        go_quiet (fail)
        have hRd := Lib.hid (hRk.out.drewN nq)
        clear hRk c1 c2
        generalize wr.drewN nq = w3 at *
        go_wp2
        go_loopw [4] (fun wv wq => ∃ j : Nat, j + 1 ≤ n ∧ k < j ∧ wv = .int .i64 (j : Nat) ∧ Hid (swpF f (f k) (n - 1) = swpF f (f k) j) ∧ Hid (Row A g n c w0 wq f)) (fun wv _ => (intOf wv).toNat)
        case atStart => exact ⟨n - 1, by omega, by omega, by go_num, Lib.hid rfl, hRd⟩
        case round =>
          clear hRd
          obtain ⟨j, hj, hkj, rfl, hJ, hR⟩ := hrel
          have c1 := hR.out.cell (k := k) (by omega)
          have c2 := hR.out.cell (k := j) (by omega)
          rw [hFa.out] at c1
          have j1 : (j : Int) < (n : Int) := by omega
          have hst := hQs.out (f k) (j - 1)
          rw [show j - 1 + 1 = j by omega, hFa.out] at hst
          have hEt := Lib.hid hst
          clear hst
          by_cases hja : f j < a
          · have hJ2 := Lib.hid (show swpF f (f k) (n - 1) = swpF f (f k) (j - 1) by rw [hJ.out, hFa.out, hEt.out, if_neg (by omega)])
            have hkj2 := Lib.hid (show k < j - 1 by
              have : j ≠ k + 1 := fun e => by rw [e, hFb.out] at hja; omega
              omega)
            have d3 : decide (f j < a) = true := decide_eq_true hja
            generalize f j = b2 at *
            go_wp2_with fail
            go_quiet (fail)
            go_wp2
            go_roundw
            case rel => exact ⟨j - 1, by omega, hkj2.out, by go_num, hJ2, Lib.hid (hR.out.drewN nq)⟩
            case measure => simp [intOf]; omega
          · have hJ2 := Lib.hid (show swpF f (f k) (n - 1) = j by rw [hJ.out, hFa.out, hEt.out, if_pos (by have h9 := hO.out.2 k j (by omega) (by omega); rw [hFa.out] at h9; omega)])
            have d3 : decide (f j < a) = false := decide_eq_false hja
            have hX := Lib.hid (hYes.out k hPv.out)
            rw [hJ2.out] at hX
            obtain ⟨b2, hb2⟩ : ∃ b2, f j = b2 := ⟨_, rfl⟩
            rw [hb2] at c2 d3 hja
            have hFj := Lib.hid hb2
            clear hb2
            go_wp2_with fail
            go_quiet (fail)
            have hRd := Lib.hid (hR.out.drewN nq)
            clear hR c1 c2
            generalize wr.drewN nq = w4 at *
            have c1 := hRd.out.cell (k := k) (by omega)
            have c2 := hRd.out.cell (k := j) (by omega)
            rw [hFa.out] at c1
            rw [hFj.out] at c2
            have f1 := hRd.out.frozen k
            have f2 := hRd.out.frozen j
            have hS0 := (hRd.out.set k b2).set j a
            have hsw := swap_upd f k j
            rw [hFa.out, hFj.out] at hsw
            rw [hsw] at hS0
            have hS := Lib.hid (show Row A g n c w0 _ (revK n (k + 1) 0 (Srt.swap f k j)) by rw [hKz.out]; exact hS0)
            have hwn1 : IntKind.i64.wrap ((n : Int) - 1) = (n : Int) - 1 := IntWalk.i64_in _ (by omega)
            have hXx := Lib.hid (fun w' q (h1 : n - 1 - q ≤ k + 1 + q) (h2 : k + 1 + q ≤ n) hR => hX.out w' (hKd.out (k + 1) q (Srt.swap f k j) w' h1 h2 hR))
            have hne : k ≠ j := by omega
            clear hRd hS0 hsw hX
            go_wp2
            generalize ((w4.setCell _ _).setCell _ _) = w5 at *
            go_loopw [6, 7] (fun bv av wq => ∃ q x y : Nat, x = k + 1 + q ∧ y + 1 + q = n ∧ k + 1 + q ≤ y + 1 ∧ bv = .int .i64 (y : Nat) ∧ av = .int .i64 (x : Nat) ∧ Hid (Row A g n c w0 wq (revK n (k + 1) q (Srt.swap f k j)))) (fun _ av _ => n - (intOf av).toNat)
            case atStart => exact ⟨0, k + 1, n - 1, rfl, by omega, by omega, by go_num, by go_num, hS⟩
            case round =>
              clear hS
              obtain ⟨q, x, y, hx, hy, hxy, rfl, rfl, hR⟩ := hrel
              have hwy : IntKind.i64.wrap ((y : Int) - 1) = (y : Int) - 1 := IntWalk.i64_in _ (by omega)
              have hwx : IntKind.i64.wrap ((x : Int) + 1) = (x : Int) + 1 := IntWalk.i64_in _ (by omega)
              by_cases hlt2 : x < y
              · have hS2 := hKs.out (k + 1) q (Srt.swap f k j) (by omega)
                rw [← hx, show n - 1 - q = y by omega] at hS2
                have c3 := hR.out.cell (k := x) (by omega)
                have c4 := hR.out.cell (k := y) (by omega)
                have f3 := hR.out.frozen x
                have f4 := hR.out.frozen y
                have hS3 := (hR.out.set x (revK n (k + 1) q (Srt.swap f k j) y)).set y (revK n (k + 1) q (Srt.swap f k j) x)
                rw [swap_upd, hS2] at hS3
                have hS4 := Lib.hid hS3
                have x1 : (x : Int) < (y : Int) := by omega
                have x2 : (x : Int) < (n : Int) := by omega
                have x3 : (y : Int) < (n : Int) := by omega
                have x4 : x ≠ y := by omega
                have x5 : y ≠ x := by omega
                clear hS2 hS3
                generalize hu : revK n (k + 1) q (Srt.swap f k j) x = u at *
                generalize hv : revK n (k + 1) q (Srt.swap f k j) y = v at *
                have hXy := Lib.hid (And.intro hx hy)
                clear hu hv hR hx hy
                go_wp2_with fail
                go_roundw
                case rel => exact ⟨q + 1, x + 1, y - 1, by have := hXy.out; omega, by have := hXy.out; omega, by have := hXy.out; omega, by go_num, by go_num, hS4⟩
                case measure => simp [intOf]; omega
              · have x1 : ¬ (x : Int) < (y : Int) := by omega
                have hE := Lib.hid (hXx.out wr q (by omega) (by omega) hR.out)
                clear hx hy
                go_wp2_with fail
                exact hE.out
      · have hP2 := Lib.hid (show pivF f (n - 1) = pivF f k by rw [hP.out, hPs.out, if_neg hlt])
        have d0 : f (k + 1) < f k := by have h9 := hO.out.2 k (k + 1) (by omega) (by omega); omega
        have d1 : decide (f (k + 1) < f k) = true := decide_eq_true d0
        generalize f k = a at *
        generalize f (k + 1) = b at *
        go_wp2_with fail
        go_quiet (fail)
        go_wp2
        go_roundw
        case rel => exact ⟨k, by omega, by go_num, hP2, Lib.hid (hR.out.drewN nq)⟩
        case measure => first | (simp [intOf]; done) | (simp [intOf]; omega)
end Go.Proofs.Ytnkbnkiaokkjhaa
