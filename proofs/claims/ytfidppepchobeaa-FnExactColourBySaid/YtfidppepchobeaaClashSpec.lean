/- Contracts: which clashes are such; the model's side. -/
import Derived.Test.YtfidppepchobeaaClash
namespace Go.Proofs.Ytfidppepchobeaa
open Go.RowKit Go.Lst

set_option maxHeartbeats 4000000 in
theorem l07Clashes_any (B : Nat) (v : Value) (xs : List Int) (e : Int) (w : World) (h : LstI B w v xs) : Calls Try.prog 48 #[.int .i64 e, v] w (Ret (.bool (clashOk e xs)) w) := by
  have hK : clashOk e xs = (inB e 1 12 && decide (xs.length ≤ 64) && decide (xs.length % 2 = 0) && clashTo e xs xs.length) ∨ xs.length % 2 ≠ 0 := by
    by_cases he : xs.length % 2 = 0
    · left; unfold clashOk; rw [clash_eq e xs he]; simp only [Bool.and_assoc]
    · exact .inr he
  have hOdd : xs.length % 2 ≠ 0 → clashOk e xs = false := fun ho => by unfold clashOk; rw [decide_eq_false ho]; simp
  obtain ⟨a, cap, rfl, hl, hcap, hcm, hc⟩ := h.at_
  have hX := Lib.hid hc
  clear hc h
  have hM : Hid (∀ k, k ≤ xs.length → clashTo e xs k = false → clashTo e xs xs.length = false) := Lib.hid fun k hk hf => clashTo_no hf hk
  have hSt : Hid (∀ k, clashTo e xs (k + 1) = (clashTo e xs k && (inB (xs.getD k 0) 0 (e - 1) && !(decide (k % 2 = 1) && (xs.getD k 0 == xs.getD (k - 1) 0))))) := Lib.hid fun k => clashTo_succ e xs k
  generalize hq : clashOk e xs = q at *
  have hZ : Hid (clashTo e xs 0 = true) := Lib.hid rfl
  have hG : Hid (∀ (k : Nat) (y : Int), xs[k]? = some y → xs.getD k 0 = y) := Lib.hid fun k y hy => getD_of hy
  generalize clashTo e xs = T at *
  generalize hL : xs.length = m at *
  have HL := Lib.hid hL
  clear hL hq
  unfold maxLen at hl hcm
  cases h1 : inB e 1 12
  · have hF : q = false := by
      rcases hK with hK | hK
      · rw [hK, h1]; rfl
      · exact hOdd hK
    subst hF
    clear hK hOdd
    go_enter Try.func48, Try.ntmps48
    go_wp2_with (go_at_call 80; (with_reducible refine (l00In_is _ _ _ h1 _).mono ?_); rintro e' w' ⟨rfl, rfl⟩)
    go_ret
    exact ⟨0, rfl, rfl⟩
  · obtain ⟨g1, g2⟩ := inB_true h1
    have hw1 : IntKind.i64.wrap (e - 1) = e - 1 := IntWalk.i64_in _ (by omega)
    by_cases h2 : m ≤ 64
    · have d2 : decide ((64 : Int) < (m : Int)) = false := decide_eq_false (by omega)
      by_cases h3 : m % 2 = 0
      · have d3 : ((m : Int) % 2 != 0) = false := by rw [bne_eq_false_iff_eq]; omega
        have hF := Lib.hid (show q = T m by
          rcases hK with hK | hK
          · rw [hK, h1, decide_eq_true h2, decide_eq_true h3]; rfl
          · exact absurd h3 hK)
        clear hK hOdd
        go_enter Try.func48, Try.ntmps48
        go_wp2_with (go_at_call 80; (with_reducible refine (l00In_is _ _ _ h1 _).mono ?_); rintro e' w' ⟨rfl, rfl⟩)
        go_loopw [22] (fun i wr => ∃ k j : Nat, k ≤ m ∧ i = .int .i64 k ∧ Hid (T k = true) ∧ wr = w.drewN j) (fun i _ => m - (intOf i).toNat)
        case atStart => exact ⟨0, 0, Nat.zero_le _, rfl, hZ, rfl⟩
        case round =>
          obtain ⟨k, j, hk, rfl, hP, rfl⟩ := hrel
          by_cases hlt : k < m
          · obtain ⟨b, o, y, rfl, _, hy, hcell⟩ := hX.out k hlt
            have hgy := hG.out k y hy
            have hS1 := hSt.out k
            rw [hP.out, hgy, Bool.true_and] at hS1
            rw [← World.cell?_drewN (n := j)] at hcell
            have hk2 : (k : Int) < (m : Int) := by omega
            have hprev : Hid (k % 2 = 1 → ∃ z, (w.drewN j).cell? ⟨b, o + (k - 1), none⟩ = some (.int .i64 z) ∧ xs.getD (k - 1) 0 = z) := Lib.hid fun ho => by
              obtain ⟨b', o', z, he, _, hz, hcz⟩ := hX.out (k - 1) (by omega)
              injection he with he
              injection he with e1 e2 _
              subst e1 e2
              exact ⟨z, (World.cell?_drewN (n := j) ..).trans hcz, hG.out _ z hz⟩
            generalize hwo : w.drewN j = wo at *
            have hWo := Lib.hid hwo
            clear hwo hgy hy
            cases hq : inB y 0 (e - 1)
            · rw [hq, Bool.false_and] at hS1
              have hV := Lib.hid (hF.out.trans (hM.out (k + 1) (by omega) hS1))
              clear hS1 hprev
              go_wp2_with fail
              go_quiet ((go_at_call 80; with_reducible exact Ret.quiet (Ret.same (l00In_is _ _ _ hq _))))
              go_wp2
              go_ret
              exact ⟨_, ret_bool (by rw [hV.out]), by rw [← hWo.out, World.drewN_drewN]⟩
            · rw [hq, Bool.true_and] at hS1
              by_cases ho : k % 2 = 1
              · have d4 : ((k : Int) % 2 == 1) = true := by rw [beq_iff_eq]; omega
                obtain ⟨z, hcz, hgz⟩ := hprev.out ho
                have hk1 : (0 : Int) ≤ (k : Int) - 1 := by omega
                have hk3 : (k : Int) - 1 < (m : Int) := by omega
                have hk4 : ((k : Int) - 1).toNat = k - 1 := by omega
                have hw4 : IntKind.i64.wrap ((k : Int) - 1) = (k : Int) - 1 := IntWalk.i64_in _ (by omega)
                rw [decide_eq_true ho, Bool.true_and, hgz] at hS1
                clear hprev hgz
                cases hqz : (y == z)
                · rw [hqz] at hS1
                  have hP2 := Lib.hid (show T (k + 1) = true from hS1)
                  clear hS1
                  go_wp2_with fail
                  go_quiet ((go_at_call 80; with_reducible exact Ret.quiet (Ret.same (l00In_is _ _ _ hq _))))
                  go_wp2
                  go_roundw
                  case rel => exact ⟨k + 1, _, by omega, by go_num, hP2, by rw [← hWo.out, World.drewN_drewN]⟩
                  case measure => simp [intOf]; omega
                · rw [hqz] at hS1
                  have hV := Lib.hid (hF.out.trans (hM.out (k + 1) (by omega) hS1))
                  clear hS1
                  go_wp2_with fail
                  go_quiet ((go_at_call 80; with_reducible exact Ret.quiet (Ret.same (l00In_is _ _ _ hq _))))
                  go_wp2
                  go_ret
                  exact ⟨_, ret_bool (by rw [hV.out]), by rw [← hWo.out, World.drewN_drewN]⟩
              · have d4 : ((k : Int) % 2 == 1) = false := by rw [beq_eq_false_iff_ne]; omega
                rw [decide_eq_false ho, Bool.false_and] at hS1
                have hP2 := Lib.hid (show T (k + 1) = true from hS1)
                clear hS1 hprev
                go_wp2_with fail
                go_quiet ((go_at_call 80; with_reducible exact Ret.quiet (Ret.same (l00In_is _ _ _ hq _))))
                go_wp2
                go_roundw
                case rel => exact ⟨k + 1, _, by omega, by go_num, hP2, by rw [← hWo.out, World.drewN_drewN]⟩
                case measure => simp [intOf]; omega
          · obtain rfl : k = m := by omega
            have hV := Lib.hid (hF.out.trans hP.out)
            go_wp2
            go_ret
            exact ⟨_, ret_bool (by rw [hV.out]), rfl⟩
      · have d3 : ((m : Int) % 2 != 0) = true := by rw [bne_iff_ne]; omega
        have hF : q = false := hOdd h3
        subst hF
        clear hK hOdd
        go_enter Try.func48, Try.ntmps48
        go_wp2_with (go_at_call 80; (with_reducible refine (l00In_is _ _ _ h1 _).mono ?_); rintro e' w' ⟨rfl, rfl⟩)
        go_ret
        exact ⟨0, rfl, rfl⟩
    · have d2 : (64 : Int) < (m : Int) := by omega
      have hF : q = false := by
        rcases hK with hK | hK
        · rw [hK, decide_eq_false h2]; simp
        · exact hOdd hK
      subst hF
      clear hK hOdd
      go_enter Try.func48, Try.ntmps48
      go_wp2_with (go_at_call 80; (with_reducible refine (l00In_is _ _ _ h1 _).mono ?_); rintro e' w' ⟨rfl, rfl⟩)
      go_ret
      exact ⟨0, rfl, rfl⟩
end Go.Proofs.Ytfidppepchobeaa
