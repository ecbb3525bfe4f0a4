/- Contracts: which lists are talks; the model's side. -/
import Derived.Test.YtehobcmjjcmfnaaTalks
namespace Go.Proofs.Ytehobcmjjcmfnaa
open Go.RowKit Go.Lst

set_option maxHeartbeats 4000000 in
theorem l07Talks_any (B : Nat) (v : Value) (xs : List Int) (w : World) (h : LstI B w v xs) : Calls Try.prog 49 #[v] w (Ret (.bool (talksOk xs)) w) := by
  have hNo : Hid (¬ 2 ≤ xs.length → talksOk xs = false) := Lib.hid fun hh => by unfold talksOk; rw [decide_eq_false hh]; rfl
  have hNo2 : Hid (¬ xs.length ≤ 64 → talksOk xs = false) := Lib.hid fun hh => by unfold talksOk; rw [decide_eq_false hh, Bool.and_false]; rfl
  have hNo3 : Hid (¬ xs.length % 2 = 0 → talksOk xs = false) := Lib.hid fun hh => by unfold talksOk; rw [decide_eq_false hh, Bool.and_false]; rfl
  have hYes : Hid (2 ≤ xs.length → xs.length ≤ 64 → xs.length % 2 = 0 → talksOk xs = talksTo xs (xs.length / 2)) := Lib.hid fun h1 h2 h3 => by
    unfold talksOk; rw [decide_eq_true h1, decide_eq_true h2, decide_eq_true h3, talks_eq xs h3]; rfl
  obtain ⟨a, cap, rfl, hl, hcap, hcm, hc⟩ := h.at_
  have hX := Lib.hid hc
  clear hc h
  have hSt := Lib.hid (fun k => talksTo_succ xs k)
  have hM : Hid (∀ k, k ≤ xs.length / 2 → talksTo xs k = false → talksTo xs (xs.length / 2) = false) := Lib.hid fun k hk hf => talksTo_no hf hk
  have hZ : Hid (talksTo xs 0 = true) := Lib.hid rfl
  have hG : Hid (∀ (k : Nat) (y : Int), xs[k]? = some y → xs.getD k 0 = y) := Lib.hid fun k y hy => getD_of hy
  have hWf : Hid (∀ (k : Nat) (y : Int), xs[k]? = some y → True) := Lib.hid fun _ _ _ => trivial
  generalize talksOk xs = q at *
  generalize talksTo xs = T at *
  generalize xs.length = m at *
  unfold maxLen at hl hcm
  by_cases h1 : 2 ≤ m
  · have d1 : decide ((m : Int) < 2) = false := decide_eq_false (by omega)
    by_cases h2 : m ≤ 64
    · have d2 : decide ((64 : Int) < (m : Int)) = false := decide_eq_false (by omega)
      by_cases h3 : m % 2 = 0
      · have d3 : ((m : Int) % 2 != 0) = false := by rw [bne_eq_false_iff_eq]; omega
        have hF := Lib.hid (hYes.out h1 h2 h3)
        obtain ⟨M, hM0⟩ : ∃ M, m = 2 * M := ⟨m / 2, by omega⟩
        have hM2 : m / 2 = M := by omega
        rw [hM2] at hM hF
        have hMm := Lib.hid hM0
        clear hNo hNo2 hNo3 hYes hM0 hM2 h3
        go_enter Try.func49, Try.ntmps49
        go_wp2_with fail
        go_loopw [3] (fun i wr => ∃ t s j : Nat, t ≤ M ∧ i = .int .i64 (s : Int) ∧ Hid (s = 2 * t) ∧ Hid (T t = true) ∧ wr = w.drewN j) (fun i _ => m - (intOf i).toNat)
        case atStart => exact ⟨0, 0, 0, Nat.zero_le _, rfl, Lib.hid rfl, hZ, rfl⟩
        case round =>
          obtain ⟨t, s, j, ht, rfl, hS, hP, rfl⟩ := hrel
          by_cases hlt : t < M
          · obtain ⟨b, o, x, rfl, _, hx, hcx⟩ := hX.out s (by have := hS.out; have := hMm.out; omega)
            obtain ⟨b', o', y, he, _, hy, hcy⟩ := hX.out (s + 1) (by have := hS.out; have := hMm.out; omega)
            injection he with he
            injection he with e1 e2 _
            subst e1 e2
            have hSt1 := hSt.out t
            rw [hP.out, Bool.true_and, ← hS.out, hG.out _ _ hx, hG.out _ _ hy] at hSt1
            rw [← World.cell?_drewN (n := j)] at hcx hcy
            have j1 : (s : Int) < (m : Int) := by have := hS.out; have := hMm.out; omega
            have j2 : (s : Int) + 1 < (m : Int) := by have := hS.out; have := hMm.out; omega
            have j3 : (0 : Int) ≤ (s : Int) + 1 := by omega
            have j4 : ((s : Int) + 1).toNat = s + 1 := by omega
            have j5 : IntKind.i64.wrap ((s : Int) + 1) = (s : Int) + 1 := IntWalk.i64_in _ (by omega)
            have hTt := Lib.hid hlt
            clear hx hy hlt
            generalize hwo : w.drewN j = wo at *
            have hWo := Lib.hid hwo
            clear hwo
            cases hq : inB x 0 10000
            · rw [hq, Bool.false_and] at hSt1
              have hV := Lib.hid (hF.out.trans (hM.out (t + 1) (by have := hTt.out; omega) hSt1))
              clear hSt1
              go_wp2_with fail
              go_quiet ((go_at_call 42; with_reducible exact Ret.quiet (Ret.same (l00In_is _ _ _ hq _))))
              go_wp2
              go_ret
              exact ⟨_, ret_bool (by rw [hV.out]), by rw [← hWo.out, World.drewN_drewN]⟩
            · obtain ⟨x1, x2⟩ := inB_true hq
              have j6 : IntKind.i64.wrap (x + 1) = x + 1 := IntWalk.i64_in _ (by omega)
              rw [hq, Bool.true_and] at hSt1
              cases hq2 : inB y (x + 1) 10000
              · rw [hq2] at hSt1
                have hV := Lib.hid (hF.out.trans (hM.out (t + 1) (by have := hTt.out; omega) hSt1))
                clear hSt1
                go_wp2_with fail
                go_quiet ((go_at_call 42; first | with_reducible exact Ret.quiet (Ret.same (l00In_is _ _ _ hq _)) | with_reducible exact Ret.quiet (Ret.same (l00In_is _ _ _ hq2 _))))
                go_wp2
                go_ret
                exact ⟨_, ret_bool (by rw [hV.out]), by rw [← hWo.out, World.drewN_drewN]⟩
              · rw [hq2] at hSt1
                have hP2 := Lib.hid (show T (t + 1) = true from hSt1)
                clear hSt1 hP
                go_wp2_with fail
                go_quiet ((go_at_call 42; first | with_reducible exact Ret.quiet (Ret.same (l00In_is _ _ _ hq _)) | with_reducible exact Ret.quiet (Ret.same (l00In_is _ _ _ hq2 _))))
                go_wp2
                go_roundw
                case rel => exact ⟨t + 1, s + 2, _, by have := hTt.out; omega, by first | rfl | go_num, Lib.hid (by have := hS.out; omega), hP2, by rw [← hWo.out, World.drewN_drewN]⟩
                case measure => have := hTt.out; have := hS.out; have := hMm.out; simp [intOf]; omega
          · have hV := Lib.hid (hF.out.trans (show T M = true by rw [show M = t by omega]; exact hP.out))
            have hge : ¬ (s : Int) < (m : Int) := by have := hS.out; have := hMm.out; omega
            go_wp2_with fail
            go_ret
            exact ⟨_, ret_bool (by rw [hV.out]), rfl⟩
      · have d3 : ((m : Int) % 2 != 0) = true := by rw [bne_iff_ne]; omega
        have hF := hNo3.out h3
        subst hF
        go_enter Try.func49, Try.ntmps49
        go_wp2_with fail
        go_ret
        exact ⟨0, rfl, rfl⟩
    · have d2 : (64 : Int) < (m : Int) := by omega
      have hF := hNo2.out h2
      subst hF
      go_enter Try.func49, Try.ntmps49
      go_wp2_with fail
      go_ret
      exact ⟨0, rfl, rfl⟩
  · have d1 : (m : Int) < 2 := by omega
    have hF := hNo.out h1
    subst hF
    go_enter Try.func49, Try.ntmps49
    go_wp2_with fail
    go_ret
    exact ⟨0, rfl, rfl⟩
end Go.Proofs.Ytehobcmjjcmfnaa
