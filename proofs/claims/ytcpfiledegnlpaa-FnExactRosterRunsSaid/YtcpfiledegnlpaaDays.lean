/- Contracts: texts of days, and their longest runs. -/
import Derived.Test.YtcpfiledegnlpaaLetters
import Derived.Test.YtcpfiledegnlpaaTimes
import Derived.IntWalk
namespace Go.Proofs.Ytcpfiledegnlpaa
open Go.RowKit Go.Lst

set_option maxHeartbeats 400000 in
theorem areRosterDays_any (s : ByteArray) (most : Nat) (hs : s.size ≤ maxLen) (hm : most ≤ 1048576) (w : World) : Calls Try.prog 75 #[.string s, .int .i64 most] w fun e w' => e = .returned (.bool (lettersB dayP s most)) ∧ Below w.heap.size w w' := by
  have hL := Lib.hid (day_letters s most hs hm w)
  generalize lettersB dayP s most = q at *
  go_enter Try.func75, Try.ntmps75
  go_wp2_with fail
  refine (hL.out).mono ?_
  rintro e w' ⟨rfl, hb⟩
  have hB := Lib.hid hb
  clear hb
  go_wp2_with fail
  go_ret
  exact ⟨rfl, hB.out⟩
set_option maxHeartbeats 2000000 in
theorem l06Days_any (s : ByteArray) (most : Nat) (hs : s.size ≤ maxLen) (hm : most ≤ 1048576) (w : World) : Calls Try.prog 74 #[.string s, .int .i64 most] w fun e w' => e = .returned (.bool (lettersB dayP s most)) ∧ w = w' := by
  unfold maxLen at hs
  have hM : Hid (∀ k, k < s.size → dayP ((s.data.toList.getD k 0).toNat : Int) = false → lettersB dayP s most = false) := Lib.hid fun k hk hp => lettersB_3 hk hp
  have hN : Hid (∀ k, (k = s.size ∨ most < k) → k ≤ s.size → (∀ i, i < k → dayP ((s.data.toList.getD i 0).toNat : Int) = true) → lettersB dayP s most = (decide (1 ≤ s.size) && decide (s.size ≤ most))) := Lib.hid fun k hk hks hp => by
    by_cases h2 : most < s.size
    · rw [lettersB_2 h2, decide_eq_false (show ¬ s.size ≤ most by omega), Bool.and_false]
    · have hkk : k = s.size := by omega
      subst hkk
      by_cases h1 : s.size < 1
      · rw [lettersB_1 h1, decide_eq_false (show ¬ 1 ≤ s.size by omega)]; rfl
      · rw [lettersB_4 (by omega) (by omega) hp, decide_eq_true (show 1 ≤ s.size by omega), decide_eq_true (show s.size ≤ most by omega)]; rfl
  generalize lettersB dayP s most = q at *
  go_enter Try.func74, Try.ntmps74
  go_wp2_with fail
  go_loopw [5] (fun i wr => ∃ k : Nat, k ≤ s.size ∧ k ≤ most + 1 ∧ i = .int .i64 k ∧ Hid (∀ i, i < k → dayP ((s.data.toList.getD i 0).toNat : Int) = true) ∧ w = wr) (fun i _ => s.size - (intOf i).toNat)
  case atStart => exact ⟨0, Nat.zero_le _, Nat.zero_le _, rfl, Lib.hid (fun i hi => by omega), rfl⟩
  case round =>
    obtain ⟨k, hk, hkm, rfl, hP, rfl⟩ := hrel
    by_cases hlt : k < s.size
    · by_cases hle : k ≤ most
      · have hd : decide (k ≤ most) = true := decide_eq_true hle
        have hgd := Lib.hid (byte_getD s k hlt)
        cases hq : dayP ((s[k]'hlt).toNat : Int)
        · have hF := Lib.hid (hM.out k hlt (by rw [hgd.out]; exact hq))
          have h1 : ¬ (s[k]'hlt).toNat = 46 := fun h => by rw [h] at hq; cases hq
          have h2 : (s[k]'hlt).toNat < 97 ∨ 122 < (s[k]'hlt).toNat := by
            by_cases a : (s[k]'hlt).toNat < 97
            · exact .inl a
            · by_cases b : 122 < (s[k]'hlt).toNat
              · exact .inr b
              · exfalso
                unfold dayP at hq
                rw [decide_eq_true (show (97 : Int) ≤ ((s[k]'hlt).toNat : Int) by omega), decide_eq_true (show ((s[k]'hlt).toNat : Int) ≤ 122 by omega)] at hq
                simp at hq
          have hb1 : (((s[k]'hlt).toNat : Int) != 46) = true := by rw [bne_iff_ne]; omega
          rcases h2 with h2 | h2
          · have d2 : decide (((s[k]'hlt).toNat : Int) < 97) = true := decide_eq_true (by omega)
            clear hq
            go_wp2_with fail
            go_ret
            exact ⟨ret_bool (by rw [hF.out]), rfl⟩
          · have d2 : decide (((s[k]'hlt).toNat : Int) < 97) = false := decide_eq_false (by omega)
            have d3 : decide ((122 : Int) < ((s[k]'hlt).toNat : Int)) = true := decide_eq_true (by omega)
            clear hq
            go_wp2_with fail
            go_ret
            exact ⟨ret_bool (by rw [hF.out]), rfl⟩
        · have hP2 : Hid (∀ i, i < k + 1 → dayP ((s.data.toList.getD i 0).toNat : Int) = true) := Lib.hid fun i hi => by
            by_cases h1 : i < k
            · exact hP.out i h1
            · obtain rfl : i = k := by omega
              rw [hgd.out]; exact hq
          by_cases h1 : (s[k]'hlt).toNat = 46
          · have hb1 : (((s[k]'hlt).toNat : Int) != 46) = false := by rw [h1]; rfl
            clear hq h1
            go_wp2_with fail
            go_roundw
            case rel => exact ⟨k + 1, by omega, by omega, by go_num, hP2, by trivial⟩
            case measure => simp [intOf]; omega
          · have hb1 : (((s[k]'hlt).toNat : Int) != 46) = true := by rw [bne_iff_ne]; omega
            have h2 : 97 ≤ (s[k]'hlt).toNat ∧ (s[k]'hlt).toNat ≤ 122 := by
              unfold dayP at hq
              rw [decide_eq_false (show ¬ ((s[k]'hlt).toNat : Int) = 46 by omega), Bool.false_or] at hq
              simp only [Bool.and_eq_true, decide_eq_true_eq] at hq
              omega
            have d2 : decide (((s[k]'hlt).toNat : Int) < 97) = false := decide_eq_false (by omega)
            have d3 : decide ((122 : Int) < ((s[k]'hlt).toNat : Int)) = false := decide_eq_false (by omega)
            clear hq h1
            go_wp2_with fail
            go_roundw
            case rel => exact ⟨k + 1, by omega, by omega, by go_num, hP2, by trivial⟩
            case measure => simp [intOf]; omega
      · have hd : decide (k ≤ most) = false := decide_eq_false hle
        have hF := Lib.hid (hN.out k (.inr (by omega)) hk hP.out)
        have d1 : decide (1 ≤ s.size) = true := decide_eq_true (by omega)
        have d2 : decide (s.size ≤ most) = false := decide_eq_false (by omega)
        have hF2 := Lib.hid (show q = false by rw [hF.out, d2, Bool.and_false])
        go_wp2_with fail
        go_ret
        exact ⟨ret_bool (by rw [hF2.out]), rfl⟩
    · have hF := Lib.hid (hN.out k (.inl (by omega)) hk hP.out)
      by_cases h1 : 1 ≤ s.size
      · by_cases h2 : s.size ≤ most
        · have hF2 := Lib.hid (show q = true by rw [hF.out]; simp [h1, h2])
          have d2 : decide (s.size ≤ most) = true := decide_eq_true h2
          go_wp2_with fail
          go_ret
          exact ⟨ret_bool (by rw [hF2.out]), rfl⟩
        · have hF2 := Lib.hid (show q = false by rw [hF.out]; simp [h2])
          have d2 : decide (s.size ≤ most) = false := decide_eq_false h2
          go_wp2_with fail
          go_ret
          exact ⟨ret_bool (by rw [hF2.out]), rfl⟩
      · have hF2 := Lib.hid (show q = false by rw [hF.out]; simp [h1])
        have d1 : decide (1 ≤ s.size) = false := decide_eq_false h1
        go_wp2_with fail
        go_ret
        exact ⟨ret_bool (by rw [hF2.out]), rfl⟩
/-- Worked and free days so far, and the most of both. -/
def runAt (s : ByteArray) : Nat → Int × Int × Int × Int
  | 0 => (0, 0, 0, 0)
  | k + 1 => if (s.data.toList.getD k 0).toNat = 46 then (0, (runAt s k).2.1 + 1, max (runAt s k).2.2.1 0, max (runAt s k).2.2.2 ((runAt s k).2.1 + 1))
    else ((runAt s k).1 + 1, 0, max (runAt s k).2.2.1 ((runAt s k).1 + 1), max (runAt s k).2.2.2 0)
theorem runAt_yes {s : ByteArray} {k : Nat} {a b c d : Int} (h : runAt s k = (a, b, c, d)) (h46 : (s.data.toList.getD k 0).toNat = 46) : runAt s (k + 1) = (0, b + 1, max c 0, max d (b + 1)) := by
  unfold runAt; rw [if_pos h46, h]
theorem runAt_no {s : ByteArray} {k : Nat} {a b c d : Int} (h : runAt s k = (a, b, c, d)) (h46 : ¬ (s.data.toList.getD k 0).toNat = 46) : runAt s (k + 1) = (a + 1, 0, max c (a + 1), max d 0) := by
  unfold runAt; rw [if_neg h46, h]
def runsA (s : ByteArray) : Int := if lettersB dayP s 128 then (runAt s s.size).2.2.1 else 0
def runsB (s : ByteArray) : Int := if lettersB dayP s 128 then (runAt s s.size).2.2.2 else 0
def TwoPost (x y : Int) (ok : Bool) (w : World) (e : Ending) (w' : World) : Prop := e = .returned (.tuple #[.int .i64 x, .int .i64 y, .bool ok]) ∧ Below w.heap.size w w'
set_option maxHeartbeats 4000000 in
theorem implRuns_any (s : ByteArray) (hs : s.size ≤ maxLen) (w : World) : Calls Try.prog 51 #[.string s] w (TwoPost (runsA s) (runsB s) (lettersB dayP s 128) w) := by
  have hL : Hid (Calls Try.prog 75 #[.string s, .int .i64 128] w fun e w' => e = .returned (.bool (lettersB dayP s 128)) ∧ Below w.heap.size w w') := Lib.hid (areRosterDays_any s 128 hs (by omega) w)
  cases hq : lettersB dayP s 128
  · rw [hq] at hL
    have hP : Hid (∀ w', Below w.heap.size w w' → TwoPost (runsA s) (runsB s) false w (.returned (.tuple #[.int .i64 0, .int .i64 0, .bool false])) w') := Lib.hid fun w' hb => by unfold TwoPost runsA runsB; rw [hq]; exact ⟨rfl, hb⟩
    generalize TwoPost (runsA s) (runsB s) false w = Q at *
    clear hq
    go_enter Try.func51, Try.ntmps51
    go_wp2_with (go_at_call 75; (with_reducible refine (hL.out).mono ?_); rintro e w1 ⟨rfl, hb⟩; have hB1 := Lib.hid hb; clear hb)
    go_ret3
    exact hP.out _ hB1.out
  rw [hq] at hL
  obtain ⟨n1, n128, hday⟩ := lettersB_of hq
  have hD := Lib.hid hday
  have hP : Hid (∀ w' a b c d, runAt s s.size = (a, b, c, d) → Below w.heap.size w w' → TwoPost (runsA s) (runsB s) true w (.returned (.tuple #[.int .i64 c, .int .i64 d, .bool true])) w') := Lib.hid fun w' a b c d h hb => by
    unfold TwoPost runsA runsB; rw [hq, if_pos rfl, if_pos rfl, h]; exact ⟨rfl, hb⟩
  generalize TwoPost (runsA s) (runsB s) true w = Q at *
  clear hq hday
  unfold maxLen at hs
  go_enter Try.func51, Try.ntmps51
  go_wp2_with (go_at_call 75; (with_reducible refine (hL.out).mono ?_); rintro e w1 ⟨rfl, hb⟩; have hB1 := Lib.hid hb; clear hb)
  go_loopw [5, 6, 7, 8] (fun av bv cv dv wr => ∃ (k : Nat) (a b c d : Int), k ≤ s.size ∧ wr = w1.iter s k ∧ av = .int .i64 a ∧ bv = .int .i64 b ∧ cv = .int .i64 c ∧ dv = .int .i64 d ∧ Hid (runAt s k = (a, b, c, d)) ∧ 0 ≤ a ∧ a ≤ k ∧ 0 ≤ b ∧ b ≤ k) (fun _ _ _ _ wr => s.size - wr.iterPos w1.heap.size)
  case atStart => exact ⟨0, 0, 0, 0, 0, Nat.zero_le _, rfl, rfl, rfl, rfl, rfl, Lib.hid rfl, by omega, by omega, by omega, by omega⟩
  case round =>
    obtain ⟨k, a, b, c, d, hk, rfl, rfl, rfl, rfl, rfl, hR, a0, a1, b0, b1⟩ := hrel
    have hG : Hid (∀ p, Below w.heap.size w (w1.iter s p)) := Lib.hid fun p => below_on hB1.out (Nat.le_refl _) (below_iter w1 s p)
    by_cases hlt : k < s.size
    · have hgd := Lib.hid (byte_getD s k hlt)
      have h128 : (s[k]'hlt).toNat < 128 := by
        by_cases h : (s[k]'hlt).toNat < 128
        · exact h
        · have h1 := hD.out k hlt
          rw [hgd.out, day_high (by omega)] at h1; cases h1
      have hnx : ∀ ty, _ := fun ty => run_next_ascii (P := Try.prog) w1 s k ty hlt h128
      have hw1 : IntKind.i64.wrap (a + 1) = a + 1 := IntWalk.i64_in _ (by omega)
      have hw2 : IntKind.i64.wrap (b + 1) = b + 1 := IntWalk.i64_in _ (by omega)
      by_cases h46 : (s[k]'hlt).toNat = 46
      · have hR2 := Lib.hid (runAt_yes hR.out (by rw [hgd.out]; exact h46))
        have hb46 : (((s[k]'hlt).toNat : Int) == 46) = true := by rw [h46]; rfl
        clear h46
        go_wp2_with fail
        all_goals
          simp only [mx_eq]
          go_roundw
          case rel => exact ⟨k + 1, _, _, _, _, by omega, rfl, rfl, rfl, rfl, rfl, hR2, by omega, by omega, by omega, by omega⟩
          case measure => simp; omega
      · have hR2 := Lib.hid (runAt_no hR.out (by rw [hgd.out]; exact h46))
        have hb46 : (((s[k]'hlt).toNat : Int) == 46) = false := by rw [beq_eq_false_iff_ne]; omega
        clear h46
        go_wp2_with fail
        all_goals
          simp only [mx_eq]
          go_roundw
          case rel => exact ⟨k + 1, _, _, _, _, by omega, rfl, rfl, rfl, rfl, rfl, hR2, by omega, by omega, by omega, by omega⟩
          case measure => simp; omega
    · have hnx : ∀ ty, _ := fun ty => run_next_end (P := Try.prog) w1 s k ty hlt
      have hF := Lib.hid (hP.out _ a b c d (by rw [show s.size = k by omega]; exact hR.out) (hG.out k))
      have hG2 := Lib.hid (fun p => hP.out (w1.iter s p) a b c d (by rw [show s.size = k by omega]; exact hR.out) (hG.out p))
      go_wp2_with fail
      go_ret3
      first | exact hF.out | exact hG2.out _
set_option maxHeartbeats 4000000 in
theorem specRuns_any (s : ByteArray) (hs : s.size ≤ maxLen) (w : World) : Calls Try.prog 50 #[.string s] w (TwoPost (runsA s) (runsB s) (lettersB dayP s 128) w) := by
  have hL : Hid (Calls Try.prog 74 #[.string s, .int .i64 128] w fun e w' => e = .returned (.bool (lettersB dayP s 128)) ∧ w = w') := Lib.hid (l06Days_any s 128 hs (by omega) w)
  cases hq : lettersB dayP s 128
  · rw [hq] at hL
    have hP : Hid (TwoPost (runsA s) (runsB s) false w (.returned (.tuple #[.int .i64 0, .int .i64 0, .bool false])) w) := Lib.hid (by unfold TwoPost runsA runsB; rw [hq]; exact ⟨rfl, Below.refl _ _⟩)
    generalize TwoPost (runsA s) (runsB s) false w = Q at *
    clear hq
    go_enter Try.func50, Try.ntmps50
    go_wp2_with (go_at_call 74; (with_reducible refine (hL.out).mono ?_); rintro e w1 ⟨rfl, rfl⟩)
    go_ret3
    exact hP.out
  rw [hq] at hL
  obtain ⟨n1, n128, -⟩ := lettersB_of hq
  have hP : Hid (∀ a b c d, runAt s s.size = (a, b, c, d) → TwoPost (runsA s) (runsB s) true w (.returned (.tuple #[.int .i64 c, .int .i64 d, .bool true])) w) := Lib.hid fun a b c d h => by
    unfold TwoPost runsA runsB; rw [hq, if_pos rfl, if_pos rfl, h]; exact ⟨rfl, Below.refl _ _⟩
  generalize TwoPost (runsA s) (runsB s) true w = Q at *
  clear hq
  unfold maxLen at hs
  go_enter Try.func50, Try.ntmps50
  go_wp2_with (go_at_call 74; (with_reducible refine (hL.out).mono ?_); rintro e w1 ⟨rfl, rfl⟩)
  go_loopw [5, 6, 7, 8, 9] (fun av bv cv dv iv wr => ∃ (k : Nat) (a b c d : Int), k ≤ s.size ∧ iv = .int .i64 k ∧ av = .int .i64 a ∧ bv = .int .i64 b ∧ cv = .int .i64 c ∧ dv = .int .i64 d ∧ Hid (runAt s k = (a, b, c, d)) ∧ 0 ≤ a ∧ a ≤ k ∧ 0 ≤ b ∧ b ≤ k ∧ w = wr) (fun _ _ _ _ iv _ => s.size - (intOf iv).toNat)
  case atStart => exact ⟨0, 0, 0, 0, 0, Nat.zero_le _, rfl, rfl, rfl, rfl, rfl, Lib.hid rfl, by omega, by omega, by omega, by omega, rfl⟩
  case round =>
    obtain ⟨k, a, b, c, d, hk, rfl, rfl, rfl, rfl, rfl, hR, a0, a1, b0, b1, rfl⟩ := hrel
    by_cases hlt : k < s.size
    · have hgd := Lib.hid (byte_getD s k hlt)
      have hw1 : IntKind.i64.wrap (a + 1) = a + 1 := IntWalk.i64_in _ (by omega)
      have hw2 : IntKind.i64.wrap (b + 1) = b + 1 := IntWalk.i64_in _ (by omega)
      by_cases h46 : (s[k]'hlt).toNat = 46
      · have hR2 := Lib.hid (runAt_yes hR.out (by rw [hgd.out]; exact h46))
        have hb46 : (((s[k]'hlt).toNat : Int) == 46) = true := by rw [h46]; rfl
        clear h46
        go_wp2_with (go_at_call 62; refine (l00Max_any _ _ _).mono ?_; rintro e w' ⟨rfl, rfl⟩)
        go_roundw
        case rel => exact ⟨k + 1, _, _, _, _, by omega, by go_num, rfl, rfl, rfl, rfl, hR2, by omega, by omega, by omega, by omega, by trivial⟩
        case measure => simp [intOf]; omega
      · have hR2 := Lib.hid (runAt_no hR.out (by rw [hgd.out]; exact h46))
        have hb46 : (((s[k]'hlt).toNat : Int) == 46) = false := by rw [beq_eq_false_iff_ne]; omega
        clear h46
        go_wp2_with (go_at_call 62; refine (l00Max_any _ _ _).mono ?_; rintro e w' ⟨rfl, rfl⟩)
        go_roundw
        case rel => exact ⟨k + 1, _, _, _, _, by omega, by go_num, rfl, rfl, rfl, rfl, hR2, by omega, by omega, by omega, by omega, by trivial⟩
        case measure => simp [intOf]; omega
    · have hF := Lib.hid (hP.out a b c d (by rw [show s.size = k by omega]; exact hR.out))
      go_wp2_with fail
      go_ret3
      exact hF.out
theorem rosterRuns_both (s : ByteArray) (hs : s.size ≤ maxLen) : ∃ (r0 r1 : Int) (r2 : Bool),
    (∀ (B : Nat) (w : World), B ≤ w.heap.size → Calls Try.prog 50 #[.string s] w fun e w' => e = .returned (.tuple #[.int .i64 r0, .int .i64 r1, .bool r2]) ∧ Below w.heap.size w w') ∧
    (∀ (B : Nat) (w : World), B ≤ w.heap.size → Calls Try.prog 51 #[.string s] w fun e w' => e = .returned (.tuple #[.int .i64 r0, .int .i64 r1, .bool r2]) ∧ Below w.heap.size w w') :=
  ⟨runsA s, runsB s, lettersB dayP s 128, fun _ w _ => specRuns_any s hs w, fun _ w _ => implRuns_any s hs w⟩
end Go.Proofs.Ytcpfiledegnlpaa
