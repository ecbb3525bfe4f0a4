/- Contracts: texts of days, and their longest runs. -/
import Derived.Test.YtpolhjkjgbfdhaaLetters
import Derived.Test.YtpolhjkjgbfdhaaTimes
import Derived.IntWalk
namespace Go.Proofs.Ytpolhjkjgbfdhaa
open Go.RowKit Go.Lst

set_option maxHeartbeats 400000 in
theorem areRosterDays_any (s : ByteArray) (most : Nat) (hs : s.size ≤ maxLen) (hm : most ≤ 1048576) (w : World) : Calls Try.prog 39 #[.string s, .int .i64 most] w fun e w' => e = .returned (.bool (lettersB dayP s most)) ∧ Below w.heap.size w w' := by
  have hL := Lib.hid (day_letters s most hs hm w)
  generalize lettersB dayP s most = q at *
  go_enter Try.func39, Try.ntmps39
  go_wp2_with fail
  refine (hL.out).mono ?_
  rintro e w' ⟨rfl, hb⟩
  have hB := Lib.hid hb
  clear hb
  go_wp2_with fail
  go_ret
  exact ⟨rfl, hB.out⟩
set_option maxHeartbeats 2000000 in
theorem l06Days_any (s : ByteArray) (most : Nat) (hs : s.size ≤ maxLen) (hm : most ≤ 1048576) (w : World) : Calls Try.prog 65 #[.string s, .int .i64 most] w fun e w' => e = .returned (.bool (lettersB dayP s most)) ∧ w = w' := by
  unfold maxLen at hs
  have hM : Hid (∀ k, k < s.size → dayP ((s.data.toList.getD k 0).toNat : Int) = false → lettersB dayP s most = false) := Lib.hid fun k hk hp => lettersB_3 hk hp
  have hN : Hid (∀ k, (k = s.size ∨ most < k) → k ≤ s.size → (∀ i, i < k → dayP ((s.data.toList.getD i 0).toNat : Int) = true) → lettersB dayP s most = (decide (1 ≤ s.size) && decide (s.size ≤ most))) := Lib.hid fun k hk hks hp => by
    by_cases h2 : most < s.size
    · rw [lettersB_2 h2, decide_eq_false (show ¬ s.size ≤ most by omega), Bool.and_false]
    · have hkk : k = s.size := by omega
      subst hkk
      by_cases h1 : s.size < 1
      · rw [lettersB_1 h1, decide_eq_false (show ¬ 1 ≤ s.size by omega)]; rfl
      · rw [lettersB_4 (by omega) (by omega) hp, decide_eq_true (show 1 ≤ s.size by omega), decide_eq_true (show s.size ≤ most by omega)]; rfl
  generalize lettersB dayP s most = q at *
  go_enter Try.func65, Try.ntmps65
  go_wp2_with fail
  go_loopw [5] (fun i wr => ∃ k : Nat, k ≤ s.size ∧ k ≤ most + 1 ∧ i = .int .i64 k ∧ Hid (∀ i, i < k → dayP ((s.data.toList.getD i 0).toNat : Int) = true) ∧ w = wr) (fun i _ => s.size - (intOf i).toNat)
  case atStart => exact ⟨0, Nat.zero_le _, Nat.zero_le _, rfl, Lib.hid (fun i hi => by omega), rfl⟩
  case round =>
    obtain ⟨k, hk, hkm, rfl, hP, rfl⟩ := hrel
    by_cases hlt : k < s.size
    · by_cases hle : k ≤ most
      · have hd : decide (k ≤ most) = true := decide_eq_true hle
        have hgd := Lib.hid (byte_getD s k hlt)
        cases hq : dayP ((s[k]'hlt).toNat : Int)
        · have hF := Lib.hid (hM.out k hlt (by rw [hgd.out]; exact hq))
          have h1 : ¬ (s[k]'hlt).toNat = 46 := fun h => by rw [h] at hq; cases hq
          have h2 : (s[k]'hlt).toNat < 97 ∨ 122 < (s[k]'hlt).toNat := by
            by_cases a : (s[k]'hlt).toNat < 97
            · exact .inl a
            · by_cases b : 122 < (s[k]'hlt).toNat
              · exact .inr b
              · exfalso
                unfold dayP at hq
                rw [decide_eq_true (show (97 : Int) ≤ ((s[k]'hlt).toNat : Int) by omega), decide_eq_true (show ((s[k]'hlt).toNat : Int) ≤ 122 by omega)] at hq
                simp at hq
          have hb1 : (((s[k]'hlt).toNat : Int) != 46) = true := by rw [bne_iff_ne]; omega
          rcases h2 with h2 | h2
          · have d2 : decide (((s[k]'hlt).toNat : Int) < 97) = true := decide_eq_true (by omega)
            clear hq
            go_wp2_with fail
            go_ret
            exact ⟨ret_bool (by rw [hF.out]), rfl⟩
          · have d2 : decide (((s[k]'hlt).toNat : Int) < 97) = false := decide_eq_false (by omega)
            have d3 : decide ((122 : Int) < ((s[k]'hlt).toNat : Int)) = true := decide_eq_true (by omega)
            clear hq
            go_wp2_with fail
            go_ret
            exact ⟨ret_bool (by rw [hF.out]), rfl⟩
        · have hP2 : Hid (∀ i, i < k + 1 → dayP ((s.data.toList.getD i 0).toNat : Int) = true) := Lib.hid fun i hi => by
            by_cases h1 : i < k
            · exact hP.out i h1
            · obtain rfl : i = k := by omega
              rw [hgd.out]; exact hq
          by_cases h1 : (s[k]'hlt).toNat = 46
          · have hb1 : (((s[k]'hlt).toNat : Int) != 46) = false := by rw [h1]; rfl
            clear hq h1
            go_wp2_with fail
            go_roundw
            case rel => exact ⟨k + 1, by omega, by omega, by go_num, hP2, by trivial⟩
            case measure => simp [intOf]; omega
          · have hb1 : (((s[k]'hlt).toNat : Int) != 46) = true := by rw [bne_iff_ne]; omega
            have h2 : 97 ≤ (s[k]'hlt).toNat ∧ (s[k]'hlt).toNat ≤ 122 := by
              unfold dayP at hq
              rw [decide_eq_false (show ¬ ((s[k]'hlt).toNat : Int) = 46 by omega), Bool.false_or] at hq
              simp only [Bool.and_eq_true, decide_eq_true_eq] at hq
              omega
            have d2 : decide (((s[k]'hlt).toNat : Int) < 97) = false := decide_eq_false (by omega)
            have d3 : decide ((122 : Int) < ((s[k]'hlt).toNat : Int)) = false := decide_eq_false (by omega)
            clear hq h1
            go_wp2_with fail
            go_roundw
            case rel => exact ⟨k + 1, by omega, by omega, by go_num, hP2, by trivial⟩
            case measure => simp [intOf]; omega
      · have hd : decide (k ≤ most) = false := decide_eq_false hle
        have hF := Lib.hid (hN.out k (.inr (by omega)) hk hP.out)
        have d1 : decide (1 ≤ s.size) = true := decide_eq_true (by omega)
        have d2 : decide (s.size ≤ most) = false := decide_eq_false (by omega)
        have hF2 := Lib.hid (show q = false by rw [hF.out, d2, Bool.and_false])
        go_wp2_with fail
        go_ret
        exact ⟨ret_bool (by rw [hF2.out]), rfl⟩
    · have hF := Lib.hid (hN.out k (.inl (by omega)) hk hP.out)
      by_cases h1 : 1 ≤ s.size
      · by_cases h2 : s.size ≤ most
        · have hF2 := Lib.hid (show q = true by rw [hF.out]; simp [h1, h2])
          have d2 : decide (s.size ≤ most) = true := decide_eq_true h2
          go_wp2_with fail
          go_ret
          exact ⟨ret_bool (by rw [hF2.out]), rfl⟩
        · have hF2 := Lib.hid (show q = false by rw [hF.out]; simp [h2])
          have d2 : decide (s.size ≤ most) = false := decide_eq_false h2
          go_wp2_with fail
          go_ret
          exact ⟨ret_bool (by rw [hF2.out]), rfl⟩
      · have hF2 := Lib.hid (show q = false by rw [hF.out]; simp [h1])
        have d1 : decide (1 ≤ s.size) = false := decide_eq_false h1
        go_wp2_with fail
        go_ret
        exact ⟨ret_bool (by rw [hF2.out]), rfl⟩
end Go.Proofs.Ytpolhjkjgbfdhaa
