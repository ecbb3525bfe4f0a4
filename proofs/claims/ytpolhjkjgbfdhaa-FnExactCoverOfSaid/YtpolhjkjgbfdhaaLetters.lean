/- Words for texts of letters: which bytes they have; the program's test of a text's letters, for one closure. -/
import Derived.Test.YtpolhjkjgbfdhaaAreJobs
import Derived.LoopTactic
import Derived.Outline
import Derived.WalkSmall
import Derived.Carry
namespace Go.Proofs.Ytpolhjkjgbfdhaa
open Go.RowKit Go.Lst

theorem byte_getD (s : ByteArray) (k : Nat) (h : k < s.size) : s.data.toList.getD k 0 = s[k]'h := by
  have e : s.data.toList[k]? = some (s[k]'h) := by
    rw [List.getElem?_eq_getElem (by simpa using h)]; rfl
  rw [List.getD_eq_getElem?_getD, e]; rfl
theorem below_iter (w : World) (s : ByteArray) (p : Nat) : Below w.heap.size w (w.iter s p) := below_alloc (Below.refl _ _) _
/-- A text of 1 to most bytes, each of which is as p says. -/
def lettersB (p : Int → Bool) (s : ByteArray) (most : Nat) : Bool := decide (1 ≤ s.size) && decide (s.size ≤ most) && (List.range s.size).all fun i => p ((s.data.toList.getD i 0).toNat : Int)
theorem lettersB_1 {p : Int → Bool} {s : ByteArray} {most : Nat} (h : s.size < 1) : lettersB p s most = false := by unfold lettersB; rw [decide_eq_false (show ¬ 1 ≤ s.size by omega)]; rfl
theorem lettersB_2 {p : Int → Bool} {s : ByteArray} {most : Nat} (h : most < s.size) : lettersB p s most = false := by unfold lettersB; rw [decide_eq_false (show ¬ s.size ≤ most by omega)]; simp
theorem lettersB_3 {p : Int → Bool} {s : ByteArray} {most k : Nat} (hk : k < s.size) (h : p ((s.data.toList.getD k 0).toNat : Int) = false) : lettersB p s most = false := by
  unfold lettersB
  rw [show ((List.range s.size).all fun i => p ((s.data.toList.getD i 0).toNat : Int)) = false by
    rw [List.all_eq_false]; exact ⟨k, List.mem_range.2 hk, by rw [h]; simp⟩, Bool.and_false]
theorem lettersB_4 {p : Int → Bool} {s : ByteArray} {most : Nat} (h1 : 1 ≤ s.size) (h2 : s.size ≤ most) (h : ∀ i, i < s.size → p ((s.data.toList.getD i 0).toNat : Int) = true) : lettersB p s most = true := by
  unfold lettersB
  rw [decide_eq_true h1, decide_eq_true h2, List.all_eq_true.2 fun i hi => h i (List.mem_range.1 hi)]; rfl
theorem lettersB_of {p : Int → Bool} {s : ByteArray} {most : Nat} (h : lettersB p s most = true) : 1 ≤ s.size ∧ s.size ≤ most ∧ ∀ i, i < s.size → p ((s.data.toList.getD i 0).toNat : Int) = true := by
  simp only [lettersB, Bool.and_eq_true, decide_eq_true_eq] at h
  exact ⟨h.1.1, h.1.2, fun i hi => List.all_eq_true.1 h.2 i (List.mem_range.2 hi)⟩
def dayP (r : Int) : Bool := decide (r = 46) || (decide (97 ≤ r) && decide (r ≤ 122))
theorem day_high {r : Int} (h : 128 ≤ r) : dayP r = false := by
  unfold dayP
  rw [decide_eq_false (show ¬ r = 46 by omega), decide_eq_false (show ¬ r ≤ 122 by omega)]; simp
def slotP (r : Int) : Bool := decide (r = 46) || decide (r = 119)
theorem slot_high {r : Int} (h : 128 ≤ r) : slotP r = false := by
  unfold slotP
  rw [decide_eq_false (show ¬ r = 46 by omega), decide_eq_false (show ¬ r = 119 by omega)]; rfl
set_option maxHeartbeats 400000 in
theorem day_is (r : Int) (q : Bool) (h : dayP r = q) (w : World) : Calls Try.prog 70 #[.int .i32 r] w fun e w' => e = .returned (.bool q) ∧ w = w' := by
  rw [← h]
  unfold dayP
  by_cases h1 : r = 46
  · subst h1
    go_enter Try.func70, Try.ntmps70
    go_wp2_with fail
    go_ret
    exact ⟨rfl, rfl⟩
  have d1 : (r == 46) = false := by simpa using h1
  have e1 : decide (r = 46) = false := by simpa using h1
  rw [e1]
  by_cases h2 : 97 ≤ r
  · cases d3 : decide (r ≤ 122)
    · go_enter Try.func70, Try.ntmps70
      go_wp2_with fail
      go_ret
      exact ⟨ret_bool (by simp [h2]), rfl⟩
    · go_enter Try.func70, Try.ntmps70
      go_wp2_with fail
      go_ret
      exact ⟨ret_bool (by simp [h2]), rfl⟩
  · have d2 : decide (97 ≤ r) = false := by simpa using h2
    rw [d2]
    go_enter Try.func70, Try.ntmps70
    go_wp2_with fail
    go_ret
    exact ⟨rfl, rfl⟩
set_option maxHeartbeats 400000 in
theorem slot_is (r : Int) (q : Bool) (h : slotP r = q) (w : World) : Calls Try.prog 78 #[.int .i32 r] w fun e w' => e = .returned (.bool q) ∧ w = w' := by
  rw [← h]
  unfold slotP
  by_cases h1 : r = 46
  · subst h1
    go_enter Try.func78, Try.ntmps78
    go_wp2_with fail
    go_ret
    exact ⟨rfl, rfl⟩
  have d1 : (r == 46) = false := by simpa using h1
  have e1 : decide (r = 46) = false := by simpa using h1
  rw [e1]
  by_cases h2 : r = 119
  · subst h2
    go_enter Try.func78, Try.ntmps78
    go_wp2_with fail
    go_ret
    exact ⟨rfl, rfl⟩
  · have d2 : (r == 119) = false := by simpa using h2
    have e2 : decide (r = 119) = false := by simpa using h2
    rw [e2]
    go_enter Try.func78, Try.ntmps78
    go_wp2_with fail
    go_ret
    exact ⟨rfl, rfl⟩
set_option maxHeartbeats 2000000 in
theorem day_letters (s : ByteArray) (most : Nat) (hs : s.size ≤ maxLen) (hm : most ≤ 1048576) (w : World) :
    Calls Try.prog 69 #[.string s, .int .i64 most, .func (.func 70) #[] #[]] w fun e w' => e = .returned (.bool (lettersB dayP s most)) ∧ Below w.heap.size w w' := by
  unfold maxLen at hs
  by_cases h1 : s.size < 1
  · have hF := Lib.hid (lettersB_1 (p := dayP) (most := most) h1)
    go_enter Try.func69, Try.ntmps69
    go_wp2_with fail
    go_ret
    exact ⟨ret_bool (by rw [hF.out]), Below.refl _ _⟩
  by_cases h2 : most < s.size
  · have hF := Lib.hid (lettersB_2 (p := dayP) h2)
    go_enter Try.func69, Try.ntmps69
    go_wp2_with fail
    go_ret
    exact ⟨ret_bool (by rw [hF.out]), Below.refl _ _⟩
  have hM : Hid (∀ k, k < s.size → dayP ((s.data.toList.getD k 0).toNat : Int) = false → lettersB dayP s most = false) := Lib.hid fun k hk hp => lettersB_3 hk hp
  have hN : Hid (∀ k, k = s.size → (∀ i, i < k → dayP ((s.data.toList.getD i 0).toNat : Int) = true) → lettersB dayP s most = true) := Lib.hid fun k hk hp => lettersB_4 (by omega) (by omega) (by subst hk; exact hp)
  have hdm : decide ((most : Int) < (s.size : Int)) = false := decide_eq_false (by omega)
  have hdm2 : decide (most < s.size) = false := decide_eq_false h2
  generalize lettersB dayP s most = q at *
  go_enter Try.func69, Try.ntmps69
  go_wp2_with fail
  go_loopw [8] (fun _ wr => ∃ k : Nat, k ≤ s.size ∧ wr = w.iter s k ∧ Hid (∀ i, i < k → dayP ((s.data.toList.getD i 0).toNat : Int) = true)) (fun _ wr => s.size - wr.iterPos w.heap.size)
  case atStart => exact ⟨0, Nat.zero_le _, rfl, Lib.hid (fun i hi => by omega)⟩
  case round =>
    obtain ⟨k, hk, rfl, hP⟩ := hrel
    have hG : Hid (∀ p, Below w.heap.size w (w.iter s p)) := Lib.hid fun p => below_iter w s p
    by_cases hlt : k < s.size
    · have hgd := byte_getD s k hlt
      by_cases h128 : (s[k]'hlt).toNat < 128
      · have hnx : ∀ ty, _ := fun ty => run_next_ascii (P := Try.prog) w s k ty hlt h128
        cases hq : dayP ((s[k]'hlt).toNat : Int)
        · have hF := Lib.hid (hM.out k hlt (by rw [hgd]; exact hq))
          have hQ := Lib.hid (fun (r : Int) (hr : dayP r = false) (w' : World) => day_is r false hr w')
          have hq2 := Lib.hid hq
          clear hq hgd
          go_wp2_with (go_at_call 70; (with_reducible refine (hQ.out _ hq2.out _).mono ?_); rintro e w' ⟨rfl, rfl⟩)
          go_ret
          exact ⟨ret_bool (by rw [hF.out]), hG.out _⟩
        · have hP2 : Hid (∀ i, i < k + 1 → dayP ((s.data.toList.getD i 0).toNat : Int) = true) := Lib.hid fun i hi => by
            by_cases h1 : i < k
            · exact hP.out i h1
            · obtain rfl : i = k := by omega
              rw [hgd]; exact hq
          have hQ := Lib.hid (fun (r : Int) (hr : dayP r = true) (w' : World) => day_is r true hr w')
          have hq2 := Lib.hid hq
          clear hq hgd
          go_wp2_with (go_at_call 70; (with_reducible refine (hQ.out _ hq2.out _).mono ?_); rintro e w' ⟨rfl, rfl⟩)
          go_roundw
          case rel => exact ⟨k + 1, by omega, rfl, hP2⟩
          case measure => simp; omega
      · have hnx : ∀ ty, _ := fun ty => run_next_any (P := Try.prog) w s k ty hlt
        have hd := (decode_high s k hlt (by omega)).1
        have hF := Lib.hid (hM.out k hlt (by rw [hgd]; exact day_high (by omega)))
        have hQ := Lib.hid (fun (r : Int) (hr : 128 ≤ r) (w' : World) => day_is r false (day_high hr) w')
        have hd2 := Lib.hid (show (128 : Int) ≤ ((Utf8.decode s k).1 : Int) by omega)
        clear hgd hd
        go_wp2_with (go_at_call 70; (with_reducible refine (hQ.out _ hd2.out _).mono ?_); rintro e w' ⟨rfl, rfl⟩)
        go_ret
        exact ⟨ret_bool (by rw [hF.out]), hG.out _⟩
    · have hnx : ∀ ty, _ := fun ty => run_next_end (P := Try.prog) w s k ty hlt
      have hF := Lib.hid (hN.out k (by omega) hP.out)
      go_wp2_with fail
      go_ret
      exact ⟨ret_bool (by rw [hF.out]), hG.out _⟩
set_option maxHeartbeats 2000000 in
theorem slot_letters (s : ByteArray) (most : Nat) (hs : s.size ≤ maxLen) (hm : most ≤ 1048576) (w : World) :
    Calls Try.prog 69 #[.string s, .int .i64 most, .func (.func 78) #[] #[]] w fun e w' => e = .returned (.bool (lettersB slotP s most)) ∧ Below w.heap.size w w' := by
  unfold maxLen at hs
  by_cases h1 : s.size < 1
  · have hF := Lib.hid (lettersB_1 (p := slotP) (most := most) h1)
    go_enter Try.func69, Try.ntmps69
    go_wp2_with fail
    go_ret
    exact ⟨ret_bool (by rw [hF.out]), Below.refl _ _⟩
  by_cases h2 : most < s.size
  · have hF := Lib.hid (lettersB_2 (p := slotP) h2)
    go_enter Try.func69, Try.ntmps69
    go_wp2_with fail
    go_ret
    exact ⟨ret_bool (by rw [hF.out]), Below.refl _ _⟩
  have hM : Hid (∀ k, k < s.size → slotP ((s.data.toList.getD k 0).toNat : Int) = false → lettersB slotP s most = false) := Lib.hid fun k hk hp => lettersB_3 hk hp
  have hN : Hid (∀ k, k = s.size → (∀ i, i < k → slotP ((s.data.toList.getD i 0).toNat : Int) = true) → lettersB slotP s most = true) := Lib.hid fun k hk hp => lettersB_4 (by omega) (by omega) (by subst hk; exact hp)
  have hdm : decide ((most : Int) < (s.size : Int)) = false := decide_eq_false (by omega)
  have hdm2 : decide (most < s.size) = false := decide_eq_false h2
  generalize lettersB slotP s most = q at *
  go_enter Try.func69, Try.ntmps69
  go_wp2_with fail
  go_loopw [8] (fun _ wr => ∃ k : Nat, k ≤ s.size ∧ wr = w.iter s k ∧ Hid (∀ i, i < k → slotP ((s.data.toList.getD i 0).toNat : Int) = true)) (fun _ wr => s.size - wr.iterPos w.heap.size)
  case atStart => exact ⟨0, Nat.zero_le _, rfl, Lib.hid (fun i hi => by omega)⟩
  case round =>
    obtain ⟨k, hk, rfl, hP⟩ := hrel
    have hG : Hid (∀ p, Below w.heap.size w (w.iter s p)) := Lib.hid fun p => below_iter w s p
    by_cases hlt : k < s.size
    · have hgd := byte_getD s k hlt
      by_cases h128 : (s[k]'hlt).toNat < 128
      · have hnx : ∀ ty, _ := fun ty => run_next_ascii (P := Try.prog) w s k ty hlt h128
        cases hq : slotP ((s[k]'hlt).toNat : Int)
        · have hF := Lib.hid (hM.out k hlt (by rw [hgd]; exact hq))
          have hQ := Lib.hid (fun (r : Int) (hr : slotP r = false) (w' : World) => slot_is r false hr w')
          have hq2 := Lib.hid hq
          clear hq hgd
          go_wp2_with (go_at_call 78; (with_reducible refine (hQ.out _ hq2.out _).mono ?_); rintro e w' ⟨rfl, rfl⟩)
          go_ret
          exact ⟨ret_bool (by rw [hF.out]), hG.out _⟩
        · have hP2 : Hid (∀ i, i < k + 1 → slotP ((s.data.toList.getD i 0).toNat : Int) = true) := Lib.hid fun i hi => by
            by_cases h1 : i < k
            · exact hP.out i h1
            · obtain rfl : i = k := by omega
              rw [hgd]; exact hq
          have hQ := Lib.hid (fun (r : Int) (hr : slotP r = true) (w' : World) => slot_is r true hr w')
          have hq2 := Lib.hid hq
          clear hq hgd
          go_wp2_with (go_at_call 78; (with_reducible refine (hQ.out _ hq2.out _).mono ?_); rintro e w' ⟨rfl, rfl⟩)
          go_roundw
          case rel => exact ⟨k + 1, by omega, rfl, hP2⟩
          case measure => simp; omega
      · have hnx : ∀ ty, _ := fun ty => run_next_any (P := Try.prog) w s k ty hlt
        have hd := (decode_high s k hlt (by omega)).1
        have hF := Lib.hid (hM.out k hlt (by rw [hgd]; exact slot_high (by omega)))
        have hQ := Lib.hid (fun (r : Int) (hr : 128 ≤ r) (w' : World) => slot_is r false (slot_high hr) w')
        have hd2 := Lib.hid (show (128 : Int) ≤ ((Utf8.decode s k).1 : Int) by omega)
        clear hgd hd
        go_wp2_with (go_at_call 78; (with_reducible refine (hQ.out _ hd2.out _).mono ?_); rintro e w' ⟨rfl, rfl⟩)
        go_ret
        exact ⟨ret_bool (by rw [hF.out]), hG.out _⟩
    · have hnx : ∀ ty, _ := fun ty => run_next_end (P := Try.prog) w s k ty hlt
      have hF := Lib.hid (hN.out k (by omega) hP.out)
      go_wp2_with fail
      go_ret
      exact ⟨ret_bool (by rw [hF.out]), hG.out _⟩
end Go.Proofs.Ytpolhjkjgbfdhaa
