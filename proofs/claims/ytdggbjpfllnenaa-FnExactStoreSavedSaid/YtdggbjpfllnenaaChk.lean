/- Contracts of the check number (a text of its own beside XCheck, without the numbers' bits). No condition. -/
import Derived.Test.YtdggbjpfllnenaaAreJobs
import Derived.LoopTactic
import Derived.Outline
import Derived.IntWalk
namespace Go.Proofs.Ytdggbjpfllnenaa
open Go.RowKit Go.Lst Go

/-- The check number of bytes that begins with n. -/
def chk (n : Int) (l : List UInt8) : Int := l.foldl (fun n c => (967 * n + c.toNat + 227) % 65003) n

theorem chk_bound (l : List UInt8) (n : Int) (h1 : 0 ≤ n) (h2 : n ≤ 65002) : 0 ≤ chk n l ∧ chk n l ≤ 65002 := by
  induction l generalizing n with
  | nil => exact ⟨h1, h2⟩
  | cons c l ih => exact ih ((967 * n + c.toNat + 227) % 65003) (by omega) (by omega)

theorem take_snoc (s : ByteArray) (k : Nat) (h : k < s.size) : s.data.toList.take (k + 1) = s.data.toList.take k ++ [s[k]] := by
  rw [List.take_succ_eq_append_getElem (by simpa using h)]; rfl

theorem chk_snoc (n : Int) (s : ByteArray) (k : Nat) (h : k < s.size) : chk n (s.data.toList.take (k + 1)) = (967 * chk n (s.data.toList.take k) + (s[k].toNat : Int) + 227) % 65003 := by
  rw [take_snoc s k h]; unfold chk; rw [List.foldl_append]; rfl

theorem byte_lt (c : UInt8) : (c.toNat : Int) < 256 := by have := c.toNat_lt; omega


set_option maxHeartbeats 400000 in
theorem l01Check_any (n : Int) (h1 : 0 ≤ n) (h2 : n ≤ 65002) (s : ByteArray) (hs : s.size ≤ maxLen) (w : World) :
    Calls Try.prog 24 #[.int .i64 n, .string s] w fun e w' => e = .returned (.int .i64 (chk n s.data.toList)) ∧ w = w' := by
  unfold maxLen at hs
  go_enter Try.func24, Try.ntmps24
  go_wp2
  go_loop [0, 5] (fun t i => ∃ k : Nat, k ≤ s.size ∧ i = .int .i64 k ∧ t = .int .i64 (chk n (s.data.toList.take k))) (fun _ i => s.size - (intOf i).toNat)
  case atStart => exact ⟨0, Nat.zero_le _, rfl, rfl⟩
  case round =>
    obtain ⟨k, hk, rfl, rfl⟩ := hrel
    obtain ⟨hc1, hc2⟩ := chk_bound (s.data.toList.take k) n h1 h2
    by_cases hlt : k < s.size
    · have HS := Lib.hid (chk_snoc n s k hlt)
      have hb := byte_lt s[k]
      have hb0 : (0 : Int) ≤ s[k].toNat := by omega
      generalize chk n (s.data.toList.take k) = c at *
      go_wp2
      go_round
      case rel => exact ⟨k + 1, by omega, by go_num, by rw [HS.out]⟩
      case measure => simp [intOf]; omega
    · have hall : s.data.toList.take k = s.data.toList := List.take_of_length_le (by simp; omega)
      rw [hall] at hc1 hc2 ⊢
      clear hall
      go_wp2
      go_ret
      exact ⟨rfl, rfl⟩

/-- What CheckOf returns. -/
def checkOf (n : Int) (s : ByteArray) : Value := if 0 ≤ n ∧ n ≤ 65002 then .tuple #[.int .i64 (chk n s.data.toList), .bool true] else .tuple #[.int .i64 0, .bool false]

set_option maxHeartbeats 400000 in
theorem checkOf_any (n : Int) (s : ByteArray) (hs : s.size ≤ maxLen) (w : World) :
    Calls Try.prog 17 #[.int .i64 n, .string s] w fun e w' => e = .returned (checkOf n s) ∧ w = w' := by
  unfold maxLen at hs
  by_cases h : 0 ≤ n ∧ n ≤ 65002
  · rw [show checkOf n s = _ from if_pos h]
    obtain ⟨h1, h2⟩ := h
    go_enter Try.func17, Try.ntmps17
    go_wp2
    go_loop [6, 17] (fun t i => ∃ k : Nat, k ≤ s.size ∧ i = .int .i64 k ∧ t = .int .i64 (chk n (s.data.toList.take k))) (fun _ i => s.size - (intOf i).toNat)
    case atStart => exact ⟨0, Nat.zero_le _, rfl, rfl⟩
    case round =>
      obtain ⟨k, hk, rfl, rfl⟩ := hrel
      obtain ⟨hc1, hc2⟩ := chk_bound (s.data.toList.take k) n h1 h2
      by_cases hlt : k < s.size
      · have HS := Lib.hid (chk_snoc n s k hlt)
        have hb := byte_lt s[k]
        have hb0 : (0 : Int) ≤ s[k].toNat := by omega
        generalize chk n (s.data.toList.take k) = c at *
        go_wp2
        go_round
        case rel => exact ⟨k + 1, by omega, by go_num, by rw [HS.out]⟩
        case measure => simp [intOf]; omega
      · have hall : s.data.toList.take k = s.data.toList := List.take_of_length_le (by simp; omega)
        rw [hall] at hc1 hc2 ⊢
        clear hall
        go_wp2
        go_ret2
        exact ⟨rfl, rfl⟩
  · rw [show checkOf n s = _ from if_neg h]
    by_cases h1 : 0 ≤ n
    · have h2 : 65002 < n := by omega
      clear h
      go_enter Try.func17, Try.ntmps17
      go_wp2
      go_ret2
      exact ⟨rfl, rfl⟩
    · have h2 : n < 0 := by omega
      clear h h1
      go_enter Try.func17, Try.ntmps17
      go_wp2
      go_ret2
      exact ⟨rfl, rfl⟩
end Go.Proofs.Ytdggbjpfllnenaa
