/- Contracts: ranges of a row put for one another, and turned. -/
import Derived.Test.YtmnogipmpojoaaaSortRow
namespace Go.Proofs.Ytmnogipmpojoaaa
open Go.RowKit Go.Lst Srt

set_option maxHeartbeats 1000000 in
theorem swapRange_any (A g n c a b k : Nat) (W0 w : World) (f : Nat → Int) (v : Value) (h : Row A g n c W0 w f) (hab : a + k ≤ b) (hb : b + k ≤ n) (hn : n ≤ 1024) :
    Calls Try.prog 39 #[.slice (some ⟨g, 0, none⟩) n c, .int .i64 a, .int .i64 b, .int .i64 k, v] w fun e w' => e = .returned (.tuple #[]) ∧ Row A g n c W0 w' (swr f a b k) := by
  have hSt : Hid (∀ i, i < k → Srt.swap (swr f a b i) (a + i) (b + i) = swr f a b (i + 1)) := Lib.hid fun i hi => swr_step f a b i (by omega)
  have h0 := Lib.hid (show Row A g n c W0 w (swr f a b 0) by rw [swr_zero]; exact h)
  clear h
  generalize swr f a b = F at *
  go_enter Try.func39, Try.ntmps39
  go_wp2_with fail
  go_loopw [10] (fun iv wr => ∃ i : Nat, i ≤ k ∧ iv = .int .i64 i ∧ Hid (Row A g n c W0 wr (F i))) (fun iv _ => k - (intOf iv).toNat)
  case atStart => exact ⟨0, Nat.zero_le _, rfl, h0⟩
  case round =>
    clear h0
    obtain ⟨i, hi, rfl, hR⟩ := hrel
    by_cases hlt : i < k
    · have c1 := hR.out.cell (k := a + i) (by omega)
      have c2 := hR.out.cell (k := b + i) (by omega)
      have f1 := hR.out.frozen (a + i)
      have f2 := hR.out.frozen (b + i)
      have hS := Lib.hid (show Row A g n c W0 (((wr.setCell ⟨g, a + i, none⟩ (.int .i64 (F i (b + i)))).setCell ⟨g, b + i, none⟩ (.int .i64 (F i (a + i)))).drew) (F (i + 1)) by rw [← hSt.out i hlt]; exact hR.out.swap (a + i) (b + i))
      have z1 : (0 : Int) ≤ (a : Int) + (i : Int) := by omega
      have z2 : (0 : Int) ≤ (b : Int) + (i : Int) := by omega
      have t1 : ((a : Int) + (i : Int)).toNat = a + i := by omega
      have t2 : ((b : Int) + (i : Int)).toNat = b + i := by omega
      have l1 : (a : Int) + (i : Int) < (n : Int) := by omega
      have l2 : (b : Int) + (i : Int) < (n : Int) := by omega
      have hp1 : a + i < n := by omega
      have hp2 : b + i < n := by omega
      generalize F i (a + i) = x at *
      generalize F i (b + i) = y at *
      go_wp2_with fail
      go_region
      go_wp2_with fail
      go_roundw
      case rel => exact ⟨i + 1, by omega, by go_num, hS⟩
      case measure => simp [intOf]; omega
    · obtain rfl : i = k := by omega
      go_wp2_with fail
      go_end0
      exact ⟨rfl, hR.out⟩
set_option maxHeartbeats 1000000 in
theorem rotate_any (A g n c a m b : Nat) (W0 w : World) (f : Nat → Int) (v : Value) (h : Row A g n c W0 w f) (ham : a < m) (hmb : m < b) (hb : b ≤ n) (hn : n ≤ 1024) :
    Calls Try.prog 38 #[.slice (some ⟨g, 0, none⟩) n c, .int .i64 a, .int .i64 m, .int .i64 b, v] w fun e w' => e = .returned (.tuple #[]) ∧ Row A g n c W0 w' (rot f a m b) := by
  have h0 := Lib.hid h
  have hSw := Lib.hid (fun a b k w f h h1 h2 => swapRange_any A g n c a b k W0 w f v h h1 h2 hn)
  have hI : Hid (rot f (m - (m - a)) m (m + (b - m)) = rot f a m b) := Lib.hid (by congr 1 <;> omega)
  generalize rot f a m b = F at *
  clear h
  go_enter Try.func38, Try.ntmps38
  go_wp2_with fail
  go_loopw [10, 11] (fun iv jv wr => ∃ (i j : Nat) (f' : Nat → Int), 0 < i ∧ 0 < j ∧ i ≤ m ∧ i + j ≤ b - a ∧ m + j ≤ n ∧ iv = .int .i64 i ∧ jv = .int .i64 j ∧ Hid (rot f' (m - i) m (m + j) = F) ∧ Hid (Row A g n c W0 wr f')) (fun iv jv _ => (intOf iv).toNat + (intOf jv).toNat)
  case atStart => exact ⟨m - a, b - m, f, by omega, by omega, by omega, by omega, by omega, by go_num, by go_num, hI, h0⟩
  case round =>
    clear h0 hI
    obtain ⟨i, j, f', hi0, hj0, him, hij, hjn, rfl, rfl, hF, hR⟩ := hrel
    rcases Nat.lt_trichotomy i j with hlt | heq | hgt
    · have hq : ((i : Int) != (j : Int)) = true := by rw [bne_iff_ne]; omega
      have hq2 : (i != j) = true := by rw [bne_iff_ne]; omega
      have hS := Lib.hid (hSw.out (m - i) (m + j - i) i wr f' hR.out (by omega) (by omega))
      have hF2 := Lib.hid ((rot_right f' i j m him hlt hi0).symm.trans hF.out)
      rw [show ((m - i : Nat) : Int) = (m : Int) - (i : Int) by omega, show ((m + j - i : Nat) : Int) = (m : Int) + (j : Int) - (i : Int) by omega] at hS
      clear hF hR
      go_wp2_with (go_at_call 39; (with_reducible refine hS.out.mono ?_); rintro e w' ⟨rfl, hr⟩; have hR2 := Lib.hid hr; clear hr)
      go_roundw
      case rel => exact ⟨i, j - i, _, hi0, by omega, him, by omega, by omega, rfl, by go_num, hF2, hR2⟩
      case measure => simp [intOf]; omega
    · subst heq
      have hq : ((i : Int) != (i : Int)) = false := by rw [bne_eq_false_iff_eq]
      have hq2 : (i != i) = false := by rw [bne_eq_false_iff_eq]
      have hS := Lib.hid (hSw.out (m - i) m i wr f' hR.out (by omega) (by omega))
      have hF2 := Lib.hid ((rot_end f' i m him).symm.trans hF.out)
      rw [show ((m - i : Nat) : Int) = (m : Int) - (i : Int) by omega] at hS
      clear hF hR
      go_wp2_with (go_at_call 39; (with_reducible refine hS.out.mono ?_); rintro e w' ⟨rfl, hr⟩; have hR2 := Lib.hid hr; clear hr)
      go_end0
      exact ⟨rfl, by rw [← hF2.out]; exact hR2.out⟩
    · have hq : ((i : Int) != (j : Int)) = true := by rw [bne_iff_ne]; omega
      have hq2 : (i != j) = true := by rw [bne_iff_ne]; omega
      have hS := Lib.hid (hSw.out (m - i) m j wr f' hR.out (by omega) (by omega))
      have hF2 := Lib.hid ((rot_left f' i j m him hgt hj0).symm.trans hF.out)
      rw [show ((m - i : Nat) : Int) = (m : Int) - (i : Int) by omega] at hS
      clear hF hR
      go_wp2_with (go_at_call 39; (with_reducible refine hS.out.mono ?_); rintro e w' ⟨rfl, hr⟩; have hR2 := Lib.hid hr; clear hr)
      go_roundw
      case rel => exact ⟨i - j, j, _, by omega, hj0, by omega, by omega, by omega, by go_num, rfl, hF2, hR2⟩
      case measure => simp [intOf]; omega
end Go.Proofs.Ytmnogipmpojoaaa
