/- Contracts: whether a search for tables is made, and the next table. No condition. -/
import Derived.Test.YtncbjdkidkklgaaTabPure
import Derived.StillTailTactics
namespace Go.Proofs.Ytncbjdkidkklgaa
open Go.RowKit Go.Lst

theorem grown_refl (w : World) (r : Option Nat) : w.grownBy w r := ⟨rfl, rfl, rfl, Nat.le_refl _, fun _ _ _ => rfl⟩
theorem grown_trans {a b c : World} {r : Option Nat} (h : a.grownBy b r) (k : b.grownBy c r) : a.grownBy c r := ⟨k.os.trans h.os, k.tape.trans h.tape, k.output.trans h.output, Nat.le_trans h.size k.size, fun q hq hr => (k.block q (Nat.lt_of_lt_of_le hq h.size) hr).trans (h.block q hq hr)⟩
theorem grown_set (w : World) (g i : Nat) (u : Value) : w.grownBy (w.setCell ⟨g, i, none⟩ u) (some g) := ⟨rfl, rfl, rfl, by simp [World.setCell], fun k _ hk => Below.heap_setCell _ _ _ _ (fun e => hk (by rw [e]))⟩
theorem grown_draws (w : World) (n : Nat) (r : Option Nat) : w.grownBy (w.drewN n) r := ⟨rfl, rfl, rfl, Nat.le_refl _, fun _ _ _ => rfl⟩
set_option maxHeartbeats 2000000 in
theorem areFewWays_any (P d : Nat) (w : World) (h1 : 1 ≤ P) (h2 : P ≤ 60) (hd : d ≤ 100) : Calls Try.prog 34 #[.int .i64 (d : Nat), .int .i64 (P : Nat), .int .i64 4096] w fun e w' => e = .returned (.bool (decide (P ^ d ≤ 4096))) ∧ w' = w := by
  obtain ⟨pw, hpw⟩ : ∃ pw : Nat → Nat, pw = fun j => P ^ j := ⟨_, rfl⟩
  have hS : Hid (∀ j, pw (j + 1) = pw j * P) := Lib.hid fun j => by rw [hpw]; exact Nat.pow_succ ..
  have hM : Hid (∀ j, j ≤ d → pw j ≤ pw d) := Lib.hid fun j hj => by rw [hpw]; exact Nat.pow_le_pow_right h1 hj
  have h0 : pw 0 = 1 := by rw [hpw]; rfl
  have hPd : P ^ d = pw d := by rw [hpw]
  rw [hPd]
  have hNo : Hid (∀ j, j ≤ d → 4096 < pw j → decide (pw d ≤ 4096) = false) := Lib.hid fun j hj hb => decide_eq_false (by have := hM.out j hj; omega)
  have hYes : Hid (pw d ≤ 4096 → decide (pw d ≤ 4096) = true) := Lib.hid fun h => decide_eq_true h
  generalize decide (pw d ≤ 4096) = res at *
  clear hpw hPd
  go_enter Try.func34, Try.ntmps34
  go_wp2_with fail
  go_loopw [7, 9] (fun al i wr => ∃ j : Nat, j ≤ d ∧ i = .int .i64 (j : Nat) ∧ al = .int .i64 (pw j : Nat) ∧ Hid (pw j ≤ 4096) ∧ wr = w) (fun _ i _ => d - (intOf i).toNat)
  case atStart => exact ⟨0, Nat.zero_le _, rfl, by rw [h0]; rfl, Lib.hid (by rw [h0]; omega), rfl⟩
  case round =>
    obtain ⟨j, hj, rfl, rfl, hA, rfl⟩ := hrel
    by_cases hlt : j < d
    · have hS2 := hS.out j
      have hA2 := hA.out
      have hPP : pw j * P ≤ 4096 * 60 := Nat.mul_le_mul hA2 h2
      have hw : IntKind.i64.wrap ((pw j : Int) * (P : Int)) = ((pw (j + 1) : Nat) : Int) := by
        rw [hS2, Int.natCast_mul]; exact IntWalk.i64_in _ (by have : ((pw j * P : Nat) : Int) ≤ 4096 * 60 := by omega
                                                              rw [Int.natCast_mul] at this
                                                              have : (0 : Int) ≤ (pw j : Int) * (P : Int) := Int.mul_nonneg (by omega) (by omega)
                                                              omega)
      have hS3 := Lib.hid hS2
      have hlt2 : (j : Int) < (d : Int) := by omega
      have hNo2 := Lib.hid (hNo.out (j + 1) (by omega))
      clear hS2 hPP
      obtain ⟨A2, hA2e⟩ : ∃ z, z = pw (j + 1) := ⟨_, rfl⟩
      rw [← hA2e] at hw hS3 hNo2
      have hE3 := Lib.hid hA2e
      clear hA2e
      generalize pw j = A1 at *
      by_cases hbig : 4096 < A2
      · have hX := hNo2.out hbig
        have hbig2 : (4096 : Int) < (A2 : Int) := by omega
        subst hX
        go_wp2_with fail
        go_ret
        exact ⟨rfl, rfl⟩
      · have hsm : ¬ (4096 : Int) < (A2 : Int) := by omega
        clear hNo2
        go_wp2_with fail
        go_roundw
        case rel => exact ⟨j + 1, by omega, by go_num, by rw [← hE3.out], Lib.hid (by rw [← hE3.out]; omega), trivial⟩
        case measure => simp [intOf]; omega
    · obtain rfl : j = d := by omega
      have hX := hYes.out hA.out
      have hge : ¬ (j : Int) < (j : Int) := by omega
      subst hX
      clear hNo hA h0 hM hYes hS
      go_wp2_with fail
      go_ret
      exact ⟨rfl, rfl⟩
set_option maxHeartbeats 2000000 in
theorem areForTables_any (B : Nat) (e p : Int) (v : Value) (xs : List RuleD) (w : World) (h : LstRule B w v xs) (hB : B ≤ w.heap.size) : Calls Try.prog 22 #[.int .i64 e, v, .int .i64 p] w fun e' w' => e' = .returned (.bool (okTab e xs p)) ∧ Below w.heap.size w w' := by
  have hA := Lib.hid (areRules_any B e p v xs w h hB)
  cases har : areRules e p xs
  · have hN : okTab e xs p = false := by simp [okTab, har]
    rw [har] at hA
    rw [hN]
    obtain ⟨a, cap, rfl, _⟩ := h
    generalize xs.length = n at *
    clear har hN
    go_enter Try.func22, Try.ntmps22
    go_wp2_with (go_at_call 33; (with_reducible refine (hA.out).mono ?_); rintro e' w1 ⟨rfl, hb1⟩; have hB1 := Lib.hid hb1; clear hb1)
    go_ret
    exact ⟨rfl, hB1.out⟩
  · obtain ⟨⟨e1, e12⟩, ⟨p1, p60⟩, _⟩ := areRules_of har
    have hN : okTab e xs p = decide (p.toNat ^ (e.toNat - 1) ≤ 4096) := by simp [okTab, har]
    rw [har] at hA
    rw [hN]
    have hF := Lib.hid (fun w' => areFewWays_any p.toNat (e.toNat - 1) w' (by omega) (by omega) (by omega))
    rw [show ((p.toNat : Nat) : Int) = p by omega, show ((e.toNat - 1 : Nat) : Int) = e - 1 by omega] at hF
    generalize decide (p.toNat ^ (e.toNat - 1) ≤ 4096) = res at *
    obtain ⟨a, cap, rfl, _⟩ := h
    generalize xs.length = n at *
    clear har hN
    go_enter Try.func22, Try.ntmps22
    go_wp2_with (first | (go_at_call 33; (with_reducible refine (hA.out).mono ?_); rintro e' w1 ⟨rfl, hb1⟩; have hB1 := Lib.hid hb1; clear hb1) | (go_at_call 34; (with_reducible refine (hF.out _).mono ?_); rintro e' w2 ⟨rfl, rfl⟩))
    go_ret
    exact ⟨rfl, hB1.out⟩
set_option maxHeartbeats 4000000 in
theorem nextTable_any (A P d k g : Nat) (w : World) (h1 : 1 ≤ P) (h2 : P ≤ 60) (hd : d ≤ 11) (hk : k < P ^ d) (ho : w.ownsRow A 2 1 (.slice (some ⟨g, 0, none⟩) (d + 1) (d + 1)) (d + 1) ((tabL P d k).map (Value.int .i64))) :
    Calls Try.prog 36 #[.slice (some ⟨g, 0, none⟩) (d + 1) (d + 1), .int .i64 (P : Nat)] w fun e w' => e = .returned (.bool (decide (k + 1 < P ^ d))) ∧ (k + 1 < P ^ d → w'.ownsRow A 2 1 (.slice (some ⟨g, 0, none⟩) (d + 1) (d + 1)) (d + 1) ((tabL P d (k + 1)).map (Value.int .i64))) ∧ w.grownBy w' (some g) := by
  have hO0 := Lib.hid ho
  have hKd := Lib.hid hk
  clear ho hk
  go_enter Try.func36, Try.ntmps36
  go_wp2_with fail
  go_loopw [5] (fun iv wr => ∃ q t : Nat, q + t = d ∧ iv = .int .i64 (t : Nat) ∧ Hid (Full P q k) ∧ Hid (wr.ownsRow A 2 1 (.slice (some ⟨g, 0, none⟩) (d + 1) (d + 1)) (d + 1) ((zeroL P d k q).map (Value.int .i64))) ∧ Hid (w.grownBy wr (some g))) (fun iv _ => (intOf iv).toNat)
  case atStart => exact ⟨0, d, by omega, by go_num, Lib.hid (full_zero _ _), Lib.hid (by rw [zero_none]; exact hO0.out), Lib.hid (grown_refl _ _)⟩
  case round =>
    obtain ⟨q, t, hqt, rfl, hF, hO, hG⟩ := hrel
    by_cases ht : 0 < t
    · have t1 : (0 : Int) < (t : Int) := by omega
      have t2 : (t : Int) < (d : Int) + 1 := by omega
      have t3 : t < d + 1 := by omega
      obtain ⟨z, hz⟩ : ∃ z, z = k / P ^ q % P := ⟨_, rfl⟩
      have cl : wr.cell? ⟨g, t, none⟩ = some (.int .i64 (z : Nat)) := by
        have h9 := hO.out.cellAt t (by omega)
        have h8 := zero_get (p := P) (k := k) (show q < d by omega)
        rw [show d - q = t by omega, ← hz] at h8
        rw [h9, List.getElem?_map, h8]; rfl
      have fr := hO.out.frozenAt t
      have hzP : z < P := by rw [hz]; exact Nat.mod_lt _ (by omega)
      have hZ := Lib.hid hz
      clear hz
      by_cases hlt : z < P - 1
      · have hl2 : (z : Int) < (P : Int) - 1 := by omega
        have hlt3 : k + 1 < P ^ d := full_less h1 hF.out (show q < d by omega) hKd.out (by rw [← hZ.out]; exact hlt)
        have hst := hO.out.stored t (.int .i64 ((z : Int) + 1))
        rw [← List.map_set] at hst
        have hT : (zeroL P d k q).set t ((z : Int) + 1) = tabL P d (k + 1) := by
          have := zero_more h1 (show q < d by omega) hF.out (by rw [← hZ.out]; exact hlt)
          rw [show d - q = t by omega, ← hZ.out] at this; exact this
        rw [hT] at hst
        have hO2 := Lib.hid hst.1
        have hG2 := Lib.hid (grown_trans hG.out hst.2)
        have hDec := Lib.hid (decide_eq_true hlt3)
        have hLt3 := Lib.hid hlt3
        clear hst hT hlt3
        go_wp2_with fail
        go_ret
        exact ⟨ret_bool (by rw [hDec.out]), fun _ => hO2.out, hG2.out⟩
      · have hl2 : ¬ (z : Int) < (P : Int) - 1 := by omega
        have hst := hO.out.stored t (.int .i64 0)
        rw [← List.map_set] at hst
        have hT : (zeroL P d k q).set t 0 = zeroL P d k (q + 1) := by
          have := zero_next (p := P) (k := k) (show q < d by omega)
          rw [show d - q = t by omega] at this; exact this
        rw [hT] at hst
        have hO2 := Lib.hid hst.1
        have hG2 := Lib.hid (grown_trans hG.out hst.2)
        have hF2 := Lib.hid (full_next h1 hF.out (by rw [← hZ.out]; exact hlt))
        clear hst hT
        go_wp2_with fail
        go_roundw
        case rel => exact ⟨q + 1, t - 1, by omega, by go_num, hF2, hO2, hG2⟩
        case measure => simp [intOf]; omega
    · obtain rfl : t = 0 := by omega
      have t1 : ¬ (0 : Int) < ((0 : Nat) : Int) := by omega
      have hL := full_last (p := P) (d := d) (k := k) (by rw [Nat.add_zero] at hqt; rw [← hqt]; exact hF.out) hKd.out
      have hDec : Hid (decide (k + 1 < P ^ d) = false) := Lib.hid (decide_eq_false (by omega))
      have hAb : Hid (¬ k + 1 < P ^ d) := Lib.hid (by omega)
      clear hL
      go_wp2_with fail
      go_ret
      exact ⟨ret_bool (by rw [hDec.out]), fun h => absurd h hAb.out, hG.out⟩
end Go.Proofs.Ytncbjdkidkklgaa
