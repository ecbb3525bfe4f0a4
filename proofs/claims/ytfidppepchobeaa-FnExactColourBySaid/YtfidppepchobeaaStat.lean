/- Contracts: tasks are given to stations; the model's loops and the program's. -/
import Derived.Test.YtfidppepchobeaaStatPure
import Derived.Test.YtfidppepchobeaaPost
namespace Go.Proofs.Ytfidppepchobeaa
open Go.RowKit Go.Lst

theorem fits_done {ts bs : List Int} {c : Int} {d : Nat} {ld : Int} {k : Nat} (h : d.testBit k = true) : fits ts bs c d ld k = false := by unfold fits; rw [h]; simp
theorem fits_before {ts bs : List Int} {c : Int} {d : Nat} {ld : Int} {k : Nat} (h : (bits .andNot .i64 (bs.getD k 0) (d : Int) == 0) = false) : fits ts bs c d ld k = false := by unfold fits; rw [h]; simp
theorem fits_over {ts bs : List Int} {c : Int} {d : Nat} {ld : Int} {k : Nat} (h : c < ld + ts.getD k 0) : fits ts bs c d ld k = false := by unfold fits; rw [decide_eq_false (show ¬ ld + ts.getD k 0 ≤ c by omega)]; simp
theorem fits_yes {ts bs : List Int} {c : Int} {d : Nat} {ld : Int} {k : Nat} (h1 : d.testBit k = false) (h2 : (bits .andNot .i64 (bs.getD k 0) (d : Int) == 0) = true) (h3 : ¬ c < ld + ts.getD k 0) : fits ts bs c d ld k = true := by
  unfold fits; rw [h1, h2, decide_eq_true (show ld + ts.getD k 0 ≤ c by omega)]; rfl
theorem pick_not {ts bs : List Int} {c : Int} {d : Nat} {ld : Int} {k : Nat} (h : fits ts bs c d ld k = false) : pickTo ts bs c d ld (k + 1) = pickTo ts bs c d ld k := by
  show (if fits ts bs c d ld k then _ else _) = _
  rw [h]; rfl
theorem pick_first {ts bs : List Int} {c : Int} {d : Nat} {ld : Int} {k : Nat} (h : fits ts bs c d ld k = true) (h2 : pickTo ts bs c d ld k < 0) : pickTo ts bs c d ld (k + 1) = (k : Int) := by
  show (if fits ts bs c d ld k then _ else _) = _
  rw [h, if_pos rfl, if_pos h2]
theorem pick_more {ts bs : List Int} {c : Int} {d : Nat} {ld : Int} {k q : Nat} (h : fits ts bs c d ld k = true) (h2 : pickTo ts bs c d ld k = (q : Int)) (h3 : ts.getD q 0 < ts.getD k 0) : pickTo ts bs c d ld (k + 1) = (k : Int) := by
  show (if fits ts bs c d ld k then _ else _) = _
  rw [h, if_pos rfl, h2, if_neg (by omega), show ((q : Nat) : Int).toNat = q by omega, if_pos h3]
theorem pick_stay {ts bs : List Int} {c : Int} {d : Nat} {ld : Int} {k q : Nat} (h : fits ts bs c d ld k = true) (h2 : pickTo ts bs c d ld k = (q : Int)) (h3 : ¬ ts.getD q 0 < ts.getD k 0) : pickTo ts bs c d ld (k + 1) = pickTo ts bs c d ld k := by
  show (if fits ts bs c d ld k then _ else _) = _
  rw [h, if_pos rfl, h2, if_neg (by omega), show ((q : Nat) : Int).toNat = q by omega, if_neg h3]

set_option maxHeartbeats 400000 in
theorem isIn_any (z k : Nat) (hz : z < 4096) (hk : k < 12) (w : World) :
    Calls Try.prog 90 #[.int .i64 (z : Int), .int .i64 (k : Int)] w fun e w' => e = .returned (.bool (z.testBit k)) ∧ w = w' := by
  have hd := digit_of z k (by omega)
  have hm : min k 64 = k := by omega
  have hk3 : (k : Int) ≤ 64 := by omega
  cases hq : z.testBit k
  · rw [hq, if_neg (by simp)] at hd
    clear hq hz
    go_enter Try.func90, Try.ntmps90
    go_wp2_with fail
    go_ret
    exact ⟨rfl, rfl⟩
  · rw [hq, if_pos rfl] at hd
    clear hq hz
    go_enter Try.func90, Try.ntmps90
    go_wp2_with fail
    go_ret
    exact ⟨rfl, rfl⟩
set_option maxHeartbeats 4000000 in
theorem nextAtStation_any (B : Nat) (v1 v2 : Value) (ts bs : List Int) (c ld : Int) (d : Nat) (w : World) (h1 : LstI B w v1 ts) (h2 : LstI B w v2 bs) (hl : bs.length = ts.length) (hn : ts.length ≤ 12) (hd : d < 4096)
    (hts : ∀ i, i < ts.length → 1 ≤ ts.getD i 0 ∧ ts.getD i 0 ≤ 10000) (hbs : ∀ i, i < ts.length → 0 ≤ bs.getD i 0 ∧ bs.getD i 0 ≤ 4096) (hld : 0 ≤ ld ∧ ld ≤ c) (hc : c ≤ 10000) :
    Calls Try.prog 40 #[v1, v2, .int .i64 (d : Int), .int .i64 (c - ld)] w fun e w' => e = .returned (.int .i64 (pickTo ts bs c d ld ts.length)) ∧ w = w' := by
  obtain ⟨a1, cap1, rfl, hl1, _, _, hc1⟩ := h1.at_
  obtain ⟨a2, cap2, rfl, hl2, _, _, hc2⟩ := h2.at_
  rw [hl] at hc2 hl2 ⊢
  have hC1 : Hid (∀ k, k < ts.length → ∃ b o, a1 = some ⟨b, o, none⟩ ∧ w.cell? ⟨b, o + k, none⟩ = some (.int .i64 (ts.getD k 0))) := Lib.hid fun k hk => by
    obtain ⟨b, o, x, h1, _, h3, h4⟩ := hc1 k hk
    exact ⟨b, o, h1, by rw [getD_of h3]; exact h4⟩
  have hC2 : Hid (∀ k, k < ts.length → ∃ b o, a2 = some ⟨b, o, none⟩ ∧ w.cell? ⟨b, o + k, none⟩ = some (.int .i64 (bs.getD k 0))) := Lib.hid fun k hk => by
    obtain ⟨b, o, x, h1, _, h3, h4⟩ := hc2 k hk
    exact ⟨b, o, h1, by rw [getD_of h3]; exact h4⟩
  have hI : Hid (∀ k : Nat, k < 12 → Calls Try.prog 90 #[.int .i64 (d : Int), .int .i64 (k : Int)] w fun e w' => e = .returned (.bool (d.testBit k)) ∧ w = w') := Lib.hid fun k hk => isIn_any d k hd hk w
  have hT := Lib.hid hts
  have hBs := Lib.hid hbs
  have hP0 : Hid (pickTo ts bs c d ld 0 = -1) := Lib.hid rfl
  have hPi : Hid (∀ k, -1 ≤ pickTo ts bs c d ld k ∧ pickTo ts bs c d ld k < k) := Lib.hid fun k => pickTo_in _ _ _ _ _ k
  have hNo : Hid (∀ k, fits ts bs c d ld k = false → pickTo ts bs c d ld (k + 1) = pickTo ts bs c d ld k) := Lib.hid fun k h => pick_not h
  have hFi : Hid (∀ k, fits ts bs c d ld k = true → pickTo ts bs c d ld k < 0 → pickTo ts bs c d ld (k + 1) = (k : Int)) := Lib.hid fun k h => pick_first h
  have hMo : Hid (∀ k q : Nat, fits ts bs c d ld k = true → pickTo ts bs c d ld k = (q : Int) → ts.getD q 0 < ts.getD k 0 → pickTo ts bs c d ld (k + 1) = (k : Int)) := Lib.hid fun k q h => pick_more h
  have hSt : Hid (∀ k q : Nat, fits ts bs c d ld k = true → pickTo ts bs c d ld k = (q : Int) → ¬ ts.getD q 0 < ts.getD k 0 → pickTo ts bs c d ld (k + 1) = pickTo ts bs c d ld k) := Lib.hid fun k q h => pick_stay h
  clear h1 h2 hc1 hc2 hts hbs
  generalize pickTo ts bs c d ld = F at *
  generalize ts.length = n at *
  unfold maxLen at hl1 hl2
  obtain ⟨hld1, hld2⟩ := hld
  go_enter Try.func40, Try.ntmps40
  go_wp2_with fail
  go_loopw [9, 14] (fun fv iv wr => ∃ (k : Nat) (f : Int), k ≤ n ∧ iv = .int .i64 k ∧ fv = .int .i64 f ∧ Hid (f = F k) ∧ w = wr) (fun _ iv _ => n - (intOf iv).toNat)
  case atStart => exact ⟨0, -1, Nat.zero_le _, rfl, rfl, Lib.hid hP0.out.symm, rfl⟩
  case round =>
    obtain ⟨k, f, hk, rfl, rfl, hf, rfl⟩ := hrel
    have hin := hPi.out k
    rw [← hf.out] at hin
    by_cases hlt : k < n
    · obtain ⟨b1, o1, rfl, p1⟩ := hC1.out k hlt
      obtain ⟨b2, o2, rfl, p2⟩ := hC2.out k hlt
      have hi := Lib.hid (hI.out k (by omega))
      obtain ⟨t1, t2⟩ := hT.out k hlt
      obtain ⟨s1, s2⟩ := hBs.out k hlt
      cases hq : d.testBit k
      case true =>
        have hF2 := Lib.hid (show f = F (k + 1) by rw [hNo.out k (fits_done hq)]; exact hf.out)
        rw [hq] at hi
        generalize ts.getD k 0 = x at *
        generalize bs.getD k 0 = y at *
        clear hq hf
        go_wp2_with (go_at_call 90; (with_reducible refine hi.out.mono ?_); rintro e w' ⟨rfl, rfl⟩)
        go_roundw
        case rel => exact ⟨k + 1, _, by omega, by go_num, rfl, hF2, by trivial⟩
        case measure => simp [intOf]; omega
      case false =>
        rw [hq] at hi
        cases hb : (bits .andNot .i64 (bs.getD k 0) (d : Int) == 0)
        case false =>
          have hF2 := Lib.hid (show f = F (k + 1) by rw [hNo.out k (fits_before hb)]; exact hf.out)
          have hb2 : (bits .andNot .i64 (bs.getD k 0) (d : Int) != 0) = true := by simp only [bne, hb, Bool.not_false]
          generalize ts.getD k 0 = x at *
          generalize bs.getD k 0 = y at *
          clear hq hf hb
          go_wp2_with (go_at_call 90; (with_reducible refine hi.out.mono ?_); rintro e w' ⟨rfl, rfl⟩)
          go_roundw
          case rel => exact ⟨k + 1, _, by omega, by go_num, rfl, hF2, by trivial⟩
          case measure => simp [intOf]; omega
        case true =>
          have hb2 : (bits .andNot .i64 (bs.getD k 0) (d : Int) != 0) = false := by simp only [bne, hb, Bool.not_true]
          by_cases hov : c < ld + ts.getD k 0
          · have hF2 := Lib.hid (show f = F (k + 1) by rw [hNo.out k (fits_over hov)]; exact hf.out)
            have ho2 : decide (c - ld < ts.getD k 0) = true := decide_eq_true (by omega)
            generalize ts.getD k 0 = x at *
            generalize bs.getD k 0 = y at *
            clear hq hf hb
            go_wp2_with (go_at_call 90; (with_reducible refine hi.out.mono ?_); rintro e w' ⟨rfl, rfl⟩)
            go_roundw
            case rel => exact ⟨k + 1, _, by omega, by go_num, rfl, hF2, by trivial⟩
            case measure => simp [intOf]; omega
          · have hfy := fits_yes hq hb hov
            have ho2 : decide (c - ld < ts.getD k 0) = false := decide_eq_false (by omega)
            by_cases hneg : f < 0
            · have hF2 := Lib.hid (show (k : Int) = F (k + 1) from (hFi.out k hfy (by rw [← hf.out]; exact hneg)).symm)
              have hn2 : decide (f < 0) = true := decide_eq_true hneg
              generalize ts.getD k 0 = x at *
              generalize bs.getD k 0 = y at *
              clear hq hf hb hfy
              go_wp2_with (go_at_call 90; (with_reducible refine hi.out.mono ?_); rintro e w' ⟨rfl, rfl⟩)
              go_roundw
              case rel => exact ⟨k + 1, _, by omega, by go_num, rfl, hF2, by trivial⟩
              case measure => simp [intOf]; omega
            · obtain ⟨q, rfl⟩ := Int.eq_ofNat_of_zero_le (show 0 ≤ f by omega)
              obtain ⟨b1', o1', hab, p3⟩ := hC1.out q (by omega)
              obtain ⟨rfl, rfl⟩ : b1 = b1' ∧ o1 = o1' := by simpa using hab
              obtain ⟨t3, t4⟩ := hT.out q (by omega)
              have hn2 : decide ((q : Int) < 0) = false := decide_eq_false (by omega)
              clear hab
              by_cases hx : ts.getD q 0 < ts.getD k 0
              · have hF2 := Lib.hid (show (k : Int) = F (k + 1) from (hMo.out k q hfy hf.out.symm hx).symm)
                have hx2 : decide (ts.getD q 0 < ts.getD k 0) = true := decide_eq_true hx
                generalize ts.getD k 0 = x at *
                generalize ts.getD q 0 = x2 at *
                generalize bs.getD k 0 = y at *
                clear hq hf hb hfy
                go_wp2_with (go_at_call 90; (with_reducible refine hi.out.mono ?_); rintro e w' ⟨rfl, rfl⟩)
                go_roundw
                case rel => exact ⟨k + 1, _, by omega, by go_num, rfl, hF2, by trivial⟩
                case measure => simp [intOf]; omega
              · have hF2 := Lib.hid (show (q : Int) = F (k + 1) by rw [hSt.out k q hfy hf.out.symm (by omega)]; exact hf.out)
                have hx2 : decide (ts.getD q 0 < ts.getD k 0) = false := decide_eq_false hx
                generalize ts.getD k 0 = x at *
                generalize ts.getD q 0 = x2 at *
                generalize bs.getD k 0 = y at *
                clear hq hf hb hfy
                go_wp2_with (go_at_call 90; (with_reducible refine hi.out.mono ?_); rintro e w' ⟨rfl, rfl⟩)
                go_roundw
                case rel => exact ⟨k + 1, _, by omega, by go_num, rfl, hF2, by trivial⟩
                case measure => simp [intOf]; omega
    · obtain rfl : k = n := by omega
      have hS := Lib.hid hf.out
      clear hf
      go_wp2_with fail
      go_ret
      exact ⟨ret_int hS.out, rfl⟩
end Go.Proofs.Ytfidppepchobeaa
