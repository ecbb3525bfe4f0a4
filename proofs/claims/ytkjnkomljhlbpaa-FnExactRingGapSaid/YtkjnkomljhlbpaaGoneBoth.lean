/- What RingGap answers, in the model and in the program. No condition. -/
import Derived.Test.YtkjnkomljhlbpaaGoneSpec
import Derived.Test.YtkjnkomljhlbpaaGoneRing
import Derived.Test.YtkjnkomljhlbpaaCopyB
namespace Go.Proofs.Ytkjnkomljhlbpaa
open Go.RowKit Go.Lst

set_option maxHeartbeats 4000000 in
set_option maxRecDepth 100000 in
theorem implGap_any (B : Nat) (v vr vb : Value) (xs : List RuleD) (p : Int) (rs : List Int) (bs : List Bool) (w : World) (h : LstRule B w v xs) (hr : LstI B w vr rs) (hb : LstB B w vb bs) (hB : B ≤ w.heap.size) :
    Calls Try.prog 9 #[v, .int .i64 p, vr, vb] w (GapPost (ringRes xs p rs bs) w) := by
  have hP : Hid (ringRes xs p rs bs = none → ∀ w', Below w.heap.size w w' → GapPost (ringRes xs p rs bs) w (.returned (.tuple #[.int .i64 0, .int .i64 0, .bool false])) w') := Lib.hid fun hno w' hb => gap_none hno hb
  have hPy : Hid (∀ a b, ringRes xs p rs bs = some (a, b) → ∀ w', Below w.heap.size w w' → GapPost (ringRes xs p rs bs) w (.returned (.tuple #[.int .i64 a, .int .i64 b, .bool true])) w') := Lib.hid fun a b hno w' hb => gap_some hno hb
  generalize GapPost (ringRes xs p rs bs) w = Q at *
  have hA := Lib.hid (areRules_any B 12 p v xs w h hB)
  obtain ⟨a1, c1, rfl, _⟩ := id h.at_
  obtain ⟨a2, c2, rfl, _⟩ := id hr
  obtain ⟨a3, c3, rfl, _⟩ := id hb
  cases hq : areRules 12 p xs
  · rw [hq] at hA
    have hV := Lib.hid (hP.out (by unfold ringRes; rw [hq]; rfl))
    clear h hr hb hq
    generalize xs.length = m at *
    generalize rs.length = n at *
    generalize bs.length = s at *
    go_enter Try.func9, Try.ntmps9
    go_wp2_with (go_at_call 17; (with_reducible refine (hA.out).mono ?_); rintro e' w1 ⟨rfl, hb1⟩; have hB1 := Lib.hid hb1; clear hb1)
    go_ret3
    exact hV.out _ hB1.out
  · rw [hq] at hA
    obtain ⟨_, ⟨p1, p60⟩, hx32, hok⟩ := areRules_of hq
    have hG : Hid (∀ w', Below w.heap.size w w' → Calls Try.prog 18 #[.slice a1 xs.length c1, .slice a2 rs.length c2, .slice a3 bs.length c3] w' (RingPost xs rs bs w')) := Lib.hid fun w' hbw => goneRing_any B _ _ _ xs 12 p rs bs w' (h.below hbw hB) (hr.below hbw hB) (LstK.below hb hbw hB) (Nat.le_trans hB hbw.size) hok ⟨p1, p60⟩ hx32
    have hRs : ringRes xs p rs bs = if ringOk xs rs bs && decide (gapLow (lowTo xs rs bs rs.length) p ≤ gapHigh (highTo xs rs bs rs.length) p) then some (gapLow (lowTo xs rs bs rs.length) p, gapHigh (highTo xs rs bs rs.length) p) else none := by
      unfold ringRes; rw [hq, Bool.true_and]
    rw [hRs] at hP hPy
    have hSm : Hid (ringOk xs rs bs = true → ∀ k, k ≤ rs.length → (-6400 ≤ lowTo xs rs bs k ∧ lowTo xs rs bs k ≤ 6400) ∧ (-6400 ≤ highTo xs rs bs k ∧ highTo xs rs bs k ≤ 6400)) := Lib.hid fun ho k hkl => by
      unfold ringOk at ho
      simp only [Bool.and_eq_true] at ho
      have h32 := (ringLen_of ho.1.1.1).2.1
      have hf : freshTo xs.length rs k = true := List.all_eq_true.2 fun i hi => freshTo_at ho.1.1.2 (by have := List.mem_range.1 hi; omega)
      have := sums_small rs bs hok ⟨p1, p60⟩ hf
      omega
    have hLo : Hid (∀ k, lowTo xs rs bs (k + 1) = lowTo xs rs bs k + (ringAt xs rs bs k).Least ∧ highTo xs rs bs (k + 1) = highTo xs rs bs k + (ringAt xs rs bs k).Most ∧ lowTo xs rs bs 0 = 0 ∧ highTo xs rs bs 0 = 0) := Lib.hid fun k => ⟨rfl, rfl, rfl, rfl⟩
    have hGg : Hid (∀ k, k < rs.length → (goneTo xs rs bs rs.length)[k]? = some (ringAt xs rs bs k)) := Lib.hid fun k hk => goneTo_get hk
    have hGl := Lib.hid (goneTo_length xs rs bs rs.length)
    have hRm := Lib.hid (fun x ww => remainderOf_any x p ww p1 p60)
    clear h hr hb hq hRs hok
    generalize lowTo xs rs bs = lT at *
    generalize highTo xs rs bs = mT at *
    go_enter Try.func9, Try.ntmps9
    go_wp2_with (go_at_call 17; (with_reducible refine (hA.out).mono ?_); rintro e' w1 ⟨rfl, hb1⟩; have hB1 := Lib.hid hb1; clear hb1)
    refine (hG.out w1 hB1.out).mono ?_
    rintro e' w2 (⟨ho, rfl, hb2⟩ | ⟨ho, v', rfl, hO2, hb2⟩)
    · have hV := Lib.hid (hP.out (by rw [ho]; rfl) w2 (hB1.out.trans (hb2.mono hB1.out.size)))
      clear hb2
      go_wp2_with fail
      go_ret3
      exact hV.out
    · have hB2 := Lib.hid (hB1.out.trans (hb2.mono hB1.out.size))
      have hL2 : LstRule w2.heap.size w2 v' (goneTo xs rs bs rs.length) := by
        have := hO2.lstK (Nat.le_refl _)
        unfold LstRule; rw [hGl.out]; exact this
      obtain ⟨a', c', rfl, hl', _, _, hc'⟩ := hL2.at_
      rw [hGl.out] at hl' hc' ⊢
      have hC := Lib.hid hc'
      have hn1 : (0 : Nat) ≤ rs.length := Nat.zero_le _
      clear hb2 hO2 hL2 hc' hA hG hn1
      rw [ho] at hP hPy
      have hSm2 := Lib.hid (hSm.out ho)
      clear hSm ho
      generalize goneTo xs rs bs rs.length = gs at *
      generalize hnn : rs.length = n at *
      unfold maxLen at hl'
      go_wp2_with fail
      go_loopw [13, 14, 32] (fun lv hv iv wr => ∃ i : Nat, i ≤ n ∧ lv = .int .i64 (lT i) ∧ hv = .int .i64 (mT i) ∧ iv = .int .i64 (i : Nat) ∧ Hid (Below w2.heap.size w2 wr)) (fun _ _ iv _ => n - (intOf iv).toNat)
      case atStart => exact ⟨0, Nat.zero_le _, by rw [(hLo.out 0).2.2.1], by rw [(hLo.out 0).2.2.2], rfl, Lib.hid (Below.refl _ _)⟩
      case round =>
        obtain ⟨i, hi, rfl, rfl, rfl, hBq⟩ := hrel
        have hsm := hSm2.out i hi
        obtain ⟨lo, hlo⟩ : ∃ lo, lo = lT i := ⟨_, rfl⟩
        obtain ⟨hh, hhi⟩ : ∃ hh, hh = mT i := ⟨_, rfl⟩
        rw [← hlo, ← hhi] at hsm ⊢
        obtain ⟨⟨s1, s2⟩, s3, s4⟩ := hsm
        by_cases hlt : i < n
        · have y1 : (i : Int) < (n : Int) := by omega
          obtain ⟨b, o, x, rfl, hbB, hx, h0, h1, h2, h3⟩ := hC.out i hlt
          have hxr := hGg.out i hlt
          rw [hx] at hxr
          injection hxr with hxr
          have hl := hLo.out i
          rw [← hxr, ← hlo, ← hhi] at hl
          have hsn := hSm2.out (i + 1) (by omega)
          rw [hl.1, hl.2.1] at hsn
          have hL1 := Lib.hid hl.1
          have hH1 := Lib.hid hl.2.1
          rw [← hBq.out.cell (p := ⟨b, o + i * 4, none⟩) hbB] at h0
          rw [← hBq.out.cell (p := ⟨b, o + i * 4 + 1, none⟩) hbB] at h1
          rw [← hBq.out.cell (p := ⟨b, o + i * 4 + 2, none⟩) hbB] at h2
          rw [← hBq.out.cell (p := ⟨b, o + i * 4 + 3, none⟩) hbB] at h3
          have hWm := Whole.made wr 41 #[.int .i64 x.From, .int .i64 x.To, .int .i64 x.Least, .int .i64 x.Most] rfl
          have m0 := hWm.at_ (i := 0) rfl
          have m1 := hWm.at_ (i := 1) rfl
          have m2 := hWm.at_ (i := 2) rfl
          have m3 := hWm.at_ (i := 3) rfl
          have hBm := Lib.hid (hBq.out.alloc hBq.out.size (.cells #[.int .i64 x.From, .int .i64 x.To, .int .i64 x.Least, .int .i64 x.Most] 41))
          clear hWm hx hxr hl
          obtain ⟨⟨t1, t2⟩, t3, t4⟩ := hsn
          obtain ⟨x1, x2, x3, x4⟩ := x
          simp only at *
          have u1 : -12800 ≤ x3 := by omega
          have u2 : x3 ≤ 12800 := by omega
          have u3 : -12800 ≤ x4 := by omega
          have u4 : x4 ≤ 12800 := by omega
          clear t1 t2 t3 t4 hlo hhi
          go_wp2_with fail
          go_roundw
          case rel => exact ⟨i + 1, by omega, by rw [hL1.out], by rw [hH1.out], by go_num, hBm⟩
          case measure => simp [intOf]; omega
        · obtain rfl : i = n := by omega
          have hge : ¬ (i : Int) < (i : Int) := by omega
          rw [← hlo, ← hhi] at hP hPy
          have hBz := Lib.hid (hB2.out.trans (hBq.out.mono hB2.out.size))
          obtain ⟨r1, hr1⟩ : ∃ r1, r1 = remG (-lo) p := ⟨_, rfl⟩
          obtain ⟨r2, hr2⟩ : ∃ r2, r2 = remG hh p := ⟨_, rfl⟩
          have hR1 := Lib.hid (fun ww => hRm.out (-lo) ww)
          have hR2 := Lib.hid (fun ww => hRm.out hh ww)
          rw [← hr1] at hR1
          rw [← hr2] at hR2
          have b1 := remG_in (x := -lo) p1
          have b2 := remG_in (x := hh) p1
          rw [← hr1] at b1
          rw [← hr2] at b2
          obtain ⟨b1a, b1b⟩ := b1
          obtain ⟨b2a, b2b⟩ := b2
          have z1 : r1 ≤ 60 := by omega
          have z2 : r2 ≤ 60 := by omega
          have hgl : gapLow lo p = lo + r1 := by unfold gapLow; rw [← hr1]
          have hgh : gapHigh hh p = hh - r2 := by unfold gapHigh; rw [← hr2]
          rw [hgl, hgh] at hP hPy
          clear hlo hhi hr1 hr2 hgl hgh b1b b2b
          by_cases hle : lo + r1 ≤ hh - r2
          · have hY := Lib.hid (hPy.out _ _ (by rw [decide_eq_true hle]; rfl) _ hBz.out)
            have hle' : ¬ hh - r2 < lo + r1 := by omega
            clear hle
            go_wp2_with (first | (go_at_call 19; (with_reducible refine (hR1.out _).mono ?_); rintro e' w9 ⟨rfl, rfl⟩) | (go_at_call 19; (with_reducible refine (hR2.out _).mono ?_); rintro e' w9 ⟨rfl, rfl⟩))
            go_ret3
            exact hY.out
          · have hY := Lib.hid (hP.out (by rw [decide_eq_false hle]; rfl) _ hBz.out)
            have hle' : hh - r2 < lo + r1 := by omega
            clear hle
            go_wp2_with (first | (go_at_call 19; (with_reducible refine (hR1.out _).mono ?_); rintro e' w9 ⟨rfl, rfl⟩) | (go_at_call 19; (with_reducible refine (hR2.out _).mono ?_); rintro e' w9 ⟨rfl, rfl⟩))
            go_ret3
            exact hY.out
theorem ringGap_both (xs : List RuleD) (p : Int) (rs : List Int) (bs : List Bool) (_ : ∀ y ∈ xs, y.wf) (_ : (Lit.int .i64 p).wf = true) (_ : ∀ y ∈ rs, (Lit.int .i64 y).wf = true) (_ : ∀ y ∈ bs, y = y) : ∃ (r0 r1 : Int) (r2 : Bool),
    (∀ (B : Nat) (v0 v2 v3 : Value) (w : World), LstRule B w v0 xs → LstI B w v2 rs → LstB B w v3 bs → B ≤ w.heap.size → Calls Try.prog 5 #[v0, .int .i64 p, v2, v3] w fun e w' => e = .returned (.tuple #[.int .i64 r0, .int .i64 r1, .bool r2]) ∧ Below w.heap.size w w') ∧
    (∀ (B : Nat) (v0 v2 v3 : Value) (w : World), LstRule B w v0 xs → LstI B w v2 rs → LstB B w v3 bs → B ≤ w.heap.size → Calls Try.prog 9 #[v0, .int .i64 p, v2, v3] w fun e w' => e = .returned (.tuple #[.int .i64 r0, .int .i64 r1, .bool r2]) ∧ Below w.heap.size w w') := by
  refine ⟨_, _, _, fun B v0 v2 v3 w h1 h2 h3 hB => ?_, fun B v0 v2 v3 w h1 h2 h3 hB => implGap_any B v0 v2 v3 xs p rs bs w h1 h2 h3 hB⟩
  cases hq : (areRules 12 p xs && ringLen rs bs)
  · exact specGap_len B v0 v2 v3 xs p rs bs w h1 h2 h3 hq
  · rw [Bool.and_eq_true] at hq
    exact specGap_yes B v0 v2 v3 xs p rs bs w h1 h2 h3 hq.1 hq.2
end Go.Proofs.Ytkjnkomljhlbpaa
