/- Contracts: the sums of waits that a ring allows, on the model's side. No condition. -/
import Derived.Test.YtkjnkomljhlbpaaGonePure
import Derived.Test.YtkjnkomljhlbpaaHas
import Derived.Test.YtkjnkomljhlbpaaBools
namespace Go.Proofs.Ytkjnkomljhlbpaa
open Go.RowKit Go.Lst

theorem ringRes_no {xs : List RuleD} {p : Int} {rs : List Int} {bs : List Bool} (h : ringOk xs rs bs = false) : ringRes xs p rs bs = none := by unfold ringRes; rw [h]; simp
theorem gap_none {r : Option (Int × Int)} (hr : r = none) {w w' : World} (hb : Below w.heap.size w w') : GapPost r w (.returned (.tuple #[.int .i64 0, .int .i64 0, .bool false])) w' := by subst hr; exact ⟨rfl, hb⟩
theorem gap_some {r : Option (Int × Int)} {a b : Int} (hr : r = some (a, b)) {w w' : World} (hb : Below w.heap.size w w') : GapPost r w (.returned (.tuple #[.int .i64 a, .int .i64 b, .bool true])) w' := by subst hr; exact ⟨rfl, hb⟩
theorem ringLen_of {rs : List Int} {bs : List Bool} (h : ringLen rs bs = true) : 1 ≤ rs.length ∧ rs.length ≤ 32 ∧ bs.length = rs.length := by
  unfold ringLen at h; simp only [Bool.and_eq_true, decide_eq_true_eq] at h; exact ⟨h.1.1, h.1.2, h.2⟩
set_option maxHeartbeats 4000000 in
set_option maxRecDepth 100000 in
theorem specGap_len (B : Nat) (v vr vb : Value) (xs : List RuleD) (p : Int) (rs : List Int) (bs : List Bool) (w : World) (h : LstRule B w v xs) (hr : LstI B w vr rs) (hb : LstB B w vb bs) (hq : (areRules 12 p xs && ringLen rs bs) = false) :
    Calls Try.prog 5 #[v, .int .i64 p, vr, vb] w (GapPost (ringRes xs p rs bs) w) := by
  have hno : ringRes xs p rs bs = none := by
    unfold ringRes
    cases h1 : areRules 12 p xs
    · rfl
    · rw [h1, Bool.true_and] at hq
      unfold ringOk; rw [hq]; rfl
  have hP : Hid (∀ w', Below w.heap.size w w' → GapPost (ringRes xs p rs bs) w (.returned (.tuple #[.int .i64 0, .int .i64 0, .bool false])) w') := Lib.hid fun w' hb => gap_none hno hb
  generalize GapPost (ringRes xs p rs bs) w = Q at *
  have hR := Lib.hid (l05Rules_any B 12 p v xs w h)
  obtain ⟨a1, c1, rfl, _⟩ := h.at_
  obtain ⟨a2, c2, rfl, hl2, _⟩ := id hr
  obtain ⟨a3, c3, rfl, hl3, _⟩ := id hb
  have hq2 : Hid (areRules 12 p xs = true → ringLen rs bs = false) := Lib.hid fun h1 => by rw [h1, Bool.true_and] at hq; exact hq
  clear h hr hb hno hq
  unfold ringLen at hq2
  generalize areRules 12 p xs = ar at *
  generalize xs.length = n at *
  generalize rs.length = r at *
  generalize bs.length = s at *
  unfold maxLen at hl2 hl3
  cases ar
  · go_enter Try.func5, Try.ntmps5
    go_wp2_with (go_at_call 13; (with_reducible refine (hR.out).mono ?_); rintro e' w1 ⟨nd, rfl, rfl⟩)
    go_ret3
    exact hP.out _ (below_drawn w nd)
  · by_cases d1 : r < 1
    · have e1 : (r : Int) < 1 := by omega
      go_enter Try.func5, Try.ntmps5
      go_wp2_with (go_at_call 13; (with_reducible refine (hR.out).mono ?_); rintro e' w1 ⟨nd, rfl, rfl⟩)
      go_ret3
      exact hP.out _ (below_drawn w nd)
    · have e1 : ¬ (r : Int) < 1 := by omega
      by_cases d2 : 32 < r
      · have e2 : (32 : Int) < (r : Int) := by omega
        go_enter Try.func5, Try.ntmps5
        go_wp2_with (go_at_call 13; (with_reducible refine (hR.out).mono ?_); rintro e' w1 ⟨nd, rfl, rfl⟩)
        go_ret3
        exact hP.out _ (below_drawn w nd)
      · have e2 : ¬ (32 : Int) < (r : Int) := by omega
        have hq3 := hq2.out rfl
        have e3 : ((s : Int) != (r : Int)) = true := by
          rw [bne_iff_ne]; intro hh
          have : s = r := by omega
          rw [decide_eq_true (show 1 ≤ r by omega), decide_eq_true (show r ≤ 32 by omega), decide_eq_true this] at hq3; cases hq3
        clear hq2 hq3
        go_enter Try.func5, Try.ntmps5
        go_wp2_with (go_at_call 13; (with_reducible refine (hR.out).mono ?_); rintro e' w1 ⟨nd, rfl, rfl⟩)
        go_ret3
        exact hP.out _ (below_drawn w nd)
def firstTo (xs : List RuleD) (rs : List Int) (bs : List Bool) (k : Nat) : Int := if k = 0 then 0 else (ringAt xs rs bs 0).From
def atTo (xs : List RuleD) (rs : List Int) (bs : List Bool) (k : Nat) : Int := if k = 0 then 0 else (ringAt xs rs bs (k - 1)).To
theorem getD_here {α : Type} {l : List α} {k : Nat} {d : α} (h : k < l.length) : l[k]? = some (l.getD k d) := by
  rw [List.getD_eq_getElem?_getD, List.getElem?_eq_getElem h]; rfl
set_option maxHeartbeats 8000000 in
set_option maxRecDepth 100000 in
theorem specGap_yes (B : Nat) (v vr vb : Value) (xs : List RuleD) (p : Int) (rs : List Int) (bs : List Bool) (w : World) (h : LstRule B w v xs) (hr : LstI B w vr rs) (hb : LstB B w vb bs) (hq1 : areRules 12 p xs = true) (hq2 : ringLen rs bs = true) :
    Calls Try.prog 5 #[v, .int .i64 p, vr, vb] w (GapPost (ringRes xs p rs bs) w) := by
  have hRs : ringRes xs p rs bs = if freshTo xs.length rs rs.length && joinTo xs rs bs rs.length && ringShut xs rs bs && decide (gapLow (lowTo xs rs bs rs.length) p ≤ gapHigh (highTo xs rs bs rs.length) p) then some (gapLow (lowTo xs rs bs rs.length) p, gapHigh (highTo xs rs bs rs.length) p) else none := by
    unfold ringRes ringOk; rw [hq1, hq2]; rfl
  have hP : Hid (ringRes xs p rs bs = none → ∀ w', Below w.heap.size w w' → GapPost (ringRes xs p rs bs) w (.returned (.tuple #[.int .i64 0, .int .i64 0, .bool false])) w') := Lib.hid fun hno w' hb => gap_none hno hb
  have hPy : Hid (∀ a b, ringRes xs p rs bs = some (a, b) → ∀ w', Below w.heap.size w w' → GapPost (ringRes xs p rs bs) w (.returned (.tuple #[.int .i64 a, .int .i64 b, .bool true])) w') := Lib.hid fun a b hno w' hb => gap_some hno hb
  generalize GapPost (ringRes xs p rs bs) w = Q at *
  rw [hRs] at hP hPy
  clear hRs
  have hR := Lib.hid (l05Rules_any B 12 p v xs w h)
  rw [hq1] at hR
  obtain ⟨_, ⟨p1, p60⟩, hx32, hok⟩ := areRules_of hq1
  obtain ⟨l1, l32, hbl⟩ := ringLen_of hq2
  obtain ⟨a1, c1, rfl, hl1, _, _, hc1⟩ := h.at_
  obtain ⟨a2, c2, rfl, hl2, hc2a, hc2b, hc2l, hc2⟩ := id hr
  obtain ⟨b2, o2, rfl, hb2B, hc2c⟩ := hc2 (by omega)
  obtain ⟨a3, c3, rfl, hl3, hc3a, hc3b, hc3l, hc3⟩ := id hb
  obtain ⟨b3, o3, rfl, hb3B, hc3c⟩ := hc3 (by omega)
  have hRing : Hid (∀ k, k < rs.length → w.cell? ⟨b2, o2 + k, none⟩ = some (.int .i64 (rs.getD k 0))) := Lib.hid fun k hk => hc2c k _ (by rw [List.getElem?_map, getD_here hk]; rfl)
  have hAlong : Hid (∀ k, k < rs.length → w.cell? ⟨b3, o3 + k, none⟩ = some (.bool (bs.getD k false))) := Lib.hid fun k hk => hc3c k _ (by rw [List.getElem?_map, getD_here (by omega : k < bs.length)]; rfl)
  have hHas : Hid (∀ k, k < rs.length → ∀ y ww nn, Calls Try.prog 15 #[.slice (some ⟨b2, o2, none⟩) k c2, .int .i64 y] ((w.drewN ww).drewN nn) (Ret (.bool ((rs.take k).contains y)) ((w.drewN ww).drewN nn))) := Lib.hid fun k hk y ww nn => l00Has_any B _ _ y _ ((((hr.take (k := k) (by omega)).drewN ww).drewN nn).lst)
  have hRl : Hid (∀ q, q < xs.length → ∃ b o x, a1 = some ⟨b, o, none⟩ ∧ xs[q]? = some x ∧ w.cell? ⟨b, o + q * 4, none⟩ = some (.int .i64 x.From) ∧ w.cell? ⟨b, o + q * 4 + 1, none⟩ = some (.int .i64 x.To) ∧ w.cell? ⟨b, o + q * 4 + 2, none⟩ = some (.int .i64 x.Least) ∧ w.cell? ⟨b, o + q * 4 + 3, none⟩ = some (.int .i64 x.Most)) := Lib.hid fun q hq => by
    obtain ⟨b, o, x, ha, _, hx, h0, h1, h2, h3⟩ := hc1 q hq
    exact ⟨b, o, x, ha, hx, h0, h1, h2, h3⟩
  have hSm : Hid (∀ k, freshTo xs.length rs k = true → k ≤ rs.length → (-6400 ≤ lowTo xs rs bs k ∧ lowTo xs rs bs k ≤ 6400) ∧ (-6400 ≤ highTo xs rs bs k ∧ highTo xs rs bs k ≤ 6400)) := Lib.hid fun k hk hkl => by
    have := sums_small rs bs hok ⟨p1, p60⟩ hk
    omega
  have hNf : Hid (∀ k, k < rs.length → freshAt xs.length rs k = false → freshTo xs.length rs rs.length = false) := Lib.hid fun k hk hf => freshTo_no hf hk
  have hNj : Hid (∀ k, k < rs.length → joinAt xs rs bs k = false → joinTo xs rs bs rs.length = false) := Lib.hid fun k hk hf => joinTo_no hf hk
  have hOk := Lib.hid hok
  have hFs : Hid (∀ k, freshTo xs.length rs (k + 1) = (freshTo xs.length rs k && freshAt xs.length rs k)) := Lib.hid fun k => freshTo_succ _ _ _
  have hJs : Hid (∀ k, joinTo xs rs bs (k + 1) = (joinTo xs rs bs k && joinAt xs rs bs k)) := Lib.hid fun k => joinTo_succ _ _ _ _
  have hF0 : Hid (freshTo xs.length rs 0 = true ∧ joinTo xs rs bs 0 = true) := Lib.hid ⟨rfl, rfl⟩
  have hZ0 : Hid (lowTo xs rs bs 0 = 0 ∧ highTo xs rs bs 0 = 0) := Lib.hid ⟨rfl, rfl⟩
  have hG1 : Hid (∀ k, 1 ≤ k → firstTo xs rs bs (k + 1) = firstTo xs rs bs k) := Lib.hid fun k hk => by unfold firstTo; rw [if_neg (by omega), if_neg (by omega)]
  have hLo : Hid (∀ k, lowTo xs rs bs (k + 1) = lowTo xs rs bs k + (ringAt xs rs bs k).Least ∧ highTo xs rs bs (k + 1) = highTo xs rs bs k + (ringAt xs rs bs k).Most) := Lib.hid fun k => ⟨rfl, rfl⟩
  have hFa : Hid (∀ k y hs, rs.getD k 0 = y → (rs.take k).contains y = hs → freshAt xs.length rs k = (inB y 0 ((xs.length : Int) - 1) && !hs)) := Lib.hid fun k y hs h1 h2 => by subst h1; subst h2; rfl
  have hRa : Hid (∀ k (q : Nat) x b, rs.getD k 0 = (q : Int) → xs[q]? = some x → bs.getD k false = b → ringAt xs rs bs k = goneD x b) := Lib.hid fun k q x b h1 h2 h3 => by
    unfold ringAt; rw [h1, h3, Int.toNat_natCast, List.getD_eq_getElem?_getD, h2]; rfl
  have hJa : Hid (∀ k, joinAt xs rs bs k = (k == 0 || (ringAt xs rs bs k).From == atTo xs rs bs k)) := Lib.hid fun k => by
    unfold joinAt atTo
    cases k with
    | zero => simp
    | succ k => simp
  have hAt : Hid (∀ k, atTo xs rs bs (k + 1) = (ringAt xs rs bs k).To ∧ firstTo xs rs bs (k + 1) = (ringAt xs rs bs 0).From ∧ atTo xs rs bs 0 = 0 ∧ firstTo xs rs bs 0 = 0) := Lib.hid fun k => ⟨rfl, rfl, rfl, rfl⟩
  have hSh : Hid (ringShut xs rs bs = (firstTo xs rs bs rs.length == atTo xs rs bs rs.length)) := Lib.hid (by unfold ringShut firstTo atTo; rw [if_neg (by omega), if_neg (by omega)])
  rw [show bs.length = rs.length from hbl]
  clear h hr hb hq1 hq2 hc1 hc2 hc3 hc2c hc3c hok hl1 hl2 hl3 hc2b hc2l hc3a hc3b hc3l
  generalize freshTo xs.length rs = fT at *
  generalize joinTo xs rs bs = jT at *
  generalize lowTo xs rs bs = lT at *
  generalize highTo xs rs bs = mT at *
  generalize atTo xs rs bs = aT at *
  generalize firstTo xs rs bs = gT at *
  generalize ringShut xs rs bs = sh at *
  generalize xs.length = m at *
  generalize hn : rs.length = n at *
  have e1 : ¬ (n : Int) < 1 := by omega
  have e2 : ¬ (32 : Int) < (n : Int) := by omega
  go_enter Try.func5, Try.ntmps5
  go_wp2_with (go_at_call 13; (with_reducible refine (hR.out).mono ?_); rintro e' w1 ⟨nd, rfl, rfl⟩)
  go_loopw [12, 13, 14, 15, 44] (fun lo hi fi ai iv wr => ∃ k mm : Nat, k ≤ n ∧ lo = .int .i64 (lT k) ∧ hi = .int .i64 (mT k) ∧ fi = .int .i64 (gT k) ∧ ai = .int .i64 (aT k) ∧ iv = .int .i64 (k : Nat) ∧ Hid (fT k = true ∧ jT k = true) ∧ wr = w.drewN mm) (fun _ _ _ _ iv _ => n - (intOf iv).toNat)
  case atStart => exact ⟨0, nd, Nat.zero_le _, by rw [hZ0.out.1], by rw [hZ0.out.2], by rw [(hAt.out 0).2.2.2], by rw [(hAt.out 0).2.2.1], rfl, hF0, rfl⟩
  case round =>
    obtain ⟨k, mm, hk, rfl, rfl, rfl, rfl, rfl, hI, rfl⟩ := hrel
    by_cases hlt : k < n
    · have y1 : (k : Int) < (n : Int) := by omega
      have y6 : (0 : Int) ≤ (k : Int) := by omega
      have y8 : (k : Int) ≤ (c2 : Int) := by omega
      have hcell := hRing.out k hlt
      have hal := hAlong.out k hlt
      have hsm := hSm.out k hI.out.1 hk
      obtain ⟨y, hy0⟩ : ∃ y, y = rs.getD k 0 := ⟨_, rfl⟩
      obtain ⟨hs, hhs⟩ : ∃ hs, hs = (rs.take k).contains y := ⟨_, rfl⟩
      have hH := Lib.hid (hHas.out k hlt y mm)
      have hfa := hFa.out k y hs hy0.symm hhs.symm
      have hy := Lib.hid hy0.symm
      rw [← hhs] at hH
      rw [← hy0] at hcell
      rw [← World.cell?_drewN (n := mm)] at hcell hal
      have hRq := hRl
      simp only [← World.cell?_drewN (w := w) (n := mm)] at hRq
      clear hy0 hhs
      have hBl := Lib.hid (below_drawn w mm)
      generalize hwo : w.drewN mm = wo at *
      have hWo := Lib.hid hwo
      clear hwo
      obtain ⟨lo, hlo⟩ : ∃ lo, lo = lT k := ⟨_, rfl⟩
      obtain ⟨hi, hhi⟩ : ∃ hi, hi = mT k := ⟨_, rfl⟩
      rw [← hlo, ← hhi] at hsm ⊢
      obtain ⟨⟨s1, s2⟩, s3, s4⟩ := hsm
      cases hq : inB y 0 ((m : Int) - 1)
      · rw [hq, Bool.false_and] at hfa
        have hV := Lib.hid (hP.out (by rw [hNf.out k hlt hfa]; rfl))
        clear hfa
        go_wp2_with fail
        go_quiet ((go_at_call 14; with_reducible exact Ret.quiet (Ret.same (l00In_is _ _ _ hq _))))
        go_wp2
        go_ret3
        exact hV.out _ (below_on hBl.out (Nat.le_refl _) (below_drawn _ _))
      · rw [hq, Bool.true_and] at hfa
        cases hs
        · obtain ⟨q, rfl⟩ : ∃ q : Nat, y = (q : Int) := ⟨y.toNat, by have := (inB_true hq).1; omega⟩
          have hqm : q < m := by have := (inB_true hq).2; omega
          have y2 : (q : Int) < (m : Int) := by omega
          obtain ⟨b, o, x, rfl, hx, h0, h1, h2, h3⟩ := hRq.out q hqm
          have ho := okRule_of (hOk.out q x hx)
          have hfT := Lib.hid (show fT (k + 1) = true by rw [hFs.out k, hI.out.1, hfa]; rfl)
          have hbk := Lib.hid (rfl : bs.getD k false = bs.getD k false)
          obtain ⟨x1, hx1⟩ : ∃ x1, x.From = x1 := ⟨_, rfl⟩
          obtain ⟨x2, hx2⟩ : ∃ x2, x.To = x2 := ⟨_, rfl⟩
          obtain ⟨x3, hx3⟩ : ∃ x3, x.Least = x3 := ⟨_, rfl⟩
          obtain ⟨x4, hx4⟩ : ∃ x4, x.Most = x4 := ⟨_, rfl⟩
          rw [hx1] at h0; rw [hx2] at h1; rw [hx3] at h2; rw [hx4] at h3
          rw [hx1, hx2, hx3, hx4] at ho
          obtain ⟨⟨o1', o2'⟩, ⟨o3', o4'⟩, -, ⟨o5', o6'⟩, o7', o8'⟩ := ho
          have o6 : x3 ≤ 59 := by omega
          have o8 : x4 ≤ 118 := by omega
          have o9 : 0 ≤ x4 := by omega
          clear o6' o8' o2' o4' o7'
          have hlo := Lib.hid hlo
          have hhi := Lib.hid hhi
          generalize hbv : bs.getD k false = bv at hal hbk
          have hbk := Lib.hid hbv
          clear hbv hfa
          cases bv
          · have hr := hRa.out k q x false hy.out hx hbk.out
            have hl := hLo.out k
            have ha := hAt.out k
            have hj := hJa.out k
            have eF : (goneD x false).From = x2 := hx2
            have eT : (goneD x false).To = x1 := hx1
            have eL : (goneD x false).Least = -x4 := congrArg Neg.neg hx4
            have eH : (goneD x false).Most = -x3 := congrArg Neg.neg hx3
            have hG0 : Hid (k = 0 → gT (k + 1) = x2) := Lib.hid fun e => by rw [ha.2.1]; subst e; rw [hr, eF]
            rw [hr] at hl ha hj
            rw [eL, eH] at hl
            rw [eT] at ha
            rw [eF] at hj
            have hlA := Lib.hid (show lT (k + 1) = lo - x4 by rw [hl.1, ← hlo.out]; first | done | rfl)
            have hmA := Lib.hid (show mT (k + 1) = hi - x3 by rw [hl.2, ← hhi.out]; first | done | rfl)
            have haA := Lib.hid (show aT (k + 1) = x1 from ha.1)
            have hjA := Lib.hid (show joinAt xs rs bs k = (k == 0 || x2 == aT k) from hj)
            clear eF eT eL eH
            clear hr hl ha hj hx hx1 hx2 hx3 hx4
            by_cases hk0 : k = 0
            · have z0 : ((k : Int) == 0) = true := by rw [beq_iff_eq]; omega
              have hgA := Lib.hid (hG0.out hk0)
              have hjT := Lib.hid (show jT (k + 1) = true by rw [hJs.out k, hI.out.2, hjA.out]; simp [hk0])
              clear hk0
              go_wp2_with fail
              go_quiet ((first | (go_at_call 14; with_reducible exact Ret.quiet (Ret.same (l00In_is _ _ _ hq _))) | (go_at_call 15; with_reducible exact Ret.quiet (hH.out _))))
              go_wp2_with fail
              go_roundw
              case rel => exact ⟨k + 1, _, by omega, by rw [hlA.out, hlo.out], by rw [hmA.out, hhi.out], by rw [hgA.out], by rw [haA.out], by go_num, Lib.hid ⟨hfT.out, hjT.out⟩, by rw [← hWo.out, World.drewN_drewN]⟩
              case measure => simp [intOf]; omega
            · have z0 : ((k : Int) == 0) = false := by rw [beq_eq_false_iff_ne]; omega
              have hgA := Lib.hid (hG1.out k (by omega))
              obtain ⟨av, hav⟩ : ∃ av, av = aT k := ⟨_, rfl⟩
              rw [← hav] at hjA ⊢
              by_cases hne : x2 = av
              · have hjT := Lib.hid (show jT (k + 1) = true by rw [hJs.out k, hI.out.2, hjA.out, hne]; simp)
                subst hne
                clear hk0
                go_wp2_with fail
                go_quiet ((first | (go_at_call 14; with_reducible exact Ret.quiet (Ret.same (l00In_is _ _ _ hq _))) | (go_at_call 15; with_reducible exact Ret.quiet (hH.out _))))
                go_wp2_with fail
                go_roundw
                case rel => exact ⟨k + 1, _, by omega, by rw [hlA.out, hlo.out], by rw [hmA.out, hhi.out], by rw [hgA.out], by rw [haA.out], by go_num, Lib.hid ⟨hfT.out, hjT.out⟩, by rw [← hWo.out, World.drewN_drewN]⟩
                case measure => simp [intOf]; omega
              · have hV := Lib.hid (hP.out (by rw [hNj.out k hlt (by rw [hjA.out]; simp [hk0, hne])]; simp))
                clear hk0
                go_wp2_with fail
                go_quiet ((first | (go_at_call 14; with_reducible exact Ret.quiet (Ret.same (l00In_is _ _ _ hq _))) | (go_at_call 15; with_reducible exact Ret.quiet (hH.out _))))
                go_wp2_with fail
                go_ret3
                exact hV.out _ (below_on hBl.out (Nat.le_refl _) (below_drawn _ _))
          · have hr := hRa.out k q x true hy.out hx hbk.out
            have hl := hLo.out k
            have ha := hAt.out k
            have hj := hJa.out k
            have eF : (goneD x true).From = x1 := hx1
            have eT : (goneD x true).To = x2 := hx2
            have eL : (goneD x true).Least = x3 := hx3
            have eH : (goneD x true).Most = x4 := hx4
            have hG0 : Hid (k = 0 → gT (k + 1) = x1) := Lib.hid fun e => by rw [ha.2.1]; subst e; rw [hr, eF]
            rw [hr] at hl ha hj
            rw [eL, eH] at hl
            rw [eT] at ha
            rw [eF] at hj
            have hlA := Lib.hid (show lT (k + 1) = lo + x3 by rw [hl.1, ← hlo.out]; first | done | rfl)
            have hmA := Lib.hid (show mT (k + 1) = hi + x4 by rw [hl.2, ← hhi.out]; first | done | rfl)
            have haA := Lib.hid (show aT (k + 1) = x2 from ha.1)
            have hjA := Lib.hid (show joinAt xs rs bs k = (k == 0 || x1 == aT k) from hj)
            clear eF eT eL eH
            clear hr hl ha hj hx hx1 hx2 hx3 hx4
            by_cases hk0 : k = 0
            · have z0 : ((k : Int) == 0) = true := by rw [beq_iff_eq]; omega
              have hgA := Lib.hid (hG0.out hk0)
              have hjT := Lib.hid (show jT (k + 1) = true by rw [hJs.out k, hI.out.2, hjA.out]; simp [hk0])
              clear hk0
              go_wp2_with fail
              go_quiet ((first | (go_at_call 14; with_reducible exact Ret.quiet (Ret.same (l00In_is _ _ _ hq _))) | (go_at_call 15; with_reducible exact Ret.quiet (hH.out _))))
              go_wp2_with fail
              go_roundw
              case rel => exact ⟨k + 1, _, by omega, by rw [hlA.out, hlo.out], by rw [hmA.out, hhi.out], by rw [hgA.out], by rw [haA.out], by go_num, Lib.hid ⟨hfT.out, hjT.out⟩, by rw [← hWo.out, World.drewN_drewN]⟩
              case measure => simp [intOf]; omega
            · have z0 : ((k : Int) == 0) = false := by rw [beq_eq_false_iff_ne]; omega
              have hgA := Lib.hid (hG1.out k (by omega))
              obtain ⟨av, hav⟩ : ∃ av, av = aT k := ⟨_, rfl⟩
              rw [← hav] at hjA ⊢
              by_cases hne : x1 = av
              · have hjT := Lib.hid (show jT (k + 1) = true by rw [hJs.out k, hI.out.2, hjA.out, hne]; simp)
                subst hne
                clear hk0
                go_wp2_with fail
                go_quiet ((first | (go_at_call 14; with_reducible exact Ret.quiet (Ret.same (l00In_is _ _ _ hq _))) | (go_at_call 15; with_reducible exact Ret.quiet (hH.out _))))
                go_wp2_with fail
                go_roundw
                case rel => exact ⟨k + 1, _, by omega, by rw [hlA.out, hlo.out], by rw [hmA.out, hhi.out], by rw [hgA.out], by rw [haA.out], by go_num, Lib.hid ⟨hfT.out, hjT.out⟩, by rw [← hWo.out, World.drewN_drewN]⟩
                case measure => simp [intOf]; omega
              · have hV := Lib.hid (hP.out (by rw [hNj.out k hlt (by rw [hjA.out]; simp [hk0, hne])]; simp))
                clear hk0
                go_wp2_with fail
                go_quiet ((first | (go_at_call 14; with_reducible exact Ret.quiet (Ret.same (l00In_is _ _ _ hq _))) | (go_at_call 15; with_reducible exact Ret.quiet (hH.out _))))
                go_wp2_with fail
                go_ret3
                exact hV.out _ (below_on hBl.out (Nat.le_refl _) (below_drawn _ _))
        · have hV := Lib.hid (hP.out (by rw [hNf.out k hlt hfa]; rfl))
          clear hfa
          go_wp2_with fail
          go_quiet ((first | (go_at_call 14; with_reducible exact Ret.quiet (Ret.same (l00In_is _ _ _ hq _))) | (go_at_call 15; with_reducible exact Ret.quiet (hH.out _))))
          go_wp2
          go_ret3
          exact hV.out _ (below_on hBl.out (Nat.le_refl _) (below_drawn _ _))
    · obtain rfl : k = n := by omega
      have hge : ¬ (k : Int) < (k : Int) := by omega
      have hsm := hSm.out k hI.out.1 (Nat.le_refl _)
      have hsh := hSh.out
      obtain ⟨lo, hlo⟩ : ∃ lo, lo = lT k := ⟨_, rfl⟩
      obtain ⟨hi, hhi⟩ : ∃ hi, hi = mT k := ⟨_, rfl⟩
      rw [← hlo, ← hhi] at hsm hP hPy ⊢
      rw [hI.out.1, hI.out.2] at hP hPy
      obtain ⟨⟨s1, s2⟩, s3, s4⟩ := hsm
      have hBl := Lib.hid (below_drawn w mm)
      obtain ⟨av, hav⟩ : ∃ av, av = aT k := ⟨_, rfl⟩
      obtain ⟨fv, hfv⟩ : ∃ fv, fv = gT k := ⟨_, rfl⟩
      rw [← hav, ← hfv] at hsh ⊢
      by_cases hne : av = fv
      · rw [show sh = true by rw [hsh, hne]; simp] at hP hPy
        subst hne
        have b1 := tmod_in (x := lo) p1
        have b2 := tmod_in (x := hi) p1
        have b3 := tmod_in (x := p - lo.tmod p) p1
        have b4 := tmod_in (x := hi.tmod p + p) p1
        have hpb : (p == 0) = false := by rw [beq_eq_false_iff_ne]; omega
        have q2 : wrap64 (p - lo.tmod p) = p - lo.tmod p := IntWalk.wrap64_in _ (by omega)
        have q7 : wrap64 (hi.tmod p + p) = hi.tmod p + p := IntWalk.wrap64_in _ (by omega)
        have b5 := Int.emod_nonneg (hi.tmod p) (show p ≠ 0 by omega)
        have b6 := Int.emod_lt_of_pos (hi.tmod p) (show 0 < p by omega)
        have b7 := Int.emod_nonneg (-lo.tmod p) (show p ≠ 0 by omega)
        have b8 := Int.emod_lt_of_pos (-lo.tmod p) (show 0 < p by omega)
        have g2 : wrap64 (hi - hi.tmod p % p) = gapHigh hi p := by rw [IntWalk.wrap64_in _ (by omega)]; unfold gapHigh; rw [← tm_eq, Int.add_emod_right]
        have q4 := Lib.hid (show ¬ lo.tmod p < 0 → wrap64 (lo + -lo.tmod p % p) = gapLow lo p from fun hh => by rw [IntWalk.wrap64_in _ (by omega), ← gapLow_pos p1 hh, show p - lo.tmod p = -lo.tmod p + p by omega, Int.add_emod_right])
        have q5 := Lib.hid (show lo.tmod p < 0 → wrap64 (lo - lo.tmod p) = gapLow lo p from fun hh => by rw [IntWalk.wrap64_in _ (by omega)]; exact gapLow_neg p1 hh)
        clear b3 b4 b5 b6 b7 b8
        clear hlo hhi hav hfv
        obtain ⟨gh, hgh⟩ : ∃ gh, gh = gapHigh hi p := ⟨_, rfl⟩
        obtain ⟨gl, hgl⟩ : ∃ gl, gl = gapLow lo p := ⟨_, rfl⟩
        rw [← hgh, ← hgl] at hP hPy
        rw [← hgh] at g2
        clear hgh
        by_cases hle : gl ≤ gh
        · have hY := Lib.hid (hPy.out gl gh (by rw [decide_eq_true hle]; rfl))
          have hle' : ¬ gh < gl := by omega
          by_cases hneg : lo.tmod p < 0
          · have hG : lo - lo.tmod p = gl := by rw [hgl]; exact gapLow_neg p1 hneg
            clear hgl hle
            go_wp2_with fail
            go_ret3
            exact hY.out _ hBl.out
          · have hG : wrap64 (lo + -lo.tmod p % p) = gl := by rw [hgl]; exact q4.out hneg
            clear hgl hle
            go_wp2_with fail
            go_ret3
            exact hY.out _ hBl.out
        · have hV := Lib.hid (hP.out (by rw [decide_eq_false hle]; rfl))
          have hle' : gh < gl := by omega
          by_cases hneg : lo.tmod p < 0
          · have hG : lo - lo.tmod p = gl := by rw [hgl]; exact gapLow_neg p1 hneg
            clear hgl hle
            go_wp2_with fail
            go_ret3
            exact hV.out _ hBl.out
          · have hG : wrap64 (lo + -lo.tmod p % p) = gl := by rw [hgl]; exact q4.out hneg
            clear hgl hle
            go_wp2_with fail
            go_ret3
            exact hV.out _ hBl.out
      · have hV := Lib.hid (hP.out (by rw [show sh = false by rw [hsh, beq_eq_false_iff_ne]; exact fun e => hne e.symm]; simp))
        have hne' : ¬ av = fv := hne
        go_wp2_with fail
        go_ret3
        exact hV.out _ hBl.out
end Go.Proofs.Ytkjnkomljhlbpaa
