/- Contracts: delays that are spread, where the call answers nothing; both builds together. -/
import Derived.Test.YtnmecfibfajbnaaSpreadSpec
namespace Go.Proofs.Ytnmecfibfajbnaa
open Go.RowKit Go.Lst

set_option maxHeartbeats 4000000 in
set_option maxRecDepth 100000 in
theorem implSpread_no (B : Nat) (e : Int) (v v2 : Value) (xs : List RuleD) (ls : List Int) (w : World) (h : LstRule B w v xs) (hT : LstI B w v2 ls) (hB : B ≤ w.heap.size) (hq : canSpread e xs ls = false) :
    Calls Try.prog 13 #[.int .i64 e, v, v2] w (ListPost (sprRes e xs ls) false w) := by
  have hA := Lib.hid (areRules_any B e 60 v xs w h hB)
  have hCn := Lib.hid (fun w' (hb : Below w.heap.size w w') => backContains_any B v xs w' (h.below hb hB) (Nat.le_trans hB hb.size))
  have hWi := Lib.hid (fun w' (hb : Below w.heap.size w w') => areWithin_any B v2 ls 0 1000 w' (hT.below hb hB).lst)
  have hN : Hid (∀ w', Below w.heap.size w w' → ListPost (sprRes e xs ls) false w (.returned (.tuple #[.slice none 0 0, .bool false])) w') := Lib.hid fun w' hb => list_no (by unfold sprRes; rw [hq]; rfl) rfl hb
  obtain ⟨a, cap, rfl, hl, _, _, _⟩ := h.at_
  obtain ⟨a2, cap2, rfl, hl2, _⟩ := hT.at_
  clear h hT
  generalize ListPost (sprRes e xs ls) false w = Q at *
  unfold canSpread goBack at hq
  cases f1 : areRules e 60 xs
  · rw [f1] at hA
    clear hq f1
    generalize xs.length = q at *
    generalize ls.length = n at *
    unfold maxLen at hl hl2
    go_enter Try.func13, Try.ntmps13
    go_wp2_with (go_at_call 40; (with_reducible refine (hA.out).mono ?_); rintro e' w1 ⟨rfl, hb1⟩; have hB1 := Lib.hid hb1; clear hb1)
    first | exact hN.out _ hB1.out | (go_ret2; exact hN.out _ hB1.out)
  rw [f1] at hA hq
  cases f2 : (xs.any fun x => decide (x.To < x.From))
  case true =>
    rw [f2] at hCn
    clear hq f1 f2
    generalize xs.length = q at *
    generalize ls.length = n at *
    unfold maxLen at hl hl2
    go_enter Try.func13, Try.ntmps13
    go_wp2_with (first | (go_at_call 40; (with_reducible refine (hA.out).mono ?_); rintro e' w1 ⟨rfl, hb1⟩; have hB1 := Lib.hid hb1; clear hb1) | (go_at_call 41; (with_reducible refine (hCn.out w1 hB1.out).mono ?_); rintro e' w2 ⟨rfl, hb2⟩; have hB2 := Lib.hid (below_on hB1.out (Nat.le_refl _) hb2); clear hb2))
    first | exact hN.out _ hB2.out | (go_ret2; exact hN.out _ hB2.out)
  case false =>
    rw [f2] at hCn hq
    by_cases f3 : (ls.length : Int) = e
    case neg =>
      have hbne : ((ls.length : Int) != e) = true := by rw [bne_iff_ne]; exact f3
      clear hq f1 f2 f3
      generalize xs.length = q at *
      generalize ls.length = n at *
      unfold maxLen at hl hl2
      go_enter Try.func13, Try.ntmps13
      go_wp2_with (first | (go_at_call 40; (with_reducible refine (hA.out).mono ?_); rintro e' w1 ⟨rfl, hb1⟩; have hB1 := Lib.hid hb1; clear hb1) | (go_at_call 41; (with_reducible refine (hCn.out w1 hB1.out).mono ?_); rintro e' w2 ⟨rfl, hb2⟩; have hB2 := Lib.hid (below_on hB1.out (Nat.le_refl _) hb2); clear hb2))
      first | exact hN.out _ hB2.out | (go_ret2; exact hN.out _ hB2.out)
    case pos =>
      have hbne : ((ls.length : Int) != e) = false := by rw [bne_eq_false_iff_eq]; exact f3
      have f4 : allIn ls 0 1000 = false := by rw [decide_eq_true f3] at hq; simpa using hq
      rw [f4] at hWi
      clear hq f1 f2 f4
      generalize xs.length = q at *
      generalize ls.length = n at *
      subst f3
      unfold maxLen at hl hl2
      go_enter Try.func13, Try.ntmps13
      go_wp2_with (first | (go_at_call 40; (with_reducible refine (hA.out).mono ?_); rintro e' w1 ⟨rfl, hb1⟩; have hB1 := Lib.hid hb1; clear hb1) | (go_at_call 41; (with_reducible refine (hCn.out w1 hB1.out).mono ?_); rintro e' w2 ⟨rfl, hb2⟩; have hB2 := Lib.hid (below_on hB1.out (Nat.le_refl _) hb2); clear hb2) | (go_at_call 42; (with_reducible refine (hWi.out w2 hB2.out).mono ?_); rintro e' w3 ⟨rfl, rfl⟩))
      first | exact hN.out _ hB2.out | (go_ret2; exact hN.out _ hB2.out)
set_option maxHeartbeats 4000000 in
set_option maxRecDepth 100000 in
theorem specSpread_no (B : Nat) (e : Int) (v v2 : Value) (xs : List RuleD) (ls : List Int) (w : World) (h : LstRule B w v xs) (hT : LstI B w v2 ls) (hB : B ≤ w.heap.size) (hq : canSpread e xs ls = false) :
    Calls Try.prog 10 #[.int .i64 e, v, v2] w (ListPost (sprRes e xs ls) false w) := by
  have hA := Lib.hid (l05Rules_any B e 60 v xs w h)
  have hN : Hid (∀ m, ListPost (sprRes e xs ls) false w (.returned (.tuple #[.slice none 0 0, .bool false])) (w.drewN m)) := Lib.hid fun m => list_no (by unfold sprRes; rw [hq]; rfl) rfl (below_drawn w m)
  obtain ⟨a, cap, rfl, hl, _, _, hc⟩ := h.at_
  obtain ⟨a2, cap2, rfl, hl2, _, _, hc2⟩ := hT.at_
  clear h hT
  generalize ListPost (sprRes e xs ls) false w = Q at *
  unfold canSpread at hq
  cases f1 : areRules e 60 xs
  · rw [f1] at hA
    clear hq f1 hc hc2
    generalize xs.length = q at *
    generalize ls.length = n at *
    unfold maxLen at hl hl2
    go_enter Try.func10, Try.ntmps10
    go_wp2_with (go_at_call 35; (with_reducible refine (hA.out).mono ?_); rintro e' w1 ⟨j1, rfl, rfl⟩)
    first | exact hN.out _ | (go_ret2; exact hN.out _)
  have hok := (areRules_of f1).2.2.2
  rw [f1] at hA hq
  by_cases f3 : (ls.length : Int) = e
  case neg =>
    have hbne : ((ls.length : Int) != e) = true := by rw [bne_iff_ne]; exact f3
    clear hq f1 f3 hok hc hc2
    generalize xs.length = q at *
    generalize ls.length = n at *
    unfold maxLen at hl hl2
    go_enter Try.func10, Try.ntmps10
    go_wp2_with (go_at_call 35; (with_reducible refine (hA.out).mono ?_); rintro e' w1 ⟨j1, rfl, rfl⟩)
    first | exact hN.out _ | (go_ret2; exact hN.out _)
  have hbne : ((ls.length : Int) != e) = false := by rw [bne_eq_false_iff_eq]; exact f3
  rw [decide_eq_true f3, Bool.true_and, Bool.and_true] at hq
  have hEnd : Hid (∀ k i, k = ls.length → i = xs.length → (∀ (j : Nat) (x : Int), j < k → ls[j]? = some x → inB x 0 1000 = true) → (∀ (j : Nat) (x : RuleD), j < i → xs[j]? = some x → x.From < x.To) → False) := Lib.hid fun k i hk hi h1 h2 => by
    have a1 : allIn ls 0 1000 = true := all_upto fun j x hj hx => h1 j x (by omega) hx
    have a2 : goBack xs = false := by
      unfold goBack
      rw [List.any_eq_false]
      intro x hx
      obtain ⟨j, hj, rfl⟩ := List.mem_iff_getElem.1 hx
      have := h2 j _ (by omega) (List.getElem?_eq_getElem hj)
      rw [decide_eq_true_eq]; omega
    rw [a1, a2] at hq
    cases hq
  have hC := Lib.hid hc
  have hC2 := Lib.hid hc2
  clear hq f1 hok hc hc2
  generalize xs.length = q at *
  generalize ls.length = n at *
  subst f3
  unfold maxLen at hl hl2
  go_enter Try.func10, Try.ntmps10
  go_wp2_with (go_at_call 35; (with_reducible refine (hA.out).mono ?_); rintro e' w1 ⟨j1, rfl, rfl⟩)
  go_loopw [25] (fun iv wr => ∃ k j : Nat, k ≤ n ∧ iv = .int .i64 k ∧ Hid (∀ (j : Nat) (x : Int), j < k → ls[j]? = some x → inB x 0 1000 = true) ∧ wr = w.drewN j) (fun iv _ => n - (intOf iv).toNat)
  case atStart => exact ⟨0, _, Nat.zero_le _, rfl, Lib.hid (fun j x hj => by omega), rfl⟩
  case round =>
    obtain ⟨k, j, hk, rfl, hP, rfl⟩ := hrel
    by_cases hlt : k < n
    · obtain ⟨b2, o2, x, rfl, hb2, hx, p0⟩ := hC2.out k hlt
      have hXx := Lib.hid hx
      rw [← World.cell?_drewN (n := j)] at p0
      have hkn : (k : Int) < (n : Int) := by omega
      clear hx
      generalize hwo : w.drewN j = wo at *
      have hWo := Lib.hid hwo
      clear hwo
      cases e0 : inB x 0 1000
      · have hR := Lib.hid (hN.out j)
        rw [hWo.out] at hR
        go_wp2_with (go_at_call 36; refine (l00In_is _ _ _ ‹_› _).mono ?_; rintro e' w' ⟨rfl, rfl⟩)
        first | exact hR.out | (go_ret2; exact hR.out)
      · have hP2 : Hid (∀ (j : Nat) (x : Int), j < k + 1 → ls[j]? = some x → inB x 0 1000 = true) := Lib.hid fun i y hi hy => by
          by_cases h1 : i < k
          · exact hP.out i y h1 hy
          · obtain rfl : i = k := by omega
            rw [hXx.out] at hy
            cases hy
            exact e0
        go_wp2_with (go_at_call 36; refine (l00In_is _ _ _ ‹_› _).mono ?_; rintro e' w' ⟨rfl, rfl⟩)
        go_roundw
        case rel => exact ⟨k + 1, _, by omega, by go_num, hP2, hWo.out.symm⟩
        case measure => simp [intOf]; omega
    · obtain rfl : n = k := by omega
      go_wp2_with fail
      go_loopw [37] (fun iv wq => ∃ i j : Nat, i ≤ q ∧ iv = .int .i64 i ∧ Hid (∀ (j : Nat) (x : RuleD), j < i → xs[j]? = some x → x.From < x.To) ∧ wq = w.drewN j) (fun iv _ => q - (intOf iv).toNat)
      case atStart => exact ⟨0, j, Nat.zero_le _, rfl, Lib.hid (fun j x hj => by omega), by trivial⟩
      case round =>
        obtain ⟨i, j, hi, rfl, hR, rfl⟩ := hrel
        by_cases hlk : i < q
        · obtain ⟨b, o, x, rfl, hb, hx, r0, r1, r2, r3⟩ := hC.out i hlk
          rw [← World.cell?_drewN (n := j)] at r0 r1
          have hkq : (i : Int) < (q : Int) := by omega
          have hXx := Lib.hid hx
          clear hx r2 r3
          have hNj := Lib.hid (fun m => hN.out m)
          generalize hwj : w.drewN j = wj at *
          have hWj := Lib.hid hwj
          clear hwj
          by_cases hb2 : x.To ≤ x.From
          · have d1 : decide (x.To ≤ x.From) = true := decide_eq_true hb2
            generalize x.From = fr at *
            generalize x.To = to_ at *
            go_wp2_with fail
            go_quiet (fail)
            go_wp2_with fail
            have hq2 : ∀ m, wj.drewN m = w.drewN (j + m) := fun m => by rw [← hWj.out, World.drewN_drewN]
            rw [hq2]
            first | exact hNj.out _ | (go_ret2; exact hNj.out _)
          · have d1 : decide (x.To ≤ x.From) = false := decide_eq_false hb2
            have hR2 : Hid (∀ (j : Nat) (x : RuleD), j < i + 1 → xs[j]? = some x → x.From < x.To) := Lib.hid fun l y hl hy => by
              by_cases h1 : l < i
              · exact hR.out l y h1 hy
              · obtain rfl : l = i := by omega
                rw [hXx.out] at hy
                cases hy
                omega
            generalize x.From = fr at *
            generalize x.To = to_ at *
            go_wp2_with fail
            go_quiet (fail)
            go_wp2_with fail
            go_roundw
            case rel => exact ⟨i + 1, _, by omega, by go_num, hR2, by rw [← hWj.out, World.drewN_drewN]⟩
            case measure => simp [intOf]; omega
        · exact (hEnd.out n i rfl (by omega) hP.out hR.out).elim
theorem spreadDelays_both (e : Int) (xs : List RuleD) (ls : List Int) (_ : (Lit.int .i64 e).wf = true) (_ : ∀ y ∈ xs, y.wf) (_ : ∀ y ∈ ls, (Lit.int .i64 y).wf = true) : ∃ (r0 : List Int) (r1 : Bool), r0.length ≤ 1048576 ∧
    (∀ (B : Nat) (v v2 : Value) (w : World), LstRule B w v xs → LstI B w v2 ls → B ≤ w.heap.size → Calls Try.prog 10 #[.int .i64 e, v, v2] w fun e w' => ∃ v', e = .returned (.tuple #[v', .bool r1]) ∧ Own w.heap.size w'.heap.size w' v' 2 1 r0.length (r0.map (Value.int .i64)) ∧ Below w.heap.size w w') ∧
    (∀ (B : Nat) (v v2 : Value) (w : World), LstRule B w v xs → LstI B w v2 ls → B ≤ w.heap.size → Calls Try.prog 13 #[.int .i64 e, v, v2] w fun e w' => ∃ v', e = .returned (.tuple #[v', .bool r1]) ∧ Own w.heap.size w'.heap.size w' v' 2 1 r0.length (r0.map (Value.int .i64)) ∧ Below w.heap.size w w') := by
  refine ⟨sprRes e xs ls, canSpread e xs ls, sprRes_length e xs ls, fun B v v2 w h1 h2 hB => ?_, fun B v v2 w h1 h2 hB => ?_⟩
  · cases hq : canSpread e xs ls
    · exact specSpread_no B e v v2 xs ls w h1 h2 hB hq
    · exact specSpread_yes B e v v2 xs ls w h1 h2 hB hq
  · cases hq : canSpread e xs ls
    · exact implSpread_no B e v v2 xs ls w h1 h2 hB hq
    · exact implSpread_yes B e v v2 xs ls w h1 h2 hB hq
end Go.Proofs.Ytnmecfibfajbnaa
