/- Contracts: the program's search for a text that is no text of shifts of one length. -/
import Derived.Test.YtpolhjkjgbfdhaaTexts
namespace Go.Proofs.Ytpolhjkjgbfdhaa
open Go.RowKit Go.Lst

set_option maxHeartbeats 2000000 in
theorem wrongText_any (b o g n cap : Nat) (f x : ByteArray) (w : World) (hg : w.cell? ⟨g, 0, none⟩ = some (.slice (some ⟨b, o, none⟩) n cap)) (h0 : w.cell? ⟨b, o, none⟩ = some (.string f)) (hn : 1 ≤ n) (hl : n ≤ maxLen) (hf : f.size ≤ maxLen) (hx : x.size ≤ maxLen) :
    Calls Try.prog 58 #[.string x, .pointer (some ⟨g, 0, none⟩)] w fun e w' => e = .returned (.bool (!oneText f x)) ∧ Below w.heap.size w w' := by
  have hA := Lib.hid (areSlots_any x hx w)
  have hgl : g < w.heap.size := World.block_lt_of_cell? w _ hg
  have hbl : b < w.heap.size := World.block_lt_of_cell? w _ h0
  unfold maxLen at hl hf hx
  cases hq : lettersB slotP x 24
  · rw [hq] at hA
    have hF := Lib.hid (show oneText f x = false by unfold oneText; rw [hq]; rfl)
    go_enter Try.func58, Try.ntmps58
    go_wp2_with (go_at_call 59; (with_reducible refine (hA.out).mono ?_); rintro e w1 ⟨rfl, hb1⟩; have hB1 := Lib.hid hb1; clear hb1)
    go_ret
    exact ⟨ret_bool (by rw [hF.out]; rfl), hB1.out⟩
  rw [hq] at hA
  by_cases hs : x.size = f.size
  · have hF := Lib.hid (show oneText f x = true by unfold oneText; rw [hq, decide_eq_true hs]; rfl)
    have hbn : ((x.size : Int) != (f.size : Int)) = false := by rw [bne_eq_false_iff_eq, hs]
    go_enter Try.func58, Try.ntmps58
    go_wp2_with (go_at_call 59; (with_reducible refine (hA.out).mono ?_); rintro e w1 ⟨rfl, hb1⟩; have c0 := (hb1.cell (p := ⟨g, 0, none⟩) hgl).trans hg; have c1 := (hb1.cell (p := ⟨b, o, none⟩) hbl).trans h0; have hB1 := Lib.hid hb1; clear hb1)
    go_ret
    exact ⟨ret_bool (by rw [hF.out]; rfl), hB1.out⟩
  · have hF := Lib.hid (show oneText f x = false by unfold oneText; rw [decide_eq_false hs, Bool.and_false])
    have hbn : ((x.size : Int) != (f.size : Int)) = true := by rw [bne_iff_ne]; omega
    go_enter Try.func58, Try.ntmps58
    go_wp2_with (go_at_call 59; (with_reducible refine (hA.out).mono ?_); rintro e w1 ⟨rfl, hb1⟩; have c0 := (hb1.cell (p := ⟨g, 0, none⟩) hgl).trans hg; have c1 := (hb1.cell (p := ⟨b, o, none⟩) hbl).trans h0; have hB1 := Lib.hid hb1; clear hb1)
    go_ret
    exact ⟨ret_bool (by rw [hF.out]; rfl), hB1.out⟩
set_option maxHeartbeats 4000000 in
theorem wrongTextIndex_any (B g : Nat) (v : Value) (xs : List ByteArray) (f : ByteArray) (w : World) (h : LstS B w v xs) (hw : ∀ x ∈ xs, x.size ≤ maxLen) (hg : w.cell? ⟨g, 0, none⟩ = some v) (hf : xs[0]? = some f) :
    Calls Try.prog 79 #[v, .func (.func 58) #[] #[.pointer (some ⟨g, 0, none⟩)]] w fun e w' => (∃ r : Int, e = .returned (.int .i64 r) ∧ -1 ≤ r ∧ decide (0 ≤ r) = xs.any (fun x => !oneText f x)) ∧ Below w.heap.size w w' := by
  obtain ⟨a, cap, rfl, hl, hc⟩ := h.lst
  rw [List.length_map] at hl hg ⊢
  have hX : Hid (∀ k, k < xs.length → ∃ b o x, a = some ⟨b, o, none⟩ ∧ xs[k]? = some x ∧ x.size ≤ maxLen ∧ w.cell? ⟨b, o + k, none⟩ = some (.string x)) := Lib.hid fun k hk => by
    obtain ⟨b, o, ha, _, hb⟩ := hc (by intro h0; have := congrArg List.length h0; simp at this; rw [this] at hk; simp at hk)
    have e1 : xs[k]? = some xs[k] := List.getElem?_eq_getElem _
    exact ⟨b, o, xs[k], ha, e1, hw _ (List.getElem_mem _), hb k _ (by rw [List.getElem?_map, e1]; rfl)⟩
  have hYes : Hid (∀ (k : Nat) (x : ByteArray), xs[k]? = some x → (!oneText f x) = true → decide (0 ≤ (k : Int)) = xs.any (fun x => !oneText f x)) := Lib.hid fun k x hx hp => by
    rw [decide_eq_true (by omega), List.any_eq_true.2 ⟨x, List.mem_of_getElem? hx, hp⟩]
  have hNo : Hid (∀ k, k = xs.length → (∀ (i : Nat) (x : ByteArray), i < k → xs[i]? = some x → (!oneText f x) = false) → decide (0 ≤ (-1 : Int)) = xs.any (fun x => !oneText f x)) := Lib.hid fun k hk hp => by
    rw [decide_eq_false (by omega)]
    symm
    rw [List.any_eq_false]
    intro x hx
    obtain ⟨i, hi, rfl⟩ := List.mem_iff_getElem.1 hx
    have := hp i _ (by omega) (List.getElem?_eq_getElem hi)
    simp [this]
  have h1 : 1 ≤ xs.length := by have := (List.getElem?_eq_some_iff.1 hf).1; omega
  obtain ⟨b, o, f', rfl, hf', hfs, c0⟩ := hX.out 0 (by omega)
  obtain rfl : f = f' := Option.some.inj (hf.symm.trans hf')
  rw [Nat.add_zero] at c0
  have hgl : g < w.heap.size := World.block_lt_of_cell? w _ hg
  have hbl : b < w.heap.size := World.block_lt_of_cell? w _ c0
  have hl0 := Lib.hid hl
  have hCl : Hid (∀ (x : ByteArray) (w1 : World), Below w.heap.size w w1 → x.size ≤ maxLen → Calls Try.prog 58 #[.string x, .pointer (some ⟨g, 0, none⟩)] w1 fun e w' => e = .returned (.bool (!oneText f x)) ∧ Below w1.heap.size w1 w') := Lib.hid fun x w1 hb hx => wrongText_any b o g _ cap f x w1 ((hb.cell (p := ⟨g, 0, none⟩) hgl).trans hg) ((hb.cell (p := ⟨b, o, none⟩) hbl).trans c0) h1 hl0.out hfs hx
  clear hc h hf hf' c0 hg hw
  generalize xs.any (fun x => !oneText f x) = res at *
  generalize xs.length = m at *
  unfold maxLen at hl
  go_enter Try.func79, Try.ntmps79
  go_wp2_with fail
  go_loopw [8] (fun i wr => ∃ k : Nat, k ≤ m ∧ i = .int .i64 k ∧ Hid (∀ (i : Nat) (x : ByteArray), i < k → xs[i]? = some x → (!oneText f x) = false) ∧ Hid (Below w.heap.size w wr)) (fun i _ => m - (intOf i).toNat)
  case atStart => exact ⟨0, Nat.zero_le _, rfl, Lib.hid (fun i x hi _ => by omega), Lib.hid (Below.refl _ _)⟩
  case round =>
    obtain ⟨k, hk, rfl, hP, hB1⟩ := hrel
    by_cases hlt : k < m
    · obtain ⟨b2, o2, x, hbo, hx, hxs, h0⟩ := hX.out k hlt
      cases hbo
      have hXx := Lib.hid hx
      rw [← hB1.out.cell (p := ⟨b, o + k, none⟩) hbl] at h0
      have hCx := Lib.hid (hCl.out x wr hB1.out hxs)
      clear hx
      go_wp2_with fail
      refine (hCx.out).mono ?_
      rintro e w3 ⟨rfl, hb3⟩
      have hB3 := Lib.hid (below_on hB1.out (Nat.le_refl _) hb3)
      cases hq : (!oneText f x)
      · have hP2 : Hid (∀ (i : Nat) (x : ByteArray), i < k + 1 → xs[i]? = some x → (!oneText f x) = false) := Lib.hid fun i y hi hy => by
          by_cases h1 : i < k
          · exact hP.out i y h1 hy
          · have : i = k := by omega
            subst this
            rw [hXx.out] at hy
            cases hy
            exact hq
        clear hb3 hB1
        go_wp2_with fail
        go_roundw
        case rel => exact ⟨k + 1, by omega, by go_num, hP2, hB3⟩
        case measure => simp [intOf]; omega
      · have hF := Lib.hid (hYes.out k x hXx.out hq)
        clear hb3 hB1
        go_wp2_with fail
        go_ret
        exact ⟨⟨k, rfl, by omega, hF.out⟩, hB3.out⟩
    · have hF := Lib.hid (hNo.out k (by omega) hP.out)
      go_wp2_with fail
      go_ret
      exact ⟨⟨-1, rfl, by omega, hF.out⟩, hB1.out⟩
set_option maxHeartbeats 1000000 in
theorem wrongTextContains_any (B g : Nat) (v : Value) (xs : List ByteArray) (f : ByteArray) (w : World) (h : LstS B w v xs) (hw : ∀ x ∈ xs, x.size ≤ maxLen) (hg : w.cell? ⟨g, 0, none⟩ = some v) (hf : xs[0]? = some f) :
    Calls Try.prog 60 #[v, .func (.func 58) #[] #[.pointer (some ⟨g, 0, none⟩)]] w fun e w' => e = .returned (.bool (xs.any (fun x => !oneText f x))) ∧ Below w.heap.size w w' := by
  have hQ := Lib.hid (wrongTextIndex_any B g v xs f w h hw hg hf)
  obtain ⟨a, cap, rfl, _⟩ := h
  generalize xs.any (fun x => !oneText f x) = res at *
  go_enter Try.func60, Try.ntmps60
  go_wp2_with fail
  refine (hQ.out).mono ?_
  rintro e w1 ⟨⟨r, rfl, hr1, hr2⟩, hb1⟩
  have hB1 := Lib.hid hb1
  have hR := Lib.hid hr2
  clear hb1 hr2
  go_wp2_with fail
  go_ret
  exact ⟨ret_bool (by rw [← hR.out]), hB1.out⟩
end Go.Proofs.Ytpolhjkjgbfdhaa
