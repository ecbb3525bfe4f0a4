/- Contracts: which lists are texts of shifts of one length (the model's), and which texts have letters of shifts (the program's). -/
import Derived.Test.YtpolhjkjgbfdhaaCopyS
import Derived.Test.YtpolhjkjgbfdhaaLetters
namespace Go.Proofs.Ytpolhjkjgbfdhaa
open Go.RowKit Go.Lst

set_option maxHeartbeats 400000 in
theorem areSlots_any (s : ByteArray) (hs : s.size ≤ maxLen) (w : World) : Calls Try.prog 59 #[.string s] w fun e w' => e = .returned (.bool (lettersB slotP s 24)) ∧ Below w.heap.size w w' := by
  have hL : Hid (Calls Try.prog 69 #[.string s, .int .i64 24, .func (.func 78) #[] #[]] w fun e w' => e = .returned (.bool (lettersB slotP s 24)) ∧ Below w.heap.size w w') := Lib.hid (slot_letters s 24 hs (by omega) w)
  generalize lettersB slotP s 24 = q at *
  go_enter Try.func59, Try.ntmps59
  go_wp2_with fail
  refine (hL.out).mono ?_
  rintro e w' ⟨rfl, hb⟩
  have hB := Lib.hid hb
  clear hb
  go_wp2_with fail
  go_ret
  exact ⟨rfl, hB.out⟩
def oneText (f x : ByteArray) : Bool := lettersB slotP x 24 && decide (x.size = f.size)
def textsB (xs : List ByteArray) : Bool := decide (1 ≤ xs.length) && decide (xs.length ≤ 64) && xs.all fun s => oneText (xs.getD 0 ⟨#[]⟩) s
theorem textsB_1 {xs : List ByteArray} (h : xs.length < 1) : textsB xs = false := by unfold textsB; rw [decide_eq_false (show ¬ 1 ≤ xs.length by omega)]; rfl
theorem textsB_2 {xs : List ByteArray} (h : 64 < xs.length) : textsB xs = false := by unfold textsB; rw [decide_eq_false (show ¬ xs.length ≤ 64 by omega)]; simp
theorem textsB_3 {xs : List ByteArray} {f x : ByteArray} {k : Nat} (hf : xs[0]? = some f) (hx : xs[k]? = some x) (h : oneText f x = false) : textsB xs = false := by
  unfold textsB
  rw [show (xs.all fun s => oneText (xs.getD 0 ⟨#[]⟩) s) = false from ?_, Bool.and_false]
  rw [List.all_eq_false]
  refine ⟨x, List.mem_of_getElem? hx, ?_⟩
  rw [List.getD_eq_getElem?_getD, hf]
  simpa using h
theorem textsB_4 {xs : List ByteArray} {f : ByteArray} (hf : xs[0]? = some f) (h1 : 1 ≤ xs.length) (h2 : xs.length ≤ 64) (h : ∀ (j : Nat) (x : ByteArray), xs[j]? = some x → oneText f x = true) : textsB xs = true := by
  unfold textsB
  rw [decide_eq_true h1, decide_eq_true h2, Bool.and_self, Bool.true_and, List.all_eq_true]
  intro x hx
  obtain ⟨j, hj, rfl⟩ := List.mem_iff_getElem.1 hx
  rw [List.getD_eq_getElem?_getD, hf]
  exact h j _ (List.getElem?_eq_getElem hj)
set_option maxHeartbeats 4000000 in
theorem l06Texts_any (B : Nat) (v : Value) (xs : List ByteArray) (w : World) (h : LstS B w v xs) (hw : ∀ x ∈ xs, x.size ≤ maxLen) : Calls Try.prog 57 #[v] w (Ret (.bool (textsB xs)) w) := by
  obtain ⟨a, cap, rfl, hl, hc⟩ := h.lst
  rw [List.length_map] at hl ⊢
  have hX : Hid (∀ k, k < xs.length → ∃ b o x, a = some ⟨b, o, none⟩ ∧ xs[k]? = some x ∧ x.size ≤ 9223372036854775807 ∧ w.cell? ⟨b, o + k, none⟩ = some (.string x)) := Lib.hid fun k hk => by
    obtain ⟨b, o, ha, _, hb⟩ := hc (by intro h0; have := congrArg List.length h0; simp at this; rw [this] at hk; simp at hk)
    have e1 : xs[k]? = some xs[k] := List.getElem?_eq_getElem _
    exact ⟨b, o, xs[k], ha, e1, hw _ (List.getElem_mem _), hb k _ (by rw [List.getElem?_map, e1]; rfl)⟩
  have hT1 : Hid (xs.length < 1 → textsB xs = false) := Lib.hid textsB_1
  have hT2 : Hid (64 < xs.length → textsB xs = false) := Lib.hid textsB_2
  have hT3 : Hid (∀ (f x : ByteArray) (k : Nat), xs[0]? = some f → xs[k]? = some x → oneText f x = false → textsB xs = false) := Lib.hid fun f x k => textsB_3
  have hT4 : Hid (∀ (f : ByteArray), xs[0]? = some f → 1 ≤ xs.length → xs.length ≤ 64 → (∀ (j : Nat) (x : ByteArray), j < xs.length → xs[j]? = some x → oneText f x = true) → textsB xs = true) := Lib.hid fun f hf h1 h2 hp => textsB_4 hf h1 h2 fun j x hx => hp j x (List.getElem?_eq_some_iff.1 hx).1 hx
  clear h hc hw
  generalize textsB xs = q at *
  generalize xs.length = n at *
  unfold maxLen at hl
  by_cases h1 : n < 1
  · have hF := Lib.hid (hT1.out h1)
    go_enter Try.func57, Try.ntmps57
    go_wp2_with fail
    go_ret
    exact ⟨0, by rw [hF.out]; rfl, rfl⟩
  by_cases h2 : 64 < n
  · have hF := Lib.hid (hT2.out h2)
    go_enter Try.func57, Try.ntmps57
    go_wp2_with fail
    go_ret
    exact ⟨0, by rw [hF.out]; rfl, rfl⟩
  obtain ⟨b, o, f, rfl, hf, hfs, c0⟩ := hX.out 0 (by omega)
  have hFf := Lib.hid hf
  rw [Nat.add_zero] at c0
  by_cases h3 : f.size < 1
  · have hF := Lib.hid (hT3.out f f 0 hf hf (by unfold oneText; rw [lettersB_1 h3]; rfl))
    clear hf
    go_enter Try.func57, Try.ntmps57
    go_wp2_with fail
    go_ret
    exact ⟨0, by rw [hF.out]; rfl, rfl⟩
  by_cases h4 : 24 < f.size
  · have hF := Lib.hid (hT3.out f f 0 hf hf (by unfold oneText; rw [lettersB_2 h4]; rfl))
    clear hf
    go_enter Try.func57, Try.ntmps57
    go_wp2_with fail
    go_ret
    exact ⟨0, by rw [hF.out]; rfl, rfl⟩
  clear hf
  go_enter Try.func57, Try.ntmps57
  go_wp2_with fail
  go_loopw [3] (fun iv wr => ∃ i m : Nat, i ≤ n ∧ iv = .int .i64 i ∧ Hid (∀ (j : Nat) (x : ByteArray), j < i → xs[j]? = some x → oneText f x = true) ∧ wr = w.drewN m) (fun iv _ => n - (intOf iv).toNat)
  case atStart => exact ⟨0, 0, Nat.zero_le _, rfl, Lib.hid (fun j x hj => by omega), rfl⟩
  case round =>
    obtain ⟨i, m, hi, rfl, hP, rfl⟩ := hrel
    by_cases hlt : i < n
    · obtain ⟨b2, o2, x, hbo, hx, hxs, ci⟩ := hX.out i hlt
      cases hbo
      have hXx := Lib.hid hx
      clear hx
      have hin : (i : Int) < (n : Int) := by omega
      have hn0 : (0 : Int) < (n : Int) := by omega
      rw [← World.cell?_drewN (n := m)] at ci
      have c0 := (World.cell?_drewN w m ⟨b, o, none⟩).trans c0
      generalize hwo : w.drewN m = wo at *
      have hWo := Lib.hid hwo
      clear hwo
      have hW2 : Hid (∀ j, wo.drewN j = w.drewN (m + j)) := Lib.hid fun j => by rw [← hWo.out, World.drewN_drewN]
      by_cases hsz : x.size = f.size
      · have hbn : ((x.size : Int) != (f.size : Int)) = false := by rw [bne_eq_false_iff_eq, hsz]
        go_wp2_with fail
        go_quiet (fail)
        go_wp2_with fail
        have ci2 : (wo.drewN nq).cell? ⟨b, o + i, none⟩ = some (.string x) := (World.cell?_drewN wo nq ⟨b, o + i, none⟩).trans ci
        have hWp := Lib.hid (hW2.out nq)
        generalize wo.drewN nq = wp at *
        clear ci c0 hWo hW2 hbn
        go_loopw [4] (fun kv wr => ∃ k : Nat, k ≤ x.size ∧ kv = .int .i64 k ∧ Hid (∀ j, j < k → slotP ((x.data.toList.getD j 0).toNat : Int) = true) ∧ wr = wp) (fun kv _ => x.size - (intOf kv).toNat)
        case atStart => exact ⟨0, Nat.zero_le _, rfl, Lib.hid (fun j hj => by omega), by trivial⟩
        case round =>
          obtain ⟨k, hk, rfl, hS, rfl⟩ := hrel
          by_cases hlk : k < x.size
          · have hgd := byte_getD x k hlk
            cases hq : slotP ((x[k]'hlk).toNat : Int)
            · have hF := Lib.hid (hT3.out f x i hFf.out hXx.out (by unfold oneText; rw [lettersB_3 hlk (by rw [hgd]; exact hq)]; rfl))
              have n1 : ¬ (x[k]'hlk).toNat = 119 := fun h => by rw [h] at hq; cases hq
              have n2 : ¬ (x[k]'hlk).toNat = 46 := fun h => by rw [h] at hq; cases hq
              have b1 : (((x[k]'hlk).toNat : Int) != 119) = true := by rw [bne_iff_ne]; omega
              have b2 : (((x[k]'hlk).toNat : Int) != 46) = true := by rw [bne_iff_ne]; omega
              clear hq hgd
              go_wp2_with fail
              go_ret
              exact ⟨_, by rw [hF.out]; rfl, hWp.out⟩
            · have hS2 : Hid (∀ j, j < k + 1 → slotP ((x.data.toList.getD j 0).toNat : Int) = true) := Lib.hid fun j hj => by
                by_cases h1 : j < k
                · exact hS.out j h1
                · obtain rfl : j = k := by omega
                  rw [hgd]; exact hq
              by_cases h119 : (x[k]'hlk).toNat = 119
              · have b1 : (((x[k]'hlk).toNat : Int) != 119) = false := by rw [h119]; rfl
                clear hq hgd h119
                go_wp2_with fail
                go_roundw
                case rel => exact ⟨k + 1, by omega, by go_num, hS2, by trivial⟩
                case measure => simp [intOf]; omega
              · have b1 : (((x[k]'hlk).toNat : Int) != 119) = true := by rw [bne_iff_ne]; omega
                have b2 : (((x[k]'hlk).toNat : Int) != 46) = false := by
                  unfold slotP at hq
                  simp only [Bool.or_eq_true, decide_eq_true_eq] at hq
                  rw [bne_eq_false_iff_eq]
                  omega
                clear hq hgd h119
                go_wp2_with fail
                go_roundw
                case rel => exact ⟨k + 1, by omega, by go_num, hS2, by trivial⟩
                case measure => simp [intOf]; omega
          · have hG : oneText f x = true := by
              unfold oneText
              rw [lettersB_4 (by omega) (by omega) (fun j hj => hS.out j (by omega)), decide_eq_true hsz]
              rfl
            have hP2 : Hid (∀ (j : Nat) (y : ByteArray), j < i + 1 → xs[j]? = some y → oneText f y = true) := Lib.hid fun j y hj hy => by
              by_cases h1 : j < i
              · exact hP.out j y h1 hy
              · obtain rfl : j = i := by omega
                rw [hXx.out] at hy
                cases hy
                exact hG
            go_wp2_with fail
            go_roundw
            case rel => exact ⟨i + 1, _, by omega, by go_num, hP2, hWp.out⟩
            case measure => simp [intOf]; omega
      · have hbn : ((x.size : Int) != (f.size : Int)) = true := by rw [bne_iff_ne]; omega
        have hF := Lib.hid (hT3.out f x i hFf.out hXx.out (by unfold oneText; rw [decide_eq_false hsz, Bool.and_false]))
        go_wp2_with fail
        go_quiet (fail)
        go_wp2_with fail
        go_ret
        exact ⟨_, by rw [hF.out]; rfl, hW2.out _⟩
    · have hF := Lib.hid (hT4.out f hFf.out (by omega) (by omega) fun j x hj => hP.out j x (by omega))
      go_wp2_with fail
      go_ret
      exact ⟨_, by rw [hF.out]; rfl, rfl⟩
end Go.Proofs.Ytpolhjkjgbfdhaa
