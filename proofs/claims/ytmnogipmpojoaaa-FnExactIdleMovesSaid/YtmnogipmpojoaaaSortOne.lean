/- Contract: a merge of which one half holds a single place. Conditions: the comparison tells which of two places comes first; the halves are sorted, the earlier places in the first one. -/
import Derived.Test.YtmnogipmpojoaaaSortIns
namespace Go.Proofs.Ytmnogipmpojoaaa
open Go.RowKit Go.Lst Srt Go.Shelf

theorem half_in {i j : Nat} (h : i < j) : ∃ m : Nat, m = (i + j) / 2 ∧ i ≤ m ∧ m < j := ⟨(i + j) / 2, rfl, by omega, by omega⟩
set_option maxHeartbeats 4000000 in
set_option maxRecDepth 100000 in
theorem symMerge_one (A g n c a m b F : Nat) (lb : Array Value) (W0 w : World) (f : Nat → Int) (sg : Int → Int → Int) (lt : Int → Int → Bool) (hT : Tot n lt) (hC : Cmp F lb g n W0 sg lt) (h : Row A g n c W0 w f) (m1 : a < m) (m2 : m ≤ a + 1) (hab : m < b) (hb : b ≤ n) (hn : n ≤ 1024)
    (hA : ∀ k, k < n → 0 ≤ f k ∧ f k < n) (hH : Halves lt a m b f) :
    Calls Try.prog 37 #[.slice (some ⟨g, 0, none⟩) n c, .int .i64 a, .int .i64 m, .int .i64 b, .func (.func F) #[] lb] w fun e w' => e = .returned (.tuple #[]) ∧ ∃ f', Row A g n c W0 w' f' ∧ Merged lt a b f f' := by
  have hR0 := Lib.hid h
  have hCs := Lib.hid hC.says
  have hCg := Lib.hid hC.sign
  have eg := hC.enter
  have hAp : Hid (∀ k, m ≤ k → k < b → 0 ≤ f a ∧ f a < f k ∧ f k < n) := Lib.hid fun k k1 k2 => ⟨(hA a (by omega)).1, hH.apart a k (Nat.le_refl _) (by omega) k1 k2, (hA k (by omega)).2⟩
  have hLo : Hid (∀ h, m ≤ h → h < b → lt (f h) (f a) = true → ∀ k, m ≤ k → k < h + 1 → lt (f k) (f a) = true) := Lib.hid fun h h1 h2 hl k k1 k2 => by
    by_cases e : k = h
    · rw [e]; exact hl
    · exact hT.tr _ _ _ (hH.right k h k1 (by omega) h2) hl
  have hHi : Hid (∀ h, m ≤ h → h < b → lt (f h) (f a) = false → ∀ k, h ≤ k → k < b → lt (f a) (f k) = true) := Lib.hid fun h h1 h2 hl k k1 k2 => by
    have hl2 := hT.of_not hl (by have := hH.apart a h (Nat.le_refl _) (by omega) h1 h2; omega)
    by_cases e : k = h
    · rw [e]; exact hl2
    · exact hT.tr _ _ _ hl2 (hH.right h k h1 (by omega) k2)
  have hEnd : Hid (∀ i, m ≤ i → i ≤ b → (∀ k, m ≤ k → k < i → lt (f k) (f a) = true) → (∀ k, i ≤ k → k < b → lt (f a) (f k) = true) → Merged lt a b f (toRight f a (i - 1))) := Lib.hid fun i i1 i2 lo hi =>
    insert_right hT (by have e : m = a + 1 := by omega
                        rw [← e]; exact hH.right) (by omega) (by omega) (fun h => lo (i - 1) (by omega) (by omega)) (fun h => hi (i - 1 + 1) (by omega) (by omega))
  have hTz := Lib.hid (toRight_zero f a)
  have hTs := Lib.hid (fun c h => toRight_step f a c h)
  have wm : IntKind.i64.wrap ((m : Int) - (a : Int)) = 1 := by rw [IntWalk.i64_in _ (by omega)]; omega
  have wd : (m : Int) - (a : Int) = 1 := by omega
  clear h hC hT hA hH
  go_enter Try.func37, Try.ntmps37
  go_wp2_with fail
  go_loopw [10, 11] (fun iv jv wr => ∃ i j : Nat, m ≤ i ∧ i ≤ j ∧ j ≤ b ∧ iv = .int .i64 i ∧ jv = .int .i64 j ∧ Hid (∀ k, m ≤ k → k < i → lt (f k) (f a) = true) ∧ Hid (∀ k, j ≤ k → k < b → lt (f a) (f k) = true) ∧ Hid (Row A g n c W0 wr f)) (fun iv jv _ => (intOf jv).toNat - (intOf iv).toNat)
  case atStart => exact ⟨m, b, Nat.le_refl _, by omega, Nat.le_refl _, rfl, rfl, Lib.hid (fun k h1 h2 => by omega), Lib.hid (fun k h1 h2 => by omega), hR0⟩
  case round =>
    clear hR0
    obtain ⟨i, j, hi1, hij, hjb, rfl, rfl, hlo, hhi, hR⟩ := hrel
    by_cases hlt : i < j
    · obtain ⟨q, hq, q1, q2⟩ := half_in hlt
      have hq2 := Lib.hid hq
      have hqd : ((i : Int) + (j : Int)) / 2 = (q : Int) := by omega
      have wq1 : IntKind.u64.wrap ((i : Int) + (j : Int)) = (i : Int) + (j : Int) := by rw [IntKind.wrap_u64]; omega
      have wq2 : IntKind.i64.wrap (q : Int) = (q : Int) := IntWalk.i64_in _ (by omega)
      have wq3 : IntKind.i64.wrap ((i : Int) + (j : Int)) = (i : Int) + (j : Int) := IntWalk.i64_in _ (by omega)
      obtain ⟨b1, b2, b3⟩ := hAp.out q (by omega) (by omega)
      have c1 := hR.out.cell (k := q) (by omega)
      have c2 := hR.out.cell (k := a) (by omega)
      have nc1 := fun pn => near_cell c1 pn
      have nc2 := fun pn => near_cell c2 pn
      have hCall := Lib.hid (fun (pn : Near wr.heap.size wr) => hCs.out _ (hR.out.below pn.below).kept (f a) (f q) b1 b2 b3)
      have hSg := hCg.out (f a) (f q) b1 b2 b3
      have hRm := Lib.hid (fun (pn : Near wr.heap.size wr) => hR.out.below pn.below)
      have l1 : (q : Int) < (n : Int) := by omega
      have l2 : (a : Int) < (n : Int) := by omega
      have hd : (i : Int) < (j : Int) := by omega
      clear hq b1 b2 b3
      cases hlv : lt (f q) (f a)
      · have hH2 := Lib.hid (hHi.out q (by omega) (by omega) hlv)
        rw [hlv] at hSg
        clear hlv
        generalize sg (f q) (f a) = z at *
        generalize f q = x at *
        generalize f a = y at *
        go_wp2_with fail
        refine wp_region_near (by kernel_rfl) (by kernel_rfl) ?_
        repeat (go_big_quiet_step ((go_at_fn F; with_reducible exact near_of (Nat.le_refl _) (hCall.out _))))
        refine wpQuiet_nil ?_
        rintro _ ⟨pq, rfl⟩
        go_wp2_with fail
        go_roundw
        case rel => exact ⟨i, q, by omega, by omega, by omega, rfl, rfl, hlo, hH2, Lib.hid (hRm.out _)⟩
        case measure => simp [intOf]; omega
      · have hH2 := Lib.hid (hLo.out q (by omega) (by omega) hlv)
        rw [hlv] at hSg
        clear hlv
        generalize sg (f q) (f a) = z at *
        generalize f q = x at *
        generalize f a = y at *
        go_wp2_with fail
        refine wp_region_near (by kernel_rfl) (by kernel_rfl) ?_
        repeat (go_big_quiet_step ((go_at_fn F; with_reducible exact near_of (Nat.le_refl _) (hCall.out _))))
        refine wpQuiet_nil ?_
        rintro _ ⟨pq, rfl⟩
        go_wp2_with fail
        go_roundw
        case rel => exact ⟨q + 1, j, by omega, by omega, by omega, by go_num, rfl, hH2, hhi, Lib.hid (hRm.out _)⟩
        case measure => simp [intOf]; omega
    · obtain rfl : i = j := by omega
      have hM := Lib.hid (hEnd.out i hi1 hjb hlo.out hhi.out)
      have hR1 := Lib.hid (show Row A g n c W0 wr (toRight f a a) by rw [hTz.out]; exact hR.out)
      clear hlo hhi hR hLo hHi hEnd hAp hCs hCg
      go_wp2_with fail
      go_loopw [13] (fun kv wr' => ∃ k : Nat, a ≤ k ∧ k ≤ i - 1 ∧ kv = .int .i64 k ∧ Hid (Row A g n c W0 wr' (toRight f a k))) (fun kv _ => i - (intOf kv).toNat)
      case atStart => exact ⟨a, Nat.le_refl _, by omega, rfl, hR1⟩
      case round =>
        clear hR1
        obtain ⟨k, hak, hki, rfl, hRk⟩ := hrel
        have wi : IntKind.i64.wrap ((i : Int) - 1) = (i : Int) - 1 := IntWalk.i64_in _ (by omega)
        by_cases hk : k < i - 1
        · have c1 := hRk.out.cell (k := k) (by omega)
          have c2 := hRk.out.cell (k := k + 1) (by omega)
          have f1 := hRk.out.frozen k
          have f2 := hRk.out.frozen (k + 1)
          have hS := Lib.hid (show Row A g n c W0 (((wr.setCell ⟨g, k, none⟩ (.int .i64 (toRight f a k (k + 1)))).setCell ⟨g, k + 1, none⟩ (.int .i64 (toRight f a k k))).drew) (toRight f a (k + 1)) by rw [← hTs.out k hak]; exact hRk.out.swap k (k + 1))
          generalize toRight f a k k = x at *
          generalize toRight f a k (k + 1) = y at *
          have z1 : (0 : Int) ≤ (k : Int) + 1 := by omega
          have t1 : ((k : Int) + 1).toNat = k + 1 := by omega
          have l1 : (k : Int) + 1 < (n : Int) := by omega
          have l2 : (k : Int) < (n : Int) := by omega
          have hp1 : k + 1 < n := by omega
          have hd : (k : Int) < (i : Int) - 1 := by omega
          go_wp2_with fail
          go_region
          go_wp2_with fail
          go_roundw
          case rel => exact ⟨k + 1, by omega, by omega, by go_num, hS⟩
          case measure => simp [intOf]; omega
        · obtain rfl : k = i - 1 := by omega
          have hd : ¬ (((i - 1 : Nat) : Int) < (i : Int) - 1) := by omega
          have hd2 : decide (((i - 1 : Nat) : Int) < (i : Int) - 1) = false := decide_eq_false hd
          go_wp2_with fail
          refine bodyPost_ret (results_none rfl _ _ _) rfl ?_
          exact ⟨rfl, _, hRk.out, hM.out⟩
end Go.Proofs.Ytmnogipmpojoaaa
