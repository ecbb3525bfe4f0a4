/- The best order of jobs with releases: the model's walk. No condition. -/
import Derived.Test.YtnkbnkiaokkjhaaPermBest
namespace Go.Proofs.Ytnkbnkiaokkjhaa
open Go.RowKit Go.Lst Go.Plan

def relOk (xs : List JobD) (kind : Int) : Bool := areJobs xs && decide (xs.length ≤ 6) && inB kind 0 4
def relCost (xs : List JobD) (kind : Int) (k : Nat) : Int := costTo kind xs (endsOf xs (rowAt xs.length k)) xs.length
theorem relOk_of {xs : List JobD} {kind : Int} (h : relOk xs kind = true) : areJobs xs = true ∧ xs.length ≤ 6 ∧ inB kind 0 4 = true := by
  simp only [relOk, Bool.and_eq_true, decide_eq_true_eq] at h
  exact ⟨h.1.1, h.1.2, h.2⟩
theorem row_lstP {W : World} {A n : Nat} {v : Value} {f : Nat → Int} (ho : W.ownsRow A 2 1 v n (cellsF n f)) (hn : n ≤ 1000) : LstI W.heap.size W v (listF n f) := by
  have h2 : Lst.Own A W.heap.size W v 2 1 (listF n f).length ((listF n f).map (Value.int .i64)) := by rw [listF_length, ← cellsF_listF]; exact Lst.Own.new ho (by unfold maxLen; omega)
  exact h2.lstI (Nat.le_refl _)
set_option maxHeartbeats 4000000 in
theorem specRel_no (B : Nat) (v : Value) (xs : List JobD) (kind : Int) (w : World) (h : LstJob B w v xs) (hq : relOk xs kind = false) : Calls Try.prog 6 #[v, .int .i64 kind] w fun e w' => e = .returned (.tuple #[.slice none 0 0, .int .i64 0, .bool false]) ∧ Below w.heap.size w w' := by
  have hA := Lib.hid (l02Jobs_any B v xs w h)
  have hI := Lib.hid (fun w' => l00In_any kind 0 4 w')
  obtain ⟨a, cap, rfl, hl, _⟩ := h.at_
  clear h
  cases hj : areJobs xs
  · rw [hj] at hA
    generalize xs.length = n at *
    unfold maxLen at hl
    clear hq hj
    go_enter Try.func6, Try.ntmps6
    go_wp2_with (go_at_call 17; (with_reducible refine (hA.out).mono ?_); rintro e w' ⟨j, rfl, rfl⟩)
    go_ret3
    exact ⟨rfl, below_drawn w _⟩
  · rw [hj] at hA
    by_cases h6 : xs.length ≤ 6
    · have hk : inB kind 0 4 = false := by unfold relOk at hq; rw [hj, decide_eq_true h6] at hq; simpa using hq
      have h6i : ¬ (6 : Int) < (xs.length : Int) := by omega
      rw [hk] at hI
      generalize xs.length = n at *
      unfold maxLen at hl
      clear hq hj hk
      go_enter Try.func6, Try.ntmps6
      go_wp2_with (first | (go_at_call 17; (with_reducible refine (hA.out).mono ?_); rintro e w' ⟨j, rfl, rfl⟩) | (go_at_call 18; (with_reducible refine (hI.out _).mono ?_); rintro e w' ⟨rfl, rfl⟩))
      go_ret3
      exact ⟨rfl, below_drawn w _⟩
    · have h6i : (6 : Int) < (xs.length : Int) := by omega
      generalize xs.length = n at *
      unfold maxLen at hl
      clear hq hj
      go_enter Try.func6, Try.ntmps6
      go_wp2_with (go_at_call 17; (with_reducible refine (hA.out).mono ?_); rintro e w' ⟨j, rfl, rfl⟩)
      go_ret3
      exact ⟨rfl, below_drawn w _⟩
set_option maxHeartbeats 8000000 in
set_option maxRecDepth 100000 in
theorem specRel_yes (B : Nat) (v : Value) (xs : List JobD) (kind : Int) (w : World) (h : LstJob B w v xs) (hB : B ≤ w.heap.size) (hq : relOk xs kind = true) : Calls Try.prog 6 #[v, .int .i64 kind] w (PermPost xs.length (relCost xs kind) w) := by
  obtain ⟨hj, h6, hk⟩ := relOk_of hq
  have hn1 := (areJobs_of hj).1
  have hA := Lib.hid (l02Jobs_any B v xs w h)
  rw [hj] at hA
  have hI := Lib.hid (fun w' => l00In_any kind 0 4 w')
  rw [hk] at hI
  have hPo : Hid (∀ T b g c w', TotalF xs.length T → leastG (relCost xs kind) (List.range T) = some b → w'.ownsRow w.heap.size 2 1 (.slice (some ⟨g, 0, none⟩) xs.length c) xs.length ((rowAt xs.length b).map (Value.int .i64)) → Below w.heap.size w w' → PermPost xs.length (relCost xs kind) w (.returned (.tuple #[.slice (some ⟨g, 0, none⟩) xs.length c, .int .i64 (relCost xs kind b), .bool true])) w') := Lib.hid fun T b g c w' h1 h2 h3 h4 => ⟨T, b, g, c, h1, h2, rfl, h3, h4⟩
  generalize PermPost xs.length (relCost xs kind) w = Q at *
  have hCs : Hid (∀ (k A : Nat) (f : Nat → Int) (v2 : Value) (W : World), Below w.heap.size w W → itF xs.length k = some f → W.ownsRow A 2 1 v2 xs.length (cellsF xs.length f) → Calls Try.prog 20 #[v, v2, .int .i64 kind] W fun e w' => e = .returned (.int .i64 (relCost xs kind k)) ∧ Below W.heap.size W w') := Lib.hid fun k A f v2 W hb hf ho => by
    have hL := row_lstP ho (by omega)
    have := l02Cost_any W.heap.size v v2 xs (listF xs.length f) kind W ((h.below hb hB).mono (Nat.le_trans hB hb.size)) hL hj (listF_ord (itF_ord hn1 hf)) (Nat.le_refl _) hk
    unfold relCost
    rw [rowAt_some hf]
    exact this
  have hLn := Lib.hid (least_next (relCost xs kind))
  have hL1 : Hid (leastG (relCost xs kind) (List.range 1) = some 0) := Lib.hid rfl
  obtain ⟨a, cap, rfl, hl, _⟩ := h.at_
  have h6i : ¬ (6 : Int) < (xs.length : Int) := by omega
  have hCn := Lib.hid (fun w' => l02Count_any xs.length w' hn1 (by omega))
  have hNx := Lib.hid (fun (A g c : Nat) (f : Nat → Int) (w0 : World) (ho : OrdF xs.length f) (hr : w0.ownsRow A 2 1 (.slice (some ⟨g, 0, none⟩) xs.length c) xs.length (cellsF xs.length f)) => l02NextOrder_any A g xs.length c f w0 w0 ⟨hr, grown_refl _ _⟩ hn1 (by omega) ho)
  obtain ⟨i0, hi, hz0, hz1, hz2⟩ := info_parts infoI
  clear h hq hj hk
  generalize relCost xs kind = cs at *
  generalize xs.length = n at *
  unfold maxLen at hl
  go_enter Try.func6, Try.ntmps6
  go_wp2_with (first | (go_at_call 17; (with_reducible refine (hA.out).mono ?_); rintro e w' ⟨j, rfl, rfl⟩) | (go_at_call 18; (with_reducible refine (hI.out _).mono ?_); rintro e w' ⟨rfl, rfl⟩) | (go_at_call 19; (with_reducible refine (hCn.out _).mono ?_); rintro e w2 ⟨g1, c1, rfl, ho1, hb1⟩; have hO1 := Lib.hid ho1; have hB1 := Lib.hid hb1; clear ho1 hb1) | (at_builtin; refine wpList_append_own _ rfl _ _ _ rfl w2.heap.size 2 i0 (.int .i64 0) 1 8 Try.underlying24 hi hz0 hz1 hz2 rfl (by decide) _ 0 _ rfl (World.ownsRow_lit w2 #[] 0 (Nat.le_refl _) (Nat.zero_le _) rfl) ⟨g1, 0, none⟩ n c1 (cellsF n fun q => (q : Int)) rfl (by rw [cellsF_length, Nat.mul_one]) (src_row hO1.out _) (one_cells n _) (by unfold maxLen; omega) (by omega) (by simp) ?_; intro v8 w8 hown8 hgrow8 hnil8; have hO8 := Lib.hid hown8; have hG8 := Lib.hid hgrow8; clear hown8 hgrow8 hnil8))
  have hBw2 := Lib.hid ((below_drawn w _).trans hB1.out)
  have hg1 : w.heap.size ≤ g1 ∧ g1 < w2.heap.size := hO1.out.lt g1 rfl
  have hO9 := hO8.out
  rw [Nat.zero_add, List.nil_append] at hO9
  obtain ⟨g2, c2, rfl, hg2⟩ := row_openG hO9 hn1
  have hBw8 := Lib.hid ((hBw2.out.alloc hBw2.out.size (Obj.cells #[] 2)).grown hG8.out (by rw [World.size_alloc]; have := hBw2.out.size; omega) (fun g hg => by cases hg; exact hBw2.out.size))
  have hOo : w8.ownsRow w.heap.size 2 1 (.slice (some ⟨g1, 0, none⟩) n c1) n (cellsF n fun q => (q : Int)) := ownsRow_mono ((hO1.out.alloc _).kept hG8.out (.inr (fun e => by (have e2 : some g1 = some w2.heap.size := e); injection e2 with e2; omega))) (Nat.le_refl _)
  have hOb := Lib.hid hO9
  have hs8 : w2.heap.size ≤ w8.heap.size := by have := hG8.out.size; rw [World.size_alloc] at this; omega
  obtain ⟨A2, hA2⟩ : ∃ A2, A2 = w2.heap.size := ⟨_, rfl⟩
  rw [← hA2] at hOb hg1 hg2 hs8
  have hg12 : g1 < A2 := hg1.2
  have hwA : w.heap.size ≤ A2 := by have := hBw2.out.size; omega
  with_reducible refine (hCs.out 0 _ _ _ w8 hBw8.out rfl hOo).mono ?_
  rintro e w9 ⟨rfl, hb9⟩
  have hBw9 := Lib.hid (hBw8.out.trans (hb9.mono hBw8.out.size))
  have hO1n := Lib.hid (ownsRow_below hOo hb9 (ownsRow_lt hOo).2)
  have hOb9 : Hid (w9.ownsRow A2 2 1 (.slice (some ⟨g2, 0, none⟩) n c2) n ((rowAt n 0).map (Value.int .i64))) := Lib.hid (by rw [rowAt_some rfl, ← cellsF_listF]; exact ownsRow_below hOb.out hb9 (ownsRow_lt hOb.out).2)
  have hs9 : A2 ≤ w9.heap.size := Nat.le_trans hs8 hb9.size
  clear hBw2 hO1 hB1 hO8 hG8 hBw8 hOo hOb hb9 hO9 hA2 hg1 hCn
  go_wp2_with fail
  go_loopw [8, 9] (fun bv lv wr => ∃ (k b g c : Nat) (f : Nat → Int), itF n k = some f ∧ leastG cs (List.range (k + 1)) = some b ∧ bv = .slice (some ⟨g, 0, none⟩) n c ∧ lv = .int .i64 (cs b) ∧ Hid (wr.ownsRow w.heap.size 2 1 (.slice (some ⟨g1, 0, none⟩) n c1) n (cellsF n f)) ∧ Hid (wr.ownsRow A2 2 1 (.slice (some ⟨g, 0, none⟩) n c) n ((rowAt n b).map (Value.int .i64))) ∧ Hid (Below w.heap.size w wr) ∧ A2 ≤ wr.heap.size) (fun _ _ wr => permLack n g1 wr)
  case atStart => exact ⟨0, 0, g2, c2, _, rfl, hL1.out, rfl, rfl, hO1n, hOb9, hBw9, hs9⟩
  case round =>
    clear hO1n hOb9 hBw9 hs9
    obtain ⟨k, b, g, c, f, hit, hle, rfl, rfl, hO, hOb, hBw, hsz⟩ := hrel
    have hord := Lib.hid (itF_ord hn1 hit)
    have hItn : Hid (itF n (k + 1) = nextF n f) := Lib.hid (itF_next hit)
    have hIts : Hid ((itF n k).isSome = true) := Lib.hid (by rw [hit]; rfl)
    have hLk := Lib.hid (permLack_at hO.out)
    have hVl := Lib.hid (fun h (hh : nextF n f = some h) => nextF_grow hn1 hord.out hh)
    have hVb := Lib.hid (fun h (hh : nextF n f = some h) => ordF_val (nextF_ord hn1 hord.out hh))
    have hLe := Lib.hid hle
    have hNT := Lib.hid (hNx.out w.heap.size g1 c1 f wr hord.out hO.out)
    have hg1w := Lib.hid (hO.out.lt _ rfl).1
    have hgA := Lib.hid (hOb.out.lt _ rfl)
    clear hit hle
    go_wp2_with (go_at_call 21; (with_reducible refine (hNT.out).mono ?_); rintro e' w5 (⟨hn5, rfl, hr5⟩ | ⟨h5, hn5, rfl, hr5⟩); all_goals (have hR5 := Lib.hid hr5; have hN5 := Lib.hid hn5; clear hr5 hn5 hNT))
    · have hX := Lib.hid (hPo.out (k + 1) b g c w5 (itF_total hIts.out (by rw [hItn.out]; exact hN5.out)) hLe.out (ownsRow_mono (hOb.out.kept hR5.out.kept (.inr (by simp [Value.ownBlock]; have := hgA.out; omega))) hwA) (hBw.out.trans ((Below.refl w.heap.size wr).grown hR5.out.kept (by omega) (fun q e => by cases e; exact hg1w.out))))
      go_ret3
      exact hX.out
    · have hB5 := Lib.hid (hBw.out.trans ((Below.refl w.heap.size wr).grown hR5.out.kept (by omega) (fun q e => by cases e; exact hg1w.out)))
      have hit5 := Lib.hid (show itF n (k + 1) = some h5 by rw [hItn.out]; exact hN5.out)
      have hOb5 := Lib.hid (hOb.out.kept hR5.out.kept (.inr (by simp [Value.ownBlock]; have := hgA.out; omega)))
      have hs5 : A2 ≤ w5.heap.size := Nat.le_trans hsz hR5.out.kept.size
      have hlk5 : Hid (∀ W : World, W.ownsRow w.heap.size 2 1 (.slice (some ⟨g1, 0, none⟩) n c1) n (cellsF n h5) → permLack n g1 W < permLack n g1 wr) := Lib.hid fun W ho => by
        rw [hLk.out, permLack_at ho]
        have q1 := hVl.out h5 hN5.out
        have q2 := hVb.out h5 hN5.out
        omega
      with_reducible refine (hCs.out (k + 1) _ h5 _ w5 hB5.out hit5.out hR5.out.own).mono ?_
      rintro e w6 ⟨rfl, hb6⟩
      have hB6 := Lib.hid (hB5.out.trans (hb6.mono hB5.out.size))
      have hO6 := Lib.hid (ownsRow_below hR5.out.own hb6 (ownsRow_lt hR5.out.own).2)
      have hOb6 := Lib.hid (ownsRow_below hOb5.out hb6 (ownsRow_lt hOb5.out).2)
      have hs6 : A2 ≤ w6.heap.size := Nat.le_trans hs5 hb6.size
      have hLx := hLn.out (k + 1) b hLe.out
      clear hb6 hB5 hOb5 hOb hO hBw hVl hVb hLk hIts hItn hR5 hs5
      by_cases hlt : cs (k + 1) < cs b
      · rw [if_pos hlt] at hLx
        have hLh := Lib.hid hLx
        clear hLx
        go_wp2_with (at_builtin; refine wpList_append_own _ rfl _ _ _ rfl A2 2 i0 (.int .i64 0) 1 8 Try.underlying24 hi hz0 hz1 hz2 rfl (by decide) _ 0 _ rfl (ownsRow_mono (World.ownsRow_lit w6 #[] 0 (Nat.le_refl _) (Nat.zero_le _) rfl) hs6) ⟨g1, 0, none⟩ n c1 (cellsF n h5) rfl (by rw [cellsF_length, Nat.mul_one]) (src_row hO6.out _) (one_cells n _) (by unfold maxLen; omega) (by omega) (by rw [World.size_alloc]; omega) ?_; intro v8 w8 hown8 hgrow8 hnil8; have hO8 := Lib.hid hown8; have hG8 := Lib.hid hgrow8; clear hown8 hgrow8 hnil8)
        have hO9 := hO8.out
        rw [Nat.zero_add, List.nil_append] at hO9
        obtain ⟨g3, c3, rfl, hg3⟩ := row_openG hO9 hn1
        have hO1x := Lib.hid ((hO6.out.alloc (Obj.cells #[] 2)).kept hG8.out (.inr (fun e => by (have e2 : some g1 = some w6.heap.size := e); injection e2 with e2; have := (ownsRow_lt hO6.out).2; omega)))
        have hBx := Lib.hid ((hB6.out.alloc hB6.out.size (Obj.cells #[] 2)).grown hG8.out (by rw [World.size_alloc]; have := hB6.out.size; omega) (fun q e => by cases e; exact hB6.out.size))
        have hOx : Hid (w8.ownsRow A2 2 1 (.slice (some ⟨g3, 0, none⟩) n c3) n ((rowAt n (k + 1)).map (Value.int .i64))) := Lib.hid (by rw [rowAt_some hit5.out, ← cellsF_listF]; exact hO9)
        have hsx : A2 ≤ w8.heap.size := by have := hG8.out.size; rw [World.size_alloc] at this; omega
        clear hO9
        go_roundw
        case rel => exact ⟨k + 1, k + 1, g3, c3, h5, hit5.out, hLh.out, rfl, rfl, hO1x, hOx, hBx, hsx⟩
        case measure => exact hlk5.out _ hO1x.out
      · rw [if_neg hlt] at hLx
        have hLh := Lib.hid hLx
        clear hLx
        go_wp2_with fail
        go_roundw
        case rel => exact ⟨k + 1, b, g, c, h5, hit5.out, hLh.out, rfl, rfl, hO6, hOb6, hB6, hs6⟩
        case measure => exact hlk5.out _ hO6.out
end Go.Proofs.Ytnkbnkiaokkjhaa
