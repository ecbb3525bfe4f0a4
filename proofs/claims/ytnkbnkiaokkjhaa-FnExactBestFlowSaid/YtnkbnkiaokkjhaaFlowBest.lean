/- The best order of jobs on machines: the model's walk. No condition. -/
import Derived.Test.YtnkbnkiaokkjhaaPermBest
import Derived.Test.YtnkbnkiaokkjhaaFlowSpec
import Derived.Test.YtnkbnkiaokkjhaaCount
namespace Go.Proofs.Ytnkbnkiaokkjhaa
open Go.RowKit Go.Lst Go.Plan

def flowOk (ts : List Int) (M : Int) : Bool := canShop ts M && decide (ts.length / M.toNat ≤ 7)
def flowCost (ts : List Int) (m n : Nat) (k : Nat) : Int := (flowTo ts (rowAt n k) m n).2.getD (m - 1) 0
theorem flowOk_of {ts : List Int} {M : Int} (h : flowOk ts M = true) : ∃ m n : Nat, M = m ∧ 1 ≤ m ∧ m ≤ 8 ∧ 1 ≤ n ∧ n ≤ 7 ∧ ts.length = n * m ∧ (∀ (i : Nat) (x : Int), ts[i]? = some x → 1 ≤ x ∧ x ≤ 10000) := by
  unfold flowOk at h
  rw [Bool.and_eq_true, decide_eq_true_eq] at h
  obtain ⟨m, n, rfl, hm1, hm8, hn1, hn24, hlen, ht⟩ := canShop_of h.1
  refine ⟨m, n, rfl, hm1, hm8, hn1, ?_, hlen, ht⟩
  have := h.2
  rw [Int.toNat_natCast, hlen, Nat.mul_div_cancel n (by omega)] at this
  exact this
theorem row_lstQ {W : World} {A n : Nat} {v : Value} {f : Nat → Int} (ho : W.ownsRow A 2 1 v n (cellsF n f)) (hn : n ≤ 1000) : LstI W.heap.size W v (listF n f) := by
  have h2 : Lst.Own A W.heap.size W v 2 1 (listF n f).length ((listF n f).map (Value.int .i64)) := by rw [listF_length, ← cellsF_listF]; exact Lst.Own.new ho (by unfold maxLen; omega)
  exact h2.lstI (Nat.le_refl _)
set_option maxHeartbeats 4000000 in
theorem specFlow_no (B : Nat) (v : Value) (ts : List Int) (M : Int) (w : World) (h : LstI B w v ts) (hq : flowOk ts M = false) : Calls Try.prog 14 #[v, .int .i64 M] w fun e w' => e = .returned (.tuple #[.slice none 0 0, .int .i64 0, .bool false]) ∧ Below w.heap.size w w' := by
  have hA := Lib.hid (l04Can_any B v ts M w h)
  obtain ⟨a, cap, rfl, hl, _⟩ := id h
  clear h
  cases hj : canShop ts M
  · rw [hj] at hA
    generalize ts.length = L at *
    clear hq hj
    go_enter Try.func14, Try.ntmps14
    go_wp2_with (go_at_call 29; (with_reducible refine (hA.out).mono ?_); rintro e w' ⟨rfl, rfl⟩)
    go_ret3
    exact ⟨rfl, Below.refl _ _⟩
  · rw [hj] at hA
    obtain ⟨m, n, rfl, hm1, hm8, hn1, hn24, hlen, ht⟩ := canShop_of hj
    have h7 : (7 : Int) < (n : Int) := by
      unfold flowOk at hq
      rw [hj, Bool.true_and, decide_eq_false_iff_not, Int.toNat_natCast, hlen, Nat.mul_div_cancel n (by omega)] at hq
      omega
    have hmn := mul_le24 hn24 hm8
    rw [hlen] at hA ⊢
    have hCn := Lib.hid (fun w' => l04Count_any a m n cap w' hm1 (by omega))
    generalize n * m = L at *
    clear hq hj ht hlen
    go_enter Try.func14, Try.ntmps14
    go_wp2_with (first | (go_at_call 29; (with_reducible refine (hA.out).mono ?_); rintro e w' ⟨rfl, rfl⟩) | (go_at_call 30; (with_reducible refine (hCn.out _).mono ?_); rintro e w' ⟨rfl, rfl⟩))
    go_ret3
    exact ⟨rfl, Below.refl _ _⟩
set_option maxHeartbeats 8000000 in
set_option maxRecDepth 100000 in
theorem specFlow_yes (B m n : Nat) (v : Value) (ts : List Int) (w : World) (h : LstI B w v ts) (hB : B ≤ w.heap.size) (hq : canShop ts m = true) (hm1 : 1 ≤ m) (hm8 : m ≤ 8) (hn1 : 1 ≤ n) (h6 : n ≤ 7) (hlen : ts.length = n * m) (ht : ∀ (i : Nat) (x : Int), ts[i]? = some x → 1 ≤ x ∧ x ≤ 10000) : Calls Try.prog 14 #[v, .int .i64 m] w (PermPost n (flowCost ts m n) w) := by
  have hA := Lib.hid (l04Can_any B v ts m w h)
  rw [hq] at hA
  have hPo : Hid (∀ T b g c w', TotalF n T → leastG (flowCost ts m n) (List.range T) = some b → w'.ownsRow w.heap.size 2 1 (.slice (some ⟨g, 0, none⟩) n c) n ((rowAt n b).map (Value.int .i64)) → Below w.heap.size w w' → PermPost n (flowCost ts m n) w (.returned (.tuple #[.slice (some ⟨g, 0, none⟩) n c, .int .i64 (flowCost ts m n b), .bool true])) w') := Lib.hid fun T b g c w' h1 h2 h3 h4 => ⟨T, b, g, c, h1, h2, rfl, h3, h4⟩
  generalize PermPost n (flowCost ts m n) w = Q at *
  have hCs : Hid (∀ (k A : Nat) (f : Nat → Int) (v2 : Value) (W : World), Below w.heap.size w W → itF n k = some f → W.ownsRow A 2 1 v2 n (cellsF n f) → Calls Try.prog 31 #[v, .int .i64 m, v2] W fun e w' => ∃ u, e = .returned (.tuple #[u, .int .i64 (flowCost ts m n k)]) ∧ Below W.heap.size W w') := Lib.hid fun k A f v2 W hb hf ho => by
    have hL := row_lstQ ho (by omega)
    have := l04Ends_any W.heap.size v v2 ts (listF n f) m n W ((h.below hb hB).mono (Nat.le_trans hB hb.size)) hL (Nat.le_refl _) hm1 hm8 hn1 (by omega) hlen ht (listF_ord (itF_ord hn1 hf))
    unfold flowCost
    rw [rowAt_some hf]
    exact this.mono fun e w' ⟨u, he, _, hb'⟩ => ⟨u, he, hb'⟩
  have hLn := Lib.hid (least_next (flowCost ts m n))
  have hL1 : Hid (leastG (flowCost ts m n) (List.range 1) = some 0) := Lib.hid rfl
  obtain ⟨a, cap, rfl, hl, _⟩ := id h
  have h6i : ¬ (7 : Int) < (n : Int) := by omega
  have hmn := mul_le24 (n := n) (m := m) (by omega) hm8
  rw [hlen] at hA hCs ⊢
  have hC4 := Lib.hid (fun w' => l04Count_any a m n cap w' hm1 (by omega))
  have hCn := Lib.hid (fun w' => l02Count_any n w' hn1 (by omega))
  have hNx := Lib.hid (fun (A g c : Nat) (f : Nat → Int) (w0 : World) (ho : OrdF n f) (hr : w0.ownsRow A 2 1 (.slice (some ⟨g, 0, none⟩) n c) n (cellsF n f)) => l02NextOrder_any A g n c f w0 w0 ⟨hr, grown_refl _ _⟩ hn1 (by omega) ho)
  obtain ⟨i0, hi, hz0, hz1, hz2⟩ := info_parts infoI
  clear h hq
  generalize flowCost ts m n = cs at *
  generalize n * m = L at *
  clear hlen ht hl
  go_enter Try.func14, Try.ntmps14
  go_wp2_with (first | (go_at_call 29; (with_reducible refine (hA.out).mono ?_); rintro e w' ⟨rfl, rfl⟩) | (go_at_call 30; (with_reducible refine (hC4.out _).mono ?_); rintro e w' ⟨rfl, rfl⟩) | (go_at_call 19; (with_reducible refine (hCn.out _).mono ?_); rintro e w2 ⟨g1, c1, rfl, ho1, hb1⟩; have hO1 := Lib.hid ho1; have hB1 := Lib.hid hb1; clear ho1 hb1) | (at_builtin; refine wpList_append_own _ rfl _ _ _ rfl w2.heap.size 2 i0 (.int .i64 0) 1 8 Try.underlying24 hi hz0 hz1 hz2 rfl (by decide) _ 0 _ rfl (World.ownsRow_lit w2 #[] 0 (Nat.le_refl _) (Nat.zero_le _) rfl) ⟨g1, 0, none⟩ n c1 (cellsF n fun q => (q : Int)) rfl (by rw [cellsF_length, Nat.mul_one]) (src_row hO1.out _) (one_cells n _) (by unfold maxLen; omega) (by omega) (by simp) ?_; intro v8 w8 hown8 hgrow8 hnil8; have hO8 := Lib.hid hown8; have hG8 := Lib.hid hgrow8; clear hown8 hgrow8 hnil8))
  have hBw2 := Lib.hid hB1.out
  have hg1 : w.heap.size ≤ g1 ∧ g1 < w2.heap.size := hO1.out.lt g1 rfl
  have hO9 := hO8.out
  rw [Nat.zero_add, List.nil_append] at hO9
  obtain ⟨g2, c2, rfl, hg2⟩ := row_openG hO9 hn1
  have hBw8 := Lib.hid ((hBw2.out.alloc hBw2.out.size (Obj.cells #[] 2)).grown hG8.out (by rw [World.size_alloc]; have := hBw2.out.size; omega) (fun g hg => by cases hg; exact hBw2.out.size))
  have hOo : w8.ownsRow w.heap.size 2 1 (.slice (some ⟨g1, 0, none⟩) n c1) n (cellsF n fun q => (q : Int)) := ownsRow_mono ((hO1.out.alloc _).kept hG8.out (.inr (fun e => by (have e2 : some g1 = some w2.heap.size := e); injection e2 with e2; omega))) (Nat.le_refl _)
  have hOb := Lib.hid hO9
  have hs8 : w2.heap.size ≤ w8.heap.size := by have := hG8.out.size; rw [World.size_alloc] at this; omega
  obtain ⟨A2, hA2⟩ : ∃ A2, A2 = w2.heap.size := ⟨_, rfl⟩
  rw [← hA2] at hOb hg1 hg2 hs8
  have hg12 : g1 < A2 := hg1.2
  have hwA : w.heap.size ≤ A2 := by have := hBw2.out.size; omega
  with_reducible refine (hCs.out 0 _ _ _ w8 hBw8.out rfl hOo).mono ?_
  rintro e w9 ⟨u0, rfl, hb9⟩
  have hBw9 := Lib.hid (hBw8.out.trans (hb9.mono hBw8.out.size))
  have hO1n := Lib.hid (ownsRow_below hOo hb9 (ownsRow_lt hOo).2)
  have hOb9 : Hid (w9.ownsRow A2 2 1 (.slice (some ⟨g2, 0, none⟩) n c2) n ((rowAt n 0).map (Value.int .i64))) := Lib.hid (by rw [rowAt_some rfl, ← cellsF_listF]; exact ownsRow_below hOb.out hb9 (ownsRow_lt hOb.out).2)
  have hs9 : A2 ≤ w9.heap.size := Nat.le_trans hs8 hb9.size
  clear hBw2 hO1 hB1 hO8 hG8 hBw8 hOo hOb hb9 hO9 hA2 hg1 hCn
  go_wp2_with fail
  go_loopw [8, 10] (fun bv lv wr => ∃ (k b g c : Nat) (f : Nat → Int), itF n k = some f ∧ leastG cs (List.range (k + 1)) = some b ∧ bv = .slice (some ⟨g, 0, none⟩) n c ∧ lv = .int .i64 (cs b) ∧ Hid (wr.ownsRow w.heap.size 2 1 (.slice (some ⟨g1, 0, none⟩) n c1) n (cellsF n f)) ∧ Hid (wr.ownsRow A2 2 1 (.slice (some ⟨g, 0, none⟩) n c) n ((rowAt n b).map (Value.int .i64))) ∧ Hid (Below w.heap.size w wr) ∧ A2 ≤ wr.heap.size) (fun _ _ wr => permLack n g1 wr)
  case atStart => exact ⟨0, 0, g2, c2, _, rfl, hL1.out, rfl, rfl, hO1n, hOb9, hBw9, hs9⟩
  case round =>
    clear hO1n hOb9 hBw9 hs9
    obtain ⟨k, b, g, c, f, hit, hle, rfl, rfl, hO, hOb, hBw, hsz⟩ := hrel
    have hord := Lib.hid (itF_ord hn1 hit)
    have hItn : Hid (itF n (k + 1) = nextF n f) := Lib.hid (itF_next hit)
    have hIts : Hid ((itF n k).isSome = true) := Lib.hid (by rw [hit]; rfl)
    have hLk := Lib.hid (permLack_at hO.out)
    have hVl := Lib.hid (fun h (hh : nextF n f = some h) => nextF_grow hn1 hord.out hh)
    have hVb := Lib.hid (fun h (hh : nextF n f = some h) => ordF_val (nextF_ord hn1 hord.out hh))
    have hLe := Lib.hid hle
    have hNT := Lib.hid (hNx.out w.heap.size g1 c1 f wr hord.out hO.out)
    have hg1w := Lib.hid (hO.out.lt _ rfl).1
    have hgA := Lib.hid (hOb.out.lt _ rfl)
    clear hit hle
    go_wp2_with (go_at_call 21; (with_reducible refine (hNT.out).mono ?_); rintro e' w5 (⟨hn5, rfl, hr5⟩ | ⟨h5, hn5, rfl, hr5⟩); all_goals (have hR5 := Lib.hid hr5; have hN5 := Lib.hid hn5; clear hr5 hn5 hNT))
    · have hX := Lib.hid (hPo.out (k + 1) b g c w5 (itF_total hIts.out (by rw [hItn.out]; exact hN5.out)) hLe.out (ownsRow_mono (hOb.out.kept hR5.out.kept (.inr (by simp [Value.ownBlock]; have := hgA.out; omega))) hwA) (hBw.out.trans ((Below.refl w.heap.size wr).grown hR5.out.kept (by omega) (fun q e => by cases e; exact hg1w.out))))
      go_ret3
      exact hX.out
    · have hB5 := Lib.hid (hBw.out.trans ((Below.refl w.heap.size wr).grown hR5.out.kept (by omega) (fun q e => by cases e; exact hg1w.out)))
      have hit5 := Lib.hid (show itF n (k + 1) = some h5 by rw [hItn.out]; exact hN5.out)
      have hOb5 := Lib.hid (hOb.out.kept hR5.out.kept (.inr (by simp [Value.ownBlock]; have := hgA.out; omega)))
      have hs5 : A2 ≤ w5.heap.size := Nat.le_trans hsz hR5.out.kept.size
      have hlk5 : Hid (∀ W : World, W.ownsRow w.heap.size 2 1 (.slice (some ⟨g1, 0, none⟩) n c1) n (cellsF n h5) → permLack n g1 W < permLack n g1 wr) := Lib.hid fun W ho => by
        rw [hLk.out, permLack_at ho]
        have q1 := hVl.out h5 hN5.out
        have q2 := hVb.out h5 hN5.out
        omega
      with_reducible refine (hCs.out (k + 1) _ h5 _ w5 hB5.out hit5.out hR5.out.own).mono ?_
      rintro e w6 ⟨u6, rfl, hb6⟩
      have hB6 := Lib.hid (hB5.out.trans (hb6.mono hB5.out.size))
      have hO6 := Lib.hid (ownsRow_below hR5.out.own hb6 (ownsRow_lt hR5.out.own).2)
      have hOb6 := Lib.hid (ownsRow_below hOb5.out hb6 (ownsRow_lt hOb5.out).2)
      have hs6 : A2 ≤ w6.heap.size := Nat.le_trans hs5 hb6.size
      have hLx := hLn.out (k + 1) b hLe.out
      clear hb6 hB5 hOb5 hOb hO hBw hVl hVb hLk hIts hItn hR5 hs5
      by_cases hlt : cs (k + 1) < cs b
      · rw [if_pos hlt] at hLx
        have hLh := Lib.hid hLx
        clear hLx
        go_wp2_with (at_builtin; refine wpList_append_own _ rfl _ _ _ rfl A2 2 i0 (.int .i64 0) 1 8 Try.underlying24 hi hz0 hz1 hz2 rfl (by decide) _ 0 _ rfl (ownsRow_mono (World.ownsRow_lit w6 #[] 0 (Nat.le_refl _) (Nat.zero_le _) rfl) hs6) ⟨g1, 0, none⟩ n c1 (cellsF n h5) rfl (by rw [cellsF_length, Nat.mul_one]) (src_row hO6.out _) (one_cells n _) (by unfold maxLen; omega) (by omega) (by rw [World.size_alloc]; omega) ?_; intro v8 w8 hown8 hgrow8 hnil8; have hO8 := Lib.hid hown8; have hG8 := Lib.hid hgrow8; clear hown8 hgrow8 hnil8)
        have hO9 := hO8.out
        rw [Nat.zero_add, List.nil_append] at hO9
        obtain ⟨g3, c3, rfl, hg3⟩ := row_openG hO9 hn1
        have hO1x := Lib.hid ((hO6.out.alloc (Obj.cells #[] 2)).kept hG8.out (.inr (fun e => by (have e2 : some g1 = some w6.heap.size := e); injection e2 with e2; have := (ownsRow_lt hO6.out).2; omega)))
        have hBx := Lib.hid ((hB6.out.alloc hB6.out.size (Obj.cells #[] 2)).grown hG8.out (by rw [World.size_alloc]; have := hB6.out.size; omega) (fun q e => by cases e; exact hB6.out.size))
        have hOx : Hid (w8.ownsRow A2 2 1 (.slice (some ⟨g3, 0, none⟩) n c3) n ((rowAt n (k + 1)).map (Value.int .i64))) := Lib.hid (by rw [rowAt_some hit5.out, ← cellsF_listF]; exact hO9)
        have hsx : A2 ≤ w8.heap.size := by have := hG8.out.size; rw [World.size_alloc] at this; omega
        clear hO9
        go_roundw
        case rel => exact ⟨k + 1, k + 1, g3, c3, h5, hit5.out, hLh.out, rfl, rfl, hO1x, hOx, hBx, hsx⟩
        case measure => exact hlk5.out _ hO1x.out
      · rw [if_neg hlt] at hLx
        have hLh := Lib.hid hLx
        clear hLx
        go_wp2_with fail
        go_roundw
        case rel => exact ⟨k + 1, b, g, c, h5, hit5.out, hLh.out, rfl, rfl, hO6, hOb6, hB6, hs6⟩
        case measure => exact hlk5.out _ hO6.out
end Go.Proofs.Ytnkbnkiaokkjhaa
