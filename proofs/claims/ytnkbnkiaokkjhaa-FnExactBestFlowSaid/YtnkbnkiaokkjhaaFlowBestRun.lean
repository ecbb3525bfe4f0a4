/- The best order of jobs on machines: the program's walk. No condition. -/
import Derived.Test.YtnkbnkiaokkjhaaFlowBest
import Derived.Test.YtnkbnkiaokkjhaaFlowLeast
import Derived.Test.YtnkbnkiaokkjhaaFlowImpl
namespace Go.Proofs.Ytnkbnkiaokkjhaa
open Go.RowKit Go.Lst Go.Plan

set_option maxHeartbeats 4000000 in
theorem implFlow_no (B : Nat) (v : Value) (ts : List Int) (M : Int) (w : World) (h : LstI B w v ts) (hB : B ≤ w.heap.size) (hq : flowOk ts M = false) : Calls Try.prog 16 #[v, .int .i64 M] w fun e w' => e = .returned (.tuple #[.slice none 0 0, .int .i64 0, .bool false]) ∧ Below w.heap.size w w' := by
  cases hj : canShop ts M
  · have hS := Lib.hid (shopOf_no B v ts M w h hB hj)
    clear h hq hj
    go_enter Try.func16, Try.ntmps16
    go_wp2_with fail
    with_reducible refine (hS.out).mono ?_
    rintro e w5 ⟨rfl, hb5⟩
    have hB5 := Lib.hid hb5
    clear hb5
    go_wp2_with fail
    go_ret3
    exact ⟨rfl, hB5.out.alloc hB5.out.size _⟩
  · obtain ⟨m, n, rfl, hm1, hm8, hn1, hn24, hlen, ht⟩ := canShop_of hj
    have h7 : (7 : Int) < (n : Int) := by
      unfold flowOk at hq
      rw [hj, Bool.true_and, decide_eq_false_iff_not, Int.toNat_natCast, hlen, Nat.mul_div_cancel n (by omega)] at hq
      omega
    have hL1 : 1 ≤ ts.length := by rw [hlen]; exact Nat.mul_pos hn1 hm1
    obtain ⟨a1, cap1, rfl, _⟩ := id h
    obtain ⟨b1, o1, rfl, _⟩ := lstI_block h (by omega)
    rw [hlen] at h ⊢
    have hS := Lib.hid (shopOf_yes B b1 o1 cap1 m n ts w h hB hm1 hm8 hn1 hn24 hj)
    clear h hq hj ht hlen
    go_enter Try.func16, Try.ntmps16
    go_wp2_with fail
    with_reducible refine (hS.out).mono ?_
    rintro e w5 ⟨s, rfl, hs5, hb5⟩
    have hB5 := Lib.hid hb5
    obtain ⟨b', o', cap', vr, vt, rfl, _, hr', ht'⟩ := hs5
    obtain ⟨ar, cr, rfl, _⟩ := hr'
    obtain ⟨at', ct, rfl, _⟩ := ht'
    clear hb5
    generalize n * m = L at *
    go_wp2_with fail
    go_ret3
    exact ⟨rfl, hB5.out.alloc hB5.out.size _⟩
set_option maxHeartbeats 4000000 in
set_option maxRecDepth 100000 in
theorem implFlow_yes (B m n : Nat) (v : Value) (ts : List Int) (w : World) (h : LstI B w v ts) (hB : B ≤ w.heap.size) (hq : canShop ts m = true) (hm1 : 1 ≤ m) (hm8 : m ≤ 8) (hn1 : 1 ≤ n) (h6 : n ≤ 7) (hlen : ts.length = n * m) (ht : ∀ (i : Nat) (x : Int), ts[i]? = some x → 1 ≤ x ∧ x ≤ 10000) : Calls Try.prog 16 #[v, .int .i64 m] w (PermPost n (flowCost ts m n) w) := by
  have hPo : Hid (∀ T b g c w', TotalF n T → leastG (flowCost ts m n) (List.range T) = some b → w'.ownsRow w.heap.size 2 1 (.slice (some ⟨g, 0, none⟩) n c) n ((rowAt n b).map (Value.int .i64)) → Below w.heap.size w w' → PermPost n (flowCost ts m n) w (.returned (.tuple #[.slice (some ⟨g, 0, none⟩) n c, .int .i64 (flowCost ts m n b), .bool true])) w') := Lib.hid fun T b g c w' h1 h2 h3 h4 => ⟨T, b, g, c, h1, h2, rfl, h3, h4⟩
  generalize PermPost n (flowCost ts m n) w = Q at *
  have hL1 : 1 ≤ ts.length := by rw [hlen]; exact Nat.mul_pos hn1 hm1
  obtain ⟨a1, cap1, rfl, _⟩ := id h
  obtain ⟨b1, o1, rfl, _⟩ := lstI_block h (by omega)
  rw [hlen] at h ⊢
  have hS := Lib.hid (shopOf_yes B b1 o1 cap1 m n ts w h hB hm1 hm8 hn1 (by omega) hq)
  have hE : Hid (∀ (w5 W : World) (s : Value), Shop w5.heap.size w5 s ts (sameWay m ts.length) m n → Below w5.heap.size w5 W → ∀ (k A c g : Nat), W.ownsRow A 2 1 (.slice (some ⟨g, 0, none⟩) n c) n ((rowAt n k).map (Value.int .i64)) → Calls Try.prog 34 #[s, .slice (some ⟨g, 0, none⟩) n c] W fun e w' => e = .returned (.int .i64 (flowCost ts m n k)) ∧ Below W.heap.size W w') := Lib.hid fun w5 W s hS5 hb k A c g ho => by
    have hL : LstI W.heap.size W (.slice (some ⟨g, 0, none⟩) n c) (rowAt n k) := by
      have h2 : Lst.Own A W.heap.size W (.slice (some ⟨g, 0, none⟩) n c) 2 1 (rowAt n k).length ((rowAt n k).map (Value.int .i64)) := by rw [rowAt_length]; exact Lst.Own.new ho (by unfold maxLen; omega)
      exact h2.lstI (Nat.le_refl _)
    exact flowLast_any W.heap.size s _ ts _ (rowAt n k) m n W ((hS5.below hb (Nat.le_refl _)).mono hb.size) hL (Nat.le_refl _) hm1 hm8 hn1 (by omega) hlen ht (rowAt_ord hn1 k)
  have hOr := Lib.hid (fun w' => ordersOf_any n w' hn1 (by omega))
  have h6i : ¬ (7 : Int) < (n : Int) := by omega
  clear h hq ht hlen hL1
  go_enter Try.func16, Try.ntmps16
  go_wp2_with fail
  with_reducible refine (hS.out).mono ?_
  rintro e w5 ⟨s, rfl, hs5, hb5⟩
  have hF : Hid (∀ (b gF cF A : Nat) (W : World), Below w5.heap.size w5 W → W.cell? ⟨b, 0, none⟩ = some (.slice (some ⟨gF, 0, none⟩) n cF) → W.ownsRow A 2 1 (.slice (some ⟨gF, 0, none⟩) n cF) n (cellsF n fun q => (q : Int)) → Calls Try.prog 33 #[.func (.func 57) #[] #[.pointer (some ⟨b, 0, none⟩)], .func (.func 34) #[s] #[]] W (LeastPostM (flowCost ts m n) n W)) := Lib.hid fun b gF cF A W hb h1 h2 =>
    firstLeastP_any b gF cF n A s (flowCost ts m n) hn1 (by omega) W h1 h2 fun k A' c g W' hb' ho => hE.out w5 W' s hs5 (below_on hb (Nat.le_refl _) hb') k A' c g ho
  have hB5 := Lib.hid hb5
  obtain ⟨b', o', cap', vr, vt, rfl, ht5, hr', ht'⟩ := hs5
  obtain ⟨ar, cr, rfl, _⟩ := hr'
  obtain ⟨at', ct, rfl, _⟩ := ht'
  clear hb5 ht5 hE
  generalize n * m = L at *
  go_wp2_with fail
  have hb6 := Lib.hid (below_alloc (Below.refl w5.heap.size w5) (.cells #[.int .i64 m, .slice (some ⟨b', o', none⟩) L cap', .slice ar n cr, .slice at' (sameWay m ts.length).length ct] 62))
  have hx6 := Lib.hid (Whole.made w5 62 #[.int .i64 m, .slice (some ⟨b', o', none⟩) L cap', .slice ar n cr, .slice at' (sameWay m ts.length).length ct] rfl)
  have hs6 := Lib.hid (alloc_size w5 (.cells #[.int .i64 m, .slice (some ⟨b', o', none⟩) L cap', .slice ar n cr, .slice at' (sameWay m ts.length).length ct] 62))
  generalize w5.alloc (.cells #[.int .i64 m, .slice (some ⟨b', o', none⟩) L cap', .slice ar n cr, .slice at' (sameWay m ts.length).length ct] 62) = w6 at *
  generalize hgx : w5.heap.size = gx at *
  have hGX := Lib.hid hgx
  clear hgx
  generalize (sameWay m ts.length).length = sl at *
  generalize flowCost ts m n = cs at *
  have hq6 : gx ≤ w6.heap.size := by have := hs6.out; omega
  have hS0 : Hid (∀ w' : World, Below w6.heap.size w6 w' → (w'.cell? ⟨gx, 0, none⟩ = some (.int .i64 m) ∧ w'.cell? ⟨gx, 1, none⟩ = some (.slice (some ⟨b', o', none⟩) L cap') ∧ w'.cell? ⟨gx, 2, none⟩ = some (.slice ar n cr) ∧ w'.cell? ⟨gx, 3, none⟩ = some (.slice at' sl ct)) ∧ Below w6.heap.size w6 w') := Lib.hid fun w' hb => ⟨⟨(hx6.out.kept hb).at_ rfl, (hx6.out.kept hb).at_ rfl, (hx6.out.kept hb).at_ rfl, (hx6.out.kept hb).at_ rfl⟩, hb⟩
  go_region_held3 (fun w' => (w'.cell? ⟨gx, 0, none⟩ = some (.int .i64 m) ∧ w'.cell? ⟨gx, 1, none⟩ = some (.slice (some ⟨b', o', none⟩) L cap') ∧ w'.cell? ⟨gx, 2, none⟩ = some (.slice ar n cr) ∧ w'.cell? ⟨gx, 3, none⟩ = some (.slice at' sl ct)) ∧ Below w6.heap.size w6 w')
    ((first | exact hS0.out _ (Below.refl _ _) | exact hS0.out _ (Below.refl _ _).drew | exact hS0.out _ hB9.out | exact hS0.out _ hB9.out.drew | exact hS0.out _ hB7.out | exact hS0.out _ hB7.out.drew))
    ((first
      | (go_at_call 25; (with_reducible refine (hOr.out _).mono ?_); rintro e' W0 ⟨bq, gF, rfl, hbc, hFr, hb5⟩; (first | (have hB7 := Lib.hid (show Below w6.heap.size w6 W0 from Below.trans (Below.refl w6.heap.size w6).drew hb5)) | (have hB7 := Lib.hid (show Below w6.heap.size w6 W0 from Below.trans (Below.refl w6.heap.size w6).drew.drew hb5))); have hI7 := Lib.hid (And.intro hbc hFr); clear hbc hFr hb5)
      | (go_at_call 33; (first | (refine (hF.out _ _ _ _ _ (hb6.out.trans (hB7.out.mono hq6)) hI7.out.1 hI7.out.2).mono ?_) | (refine (hF.out _ _ _ _ _ (hb6.out.trans (hB7.out.drew.mono hq6)) hI7.out.1 hI7.out.2).mono ?_)); rintro e' W9 ⟨T, bb, g, c, hT, hlg, rfl, ho, hb⟩; (first | (have hB9 := Lib.hid (show Below w6.heap.size w6 W9 from hB7.out.trans (hb.mono hB7.out.size))) | (have hB9 := Lib.hid (show Below w6.heap.size w6 W9 from Below.trans hB7.out.drew (hb.mono hB7.out.size)))); have hR := Lib.hid (And.intro hT (And.intro hlg ho)); have hq9 : w.heap.size ≤ W0.heap.size := Nat.le_trans hB5.out.size (by have := hGX.out; have := hB7.out.size; omega); have hZ := Lib.hid (hB5.out.trans ((hb6.out.trans (hB9.out.mono hq6)).mono (by have := hGX.out; have := hB5.out.size; omega))); clear hT hlg ho hb)))
  all_goals (try go_wp2_with fail)
  all_goals go_ret3
  all_goals exact hPo.out T bb g c _ hR.out.1 hR.out.2.1 (ownsRow_mono hR.out.2.2 hq9) hZ.out
end Go.Proofs.Ytnkbnkiaokkjhaa
