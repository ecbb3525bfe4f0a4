/- Contracts: the shop of routes and times; the bound of a shop with routes. -/
import Derived.Test.YtfigojmdklaljabRoutes
import Derived.Test.YtfigojmdklaljabOpenPlan
import Derived.Test.YtfigojmdklaljabOpenBound
namespace Go.Proofs.Ytfigojmdklaljab
open Go.RowKit Go.Lst Go.Plan

def canRouted (rt ts : List Int) (M : Int) : Bool := canShop ts M && decide (rt.length = ts.length) && canRoutes rt M
theorem rowOf_get {rt : List Int} {m i k : Nat} (h : k < m) : (rowOf rt m i)[k]? = rt[i * m + k]? := by
  unfold rowOf
  rw [List.getElem?_take, if_pos h, List.getElem?_drop]
theorem routes_on {rt : List Int} {m n : Nat} (hm : 1 ≤ m) (hl : rt.length = n * m) (h : rowsOrd rt m n = true) : onMachines rt (n * m) m := ⟨hl, fun i x hx => by
  have hi : i < n * m := by rw [← hl]; exact (List.getElem?_eq_some_iff.1 hx).1
  have hd := Nat.div_add_mod i m
  have hlt := Nat.mod_lt i (show 0 < m by omega)
  have hj : i / m < n := (Nat.div_lt_iff_lt_mul (show 0 < m by omega)).2 hi
  have ho := List.all_eq_true.1 h (i / m) (List.mem_range.2 hj)
  rw [Nat.mul_comm] at hd
  have hg : (rowOf rt m (i / m))[i % m]? = some x := by rw [rowOf_get hlt, hd]; exact hx
  exact isOrd_get ho hg⟩
theorem canRouted_of {rt ts : List Int} {M : Int} (h : canRouted rt ts M = true) : ∃ m n : Nat, M = (m : Int) ∧ 1 ≤ m ∧ m ≤ 8 ∧ 1 ≤ n ∧ n ≤ 24 ∧ ts.length = n * m ∧ ts.length / m = n ∧ (∀ (i : Nat) (x : Int), ts[i]? = some x → 1 ≤ x ∧ x ≤ 10000) ∧ canShop ts M = true ∧ rt.length = ts.length ∧ canRoutes rt M = true ∧ onMachines rt ts.length m ∧ rowsOrd rt m n = true := by
  simp only [canRouted, Bool.and_eq_true, decide_eq_true_eq] at h
  obtain ⟨⟨h1, h2⟩, h3⟩ := h
  obtain ⟨m, n, hM, a, b, c, d, e, f⟩ := canShop_of h1
  have hd : ts.length / m = n := by rw [e]; exact Nat.mul_div_cancel n (by omega)
  have h4 : rowsOrd rt m n = true := by
    have h5 := h3
    unfold canRoutes at h5
    rw [hM, Int.toNat_natCast, h2, hd, Bool.and_eq_true] at h5
    exact h5.2
  exact ⟨m, n, hM, a, b, c, d, e, hd, f, h1, h2, h3, by rw [e]; exact routes_on a (by omega) h4, h4⟩

theorem LstK.to {k B B' n b o cap : Nat} {w w' : World} {cs : List Value} (h : LstK k B w (.slice (some ⟨b, o, none⟩) n cap) n cs) (hc : w'.heap[b]? = w.heap[b]?) (hb : b < B') : LstK k B' w' (.slice (some ⟨b, o, none⟩) n cap) n cs := by
  obtain ⟨a', cap', hv, hl, h1, h2, h3, h4⟩ := h
  injection hv with e1 e2 e3
  subst e1 e3
  refine ⟨_, _, rfl, hl, h1, h2, h3, fun hn => ?_⟩
  obtain ⟨b', o', he, _, hcell⟩ := h4 hn
  injection he with he; injection he with q1 q2 q3
  subst q1 q2
  exact ⟨_, _, rfl, hb, fun i u hu => (World.cell?_of_block (w := w) (a := ⟨_, _, none⟩) hc).trans (hcell i u hu)⟩
/-- A box of zeros is no list of times, and no list of rows. -/
theorem box_times {w : World} {g b o t : Nat} {x : Int} (h : Whole w g t #[.int .i64 0, .slice none 0 0, .slice none 0 0, .slice none 0 0]) (hc : w.cell? ⟨b, o, none⟩ = some (.int .i64 x)) (hx : 1 ≤ x) : b ≠ g := fun he => by
  subst he
  have h2 : w.cell? ⟨b, o, none⟩ = (#[.int .i64 0, .slice none 0 0, .slice none 0 0, .slice none 0 0] : Array Value)[o]? := cell_of_row w b o _ t (0, 0) h
  rw [hc] at h2
  match o, h2 with
  | 0, h2 => simp at h2; omega
  | 1, h2 => simp at h2
  | 2, h2 => simp at h2
  | 3, h2 => simp at h2
  | o + 4, h2 => simp at h2
theorem box_rows {w : World} {g b o t b' o' n c : Nat} (h : Whole w g t #[.int .i64 0, .slice none 0 0, .slice none 0 0, .slice none 0 0]) (hc : w.cell? ⟨b, o, none⟩ = some (.slice (some ⟨b', o', none⟩) n c)) : b ≠ g := fun he => by
  subst he
  have h2 : w.cell? ⟨b, o, none⟩ = (#[.int .i64 0, .slice none 0 0, .slice none 0 0, .slice none 0 0] : Array Value)[o]? := cell_of_row w b o _ t (0, 0) h
  rw [hc] at h2
  match o, h2 with
  | 0, h2 => simp at h2
  | 1, h2 => simp at h2
  | 2, h2 => simp at h2
  | 3, h2 => simp at h2
  | o + 4, h2 => simp at h2
set_option maxHeartbeats 4000000 in
set_option maxRecDepth 100000 in
theorem routedShop_no (B : Nat) (v0 v1 : Value) (rt ts : List Int) (M : Int) (w : World) (h0 : LstI B w v0 rt) (h1 : LstI B w v1 ts) (hB : B ≤ w.heap.size) (hwf : ∀ x ∈ rt, (Lit.int .i64 x).wf = true) (hq : canRouted rt ts M = false) :
    Calls Try.prog 58 #[v0, v1, .int .i64 M] w fun e w' => e = .returned (.tuple #[.agg #[.int .i64 0, .slice none 0 0, .slice none 0 0, .slice none 0 0], .bool false]) ∧ Below w.heap.size w w' := by
  rcases (show canShop ts M = false ∨ canShop ts M = true by cases canShop ts M <;> simp) with hc | hc
  · have hS := Lib.hid (fun (w1 : World) (hb : Below w.heap.size w w1) => shopOf_no B v1 ts M w1 (h1.below hb hB) (Nat.le_trans hB hb.size) hc)
    clear h0 h1 hq hc
    go_enter Try.func58, Try.ntmps58
    go_wp2_with fail
    have hb1 := Lib.hid (below_alloc (Below.refl w.heap.size w) (.cells #[.int .i64 0, .slice none 0 0, .slice none 0 0, .slice none 0 0] 46))
    have hw1 := Lib.hid (Whole.made w 46 #[.int .i64 0, .slice none 0 0, .slice none 0 0, .slice none 0 0] rfl)
    generalize w.alloc _ = w1 at *
    with_reducible refine (hS.out w1 hb1.out).mono ?_
    rintro e w5 ⟨rfl, hb5⟩
    have hx5 := Lib.hid ((hw1.out.kept hb5).more (.cells #[.int .i64 0, .slice none 0 0, .slice none 0 0, .slice none 0 0] 46))
    have hb6 := Lib.hid ((below_on hb1.out (Nat.le_refl _) hb5).alloc (Nat.le_trans hb1.out.size hb5.size) (.cells #[.int .i64 0, .slice none 0 0, .slice none 0 0, .slice none 0 0] 46))
    clear hb5
    generalize hg : w.heap.size = g at *
    have hG := Lib.hid hg
    clear hg
    have c0 := hx5.out.at_ (i := 0) rfl
    have c1 := hx5.out.at_ (i := 1) rfl
    have c2 := hx5.out.at_ (i := 2) rfl
    have c3 := hx5.out.at_ (i := 3) rfl
    have f0 := hx5.out.free 0
    have f1 := hx5.out.free 1
    have f2 := hx5.out.free 2
    have f3 := hx5.out.free 3
    go_wp2_with fail
    have hb9 := Lib.hid (shop_below hb6.out (.int .i64 0) (.slice none 0 0) (.slice none 0 0) (.slice none 0 0))
    obtain ⟨d0, d1, d2, d3⟩ := shop_cells hx5.out rfl (.int .i64 0) (.slice none 0 0) (.slice none 0 0) (.slice none 0 0)
    clear c0 c1 c2 c3 f0 f1 f2 f3
    generalize World.setCell _ _ _ = w9 at *
    exact bodyPost_ret (v := .tuple #[.agg #[.int .i64 0, .slice none 0 0, .slice none 0 0, .slice none 0 0], .bool false]) (by simp [results, Try.results58, go_sem, d0, d1, d2, d3]) rfl ⟨rfl, by rw [hG.out]; exact hb9.out⟩
  · obtain ⟨m, n, rfl, hm1, hm8, hn1, hn24, hlen, ht⟩ := canShop_of hc
    have hL1 : 1 ≤ ts.length := by rw [hlen]; exact Nat.mul_pos hn1 hm1
    obtain ⟨a1, cap1, rfl, -⟩ := id h1
    obtain ⟨b1, o1, rfl, -⟩ := lstI_block h1 (by omega)
    obtain ⟨a0, cap0, rfl, hl0, -⟩ := h0.at_
    rw [hlen] at h1 ⊢
    have hS := Lib.hid (fun (w1 : World) (hb : Below w.heap.size w w1) => shopOf_yes B b1 o1 cap1 m n ts w1 (h1.below hb hB) (Nat.le_trans hB hb.size) hm1 hm8 hn1 hn24 hc)
    have hSl := Lib.hid (show (sameWay m ts.length).length = n * m by rw [sameWay_length, hlen])
    by_cases he : rt.length = n * m
    · have hr : canRoutes rt m = false := by
        simp only [canRouted, Bool.and_eq_false_iff, decide_eq_false_iff_not] at hq
        rcases hq with (hq | hq) | hq
        · rw [hc] at hq; cases hq
        · exact absurd (he.trans hlen.symm) hq
        · exact hq
      have hA := Lib.hid (fun (w6 : World) (hb : Below w.heap.size w w6) => implAreRoutes_any B _ rt m w6 (h0.below hb hB) (Nat.le_trans hB hb.size) hwf)
      rw [hr] at hA
      rw [he] at hA hl0 ⊢
      clear h0 h1 hq hc hlen ht he hr
      generalize hLL : n * m = L at *
      have hLL2 := Lib.hid hLL
      clear hLL
      unfold maxLen at hl0
      go_enter Try.func58, Try.ntmps58
      go_wp2_with fail
      have hb1 := Lib.hid (below_alloc (Below.refl w.heap.size w) (.cells #[.int .i64 0, .slice none 0 0, .slice none 0 0, .slice none 0 0] 46))
      have hw1 := Lib.hid (Whole.made w 46 #[.int .i64 0, .slice none 0 0, .slice none 0 0, .slice none 0 0] rfl)
      generalize w.alloc _ = w1 at *
      with_reducible refine (hS.out w1 hb1.out).mono ?_
      rintro e w5 ⟨s, rfl, hs5, hb5⟩
      have hS5 := Lib.hid hs5
      obtain ⟨b', o', cap', vr, vt, rfl, ht5, hr5, hm5⟩ := hs5
      have hT5 := Lib.hid ht5
      have hR5 := Lib.hid hr5
      obtain ⟨ar, cr, rfl, -⟩ := hr5
      obtain ⟨at', ct, rfl, -⟩ := hm5
      clear ht5
      rw [hSl.out] at *
      rw [hLL2.out] at hT5 ⊢
      have hb6 := Lib.hid ((below_on hb1.out (Nat.le_refl _) hb5).alloc (Nat.le_trans hb1.out.size hb5.size) (.cells #[.int .i64 m, .slice (some ⟨b', o', none⟩) L cap', .slice ar n cr, .slice at' L ct] 46))
      have hx6 := Lib.hid ((hw1.out.kept hb5).more (.cells #[.int .i64 m, .slice (some ⟨b', o', none⟩) L cap', .slice ar n cr, .slice at' L ct] 46))
      clear hb5
      go_wp2_with fail
      with_reducible refine (hA.out _ hb6.out).mono ?_
      rintro e w7 ⟨rfl, hb7⟩
      have hx7 := Lib.hid (hx6.out.kept hb7)
      have hb8 := Lib.hid (below_on hb6.out (Nat.le_refl _) hb7)
      clear hb7
      generalize hg : w.heap.size = g at *
      have hG := Lib.hid hg
      clear hg
      have c0 := hx7.out.at_ (i := 0) rfl
      have c1 := hx7.out.at_ (i := 1) rfl
      have c2 := hx7.out.at_ (i := 2) rfl
      have c3 := hx7.out.at_ (i := 3) rfl
      have f0 := hx7.out.free 0
      have f1 := hx7.out.free 1
      have f2 := hx7.out.free 2
      have f3 := hx7.out.free 3
      go_wp2_with fail
      have hb9 := Lib.hid (shop_below hb8.out (.int .i64 0) (.slice none 0 0) (.slice none 0 0) (.slice none 0 0))
      obtain ⟨d0, d1, d2, d3⟩ := shop_cells hx7.out rfl (.int .i64 0) (.slice none 0 0) (.slice none 0 0) (.slice none 0 0)
      clear c0 c1 c2 c3 f0 f1 f2 f3
      generalize World.setCell _ _ _ = w9 at *
      exact bodyPost_ret (v := .tuple #[.agg #[.int .i64 0, .slice none 0 0, .slice none 0 0, .slice none 0 0], .bool false]) (by simp [results, Try.results58, go_sem, d0, d1, d2, d3]) rfl ⟨rfl, by rw [hG.out]; exact hb9.out⟩
    · have hb : ((rt.length : Int) != ((n * m : Nat) : Int)) = true := by rw [bne_iff_ne]; omega
      have hb2 : (rt.length != n * m) = true := by rw [bne_iff_ne]; exact he
      clear h0 h1 hq hc hlen ht he
      generalize hLL : n * m = L at *
      have hLL2 := Lib.hid hLL
      clear hLL
      generalize rt.length = l0 at *
      unfold maxLen at hl0
      go_enter Try.func58, Try.ntmps58
      go_wp2_with fail
      have hb1 := Lib.hid (below_alloc (Below.refl w.heap.size w) (.cells #[.int .i64 0, .slice none 0 0, .slice none 0 0, .slice none 0 0] 46))
      have hw1 := Lib.hid (Whole.made w 46 #[.int .i64 0, .slice none 0 0, .slice none 0 0, .slice none 0 0] rfl)
      generalize w.alloc _ = w1 at *
      with_reducible refine (hS.out w1 hb1.out).mono ?_
      rintro e w5 ⟨s, rfl, hs5, hb5⟩
      have hS5 := Lib.hid hs5
      obtain ⟨b', o', cap', vr, vt, rfl, ht5, hr5, hm5⟩ := hs5
      have hT5 := Lib.hid ht5
      have hR5 := Lib.hid hr5
      obtain ⟨ar, cr, rfl, -⟩ := hr5
      obtain ⟨at', ct, rfl, -⟩ := hm5
      clear ht5
      rw [hSl.out] at *
      rw [hLL2.out] at hT5 ⊢
      have hb6 := Lib.hid ((below_on hb1.out (Nat.le_refl _) hb5).alloc (Nat.le_trans hb1.out.size hb5.size) (.cells #[.int .i64 m, .slice (some ⟨b', o', none⟩) L cap', .slice ar n cr, .slice at' L ct] 46))
      have hx6 := Lib.hid ((hw1.out.kept hb5).more (.cells #[.int .i64 m, .slice (some ⟨b', o', none⟩) L cap', .slice ar n cr, .slice at' L ct] 46))
      clear hb5
      generalize hg : w.heap.size = g at *
      have hG := Lib.hid hg
      clear hg
      have c0 := hx6.out.at_ (i := 0) rfl
      have c1 := hx6.out.at_ (i := 1) rfl
      have c2 := hx6.out.at_ (i := 2) rfl
      have c3 := hx6.out.at_ (i := 3) rfl
      have f0 := hx6.out.free 0
      have f1 := hx6.out.free 1
      have f2 := hx6.out.free 2
      have f3 := hx6.out.free 3
      go_wp2_with fail
      have hb9 := Lib.hid (shop_below hb6.out (.int .i64 0) (.slice none 0 0) (.slice none 0 0) (.slice none 0 0))
      obtain ⟨d0, d1, d2, d3⟩ := shop_cells hx6.out rfl (.int .i64 0) (.slice none 0 0) (.slice none 0 0) (.slice none 0 0)
      clear c0 c1 c2 c3 f0 f1 f2 f3
      generalize World.setCell _ _ _ = w9 at *
      exact bodyPost_ret (v := .tuple #[.agg #[.int .i64 0, .slice none 0 0, .slice none 0 0, .slice none 0 0], .bool false]) (by simp [results, Try.results58, go_sem, d0, d1, d2, d3]) rfl ⟨rfl, by rw [hG.out]; exact hb9.out⟩
set_option maxHeartbeats 8000000 in
set_option maxRecDepth 100000 in
theorem routedShop_yes (B b0 o0 cap0 b1 o1 cap1 m n : Nat) (rt ts : List Int) (w : World) (h0 : LstI B w (.slice (some ⟨b0, o0, none⟩) (n * m) cap0) rt) (h1 : LstI B w (.slice (some ⟨b1, o1, none⟩) (n * m) cap1) ts) (hB : B ≤ w.heap.size) (hm1 : 1 ≤ m) (hm8 : m ≤ 8) (hn1 : 1 ≤ n) (hn24 : n ≤ 24)
    (hlen : ts.length = n * m) (hc : canShop ts m = true) (hr : canRoutes rt m = true) (hwf : ∀ x ∈ rt, (Lit.int .i64 x).wf = true) :
    Calls Try.prog 58 #[.slice (some ⟨b0, o0, none⟩) (n * m) cap0, .slice (some ⟨b1, o1, none⟩) (n * m) cap1, .int .i64 m] w fun e w' => ∃ s, e = .returned (.tuple #[s, .bool true]) ∧ Shop w'.heap.size w' s ts rt m n ∧ Below w.heap.size w w' := by
  have hS := Lib.hid (fun (w1 : World) (hb : Below w.heap.size w w1) => shopOf_yes B b1 o1 cap1 m n ts w1 (h1.below hb hB) (Nat.le_trans hB hb.size) hm1 hm8 hn1 hn24 hc)
  have hSl := Lib.hid (show (sameWay m ts.length).length = n * m by rw [sameWay_length, hlen])
  have hA := Lib.hid (fun (w6 : World) (hb : Below w.heap.size w w6) => implAreRoutes_any B _ rt m w6 (h0.below hb hB) (Nat.le_trans hB hb.size) hwf)
  rw [hr] at hA
  have hF : Hid (∀ (w9 : World) (b' o' cap' : Nat) (vr : Value), Below w.heap.size w w9 → LstI w9.heap.size w9 (.slice (some ⟨b', o', none⟩) (n * m) cap') ts → LstK 1 w9.heap.size w9 vr n (rowsL b' o' m n) → Shop w9.heap.size w9 (.agg #[.int .i64 m, .slice (some ⟨b', o', none⟩) (n * m) cap', vr, .slice (some ⟨b0, o0, none⟩) (n * m) cap0]) ts rt m n) := Lib.hid fun w9 b' o' cap' vr hb a b =>
    ⟨b', o', cap', vr, _, rfl, a, b, (h0.below hb hB).mono (Nat.le_trans hB hb.size)⟩
  have hL := mul_le24 hn24 hm8
  have hL1 : 1 ≤ ts.length := by rw [hlen]; exact Nat.mul_pos hn1 hm1
  have hT1 : Hid (1 ≤ ts.getD 0 0) := Lib.hid (by
    obtain ⟨_, _, _, _, _, _, _, _, ht⟩ := canShop_of hc
    exact (ht 0 _ (getD_get (by omega))).1)
  have hlen2 := Lib.hid hlen
  clear h0 h1 hc hr hlen
  generalize hLL : n * m = L at *
  have hLL2 := Lib.hid hLL
  clear hLL
  go_enter Try.func58, Try.ntmps58
  go_wp2_with fail
  have hb1 := Lib.hid (below_alloc (Below.refl w.heap.size w) (.cells #[.int .i64 0, .slice none 0 0, .slice none 0 0, .slice none 0 0] 46))
  have hw1 := Lib.hid (Whole.made w 46 #[.int .i64 0, .slice none 0 0, .slice none 0 0, .slice none 0 0] rfl)
  generalize w.alloc _ = w1 at *
  with_reducible refine (hS.out w1 hb1.out).mono ?_
  rintro e w5 ⟨s, rfl, hs5, hb5⟩
  have hS5 := Lib.hid hs5
  obtain ⟨b', o', cap', vr, vt, rfl, ht5, hr5, hm5⟩ := hs5
  have hT5 := Lib.hid ht5
  have hR5 := Lib.hid hr5
  obtain ⟨ar, cr, rfl, -⟩ := hr5
  obtain ⟨at', ct, rfl, -⟩ := hm5
  clear ht5
  rw [hSl.out] at *
  rw [hLL2.out] at hT5 ⊢
  have hne := Lib.hid (show b' ≠ w.heap.size by
    obtain ⟨_, _, hv1, _, _, _, hcc⟩ := hT5.out.at_
    injection hv1 with e1 e2 e3
    subst e1
    obtain ⟨b, o, x, hh, hbl, hx, hce⟩ := hcc 0 (by omega)
    injection hh with hh; injection hh with q1 q2 q3
    subst q1 q2
    exact box_times (hw1.out.kept hb5) hce (by have := hT1.out; rw [getD_of hx] at this; exact this))
  have hbs := Lib.hid (show b' < w5.heap.size by
    obtain ⟨_, _, hv1, _, _, _, hcc⟩ := hT5.out.at_
    injection hv1 with e1 e2 e3
    subst e1
    obtain ⟨b, o, x, hh, hbl, hx, hce⟩ := hcc 0 (by omega)
    injection hh with hh; injection hh with q1 q2 q3
    subst q1 q2
    exact hbl)
  obtain ⟨b3, o3, rfl, hb3, hrc⟩ : ∃ b3 o3, ar = some ⟨b3, o3, none⟩ ∧ b3 < w5.heap.size ∧ w5.cell? ⟨b3, o3, none⟩ = some (.slice (some ⟨b', o' + 0 * m, none⟩) m m) := by
    obtain ⟨_, _, hvr, _, _, _, _, hrr⟩ := hR5.out
    injection hvr with q1 q2 q3
    subst q1
    obtain ⟨b3, o3, ha, hb3, hrc⟩ := hrr (by omega)
    exact ⟨b3, o3, ha, hb3, hrc 0 _ (rowsL_get b' o' m n 0 (by omega))⟩
  have hne3 := Lib.hid (box_rows (hw1.out.kept hb5) hrc)
  clear hrc
  have hb6 := Lib.hid ((below_on hb1.out (Nat.le_refl _) hb5).alloc (Nat.le_trans hb1.out.size hb5.size) (.cells #[.int .i64 m, .slice (some ⟨b', o', none⟩) L cap', .slice (some ⟨b3, o3, none⟩) n cr, .slice at' L ct] 46))
  have hx6 := Lib.hid ((hw1.out.kept hb5).more (.cells #[.int .i64 m, .slice (some ⟨b', o', none⟩) L cap', .slice (some ⟨b3, o3, none⟩) n cr, .slice at' L ct] 46))
  have hy6 := Lib.hid (Whole.made w5 46 #[.int .i64 m, .slice (some ⟨b', o', none⟩) L cap', .slice (some ⟨b3, o3, none⟩) n cr, .slice at' L ct] rfl)
  have hgg := Lib.hid (Nat.lt_of_lt_of_le hw1.out.size hb5.size)
  clear hb5
  go_wp2_with fail
  with_reducible refine (hA.out _ hb6.out).mono ?_
  rintro e w7 ⟨rfl, hb7⟩
  have hx7 := Lib.hid (hx6.out.kept hb7)
  have hy7 := Lib.hid (hy6.out.kept hb7)
  have hb8 := Lib.hid (below_on hb6.out (Nat.le_refl _) hb7)
  have hz7 := Lib.hid (show Below w5.heap.size w5 w7 from below_on (below_alloc (Below.refl _ _) _) (Nat.le_refl _) hb7)
  clear hb7
  have c3 := hy7.out.at_ (i := 3) rfl
  have f3 := hy7.out.free 3
  have hy8 := hy7.out.put 3 (.slice (some ⟨b0, o0, none⟩) L cap0)
  have hx8 := hx7.out.apart (p := ⟨w5.heap.size, 3, none⟩) (by show w.heap.size ≠ w5.heap.size; have := hgg.out; omega) (.slice (some ⟨b0, o0, none⟩) L cap0)
  have hz8 := hz7.out.setCell (p := ⟨w5.heap.size, 3, none⟩) (Nat.le_refl _) (.slice (some ⟨b0, o0, none⟩) L cap0)
  have hw8 := hb8.out.setCell (p := ⟨w5.heap.size, 3, none⟩) (Nat.le_of_lt hgg.out) (.slice (some ⟨b0, o0, none⟩) L cap0)
  generalize hww : w7.setCell ⟨w5.heap.size, 3, none⟩ (.slice (some ⟨b0, o0, none⟩) L cap0) = w8 at *
  have d0 : w8.cell? ⟨w5.heap.size, 0, none⟩ = some (.int .i64 m) := hy8.at_ (i := 0) rfl
  have d1 : w8.cell? ⟨w5.heap.size, 1, none⟩ = some (.slice (some ⟨b', o', none⟩) L cap') := hy8.at_ (i := 1) rfl
  have d2 : w8.cell? ⟨w5.heap.size, 2, none⟩ = some (.slice (some ⟨b3, o3, none⟩) n cr) := hy8.at_ (i := 2) rfl
  have d3 : w8.cell? ⟨w5.heap.size, 3, none⟩ = some (.slice (some ⟨b0, o0, none⟩) L cap0) := hy8.at_ (i := 3) rfl
  have e0 := hx8.at_ (i := 0) rfl
  have e1 := hx8.at_ (i := 1) rfl
  have e2 := hx8.at_ (i := 2) rfl
  have e3 := hx8.at_ (i := 3) rfl
  have g0 := hx8.free 0
  have g1 := hx8.free 1
  have g2 := hx8.free 2
  have g3 := hx8.free 3
  have hb9 := Lib.hid (shop_below hw8 (.int .i64 m) (.slice (some ⟨b', o', none⟩) L cap') (.slice (some ⟨b3, o3, none⟩) n cr) (.slice (some ⟨b0, o0, none⟩) L cap0))
  obtain ⟨k0, k1, k2, k3⟩ := shop_cells hx8 rfl (.int .i64 m) (.slice (some ⟨b', o', none⟩) L cap') (.slice (some ⟨b3, o3, none⟩) n cr) (.slice (some ⟨b0, o0, none⟩) L cap0)
  have hap := Lib.hid (fun q (hq : q ≠ w.heap.size) => shop_apart w8 hq (.int .i64 m) (.slice (some ⟨b', o', none⟩) L cap') (.slice (some ⟨b3, o3, none⟩) n cr) (.slice (some ⟨b0, o0, none⟩) L cap0))
  have hSz := Lib.hid (show w8.heap.size ≤ ((((w8.setCell ⟨w.heap.size, 0, none⟩ (.int .i64 m)).setCell ⟨w.heap.size, 1, none⟩ (.slice (some ⟨b', o', none⟩) L cap')).setCell ⟨w.heap.size, 2, none⟩ (.slice (some ⟨b3, o3, none⟩) n cr)).setCell ⟨w.heap.size, 3, none⟩ (.slice (some ⟨b0, o0, none⟩) L cap0)).heap.size by simp [World.setCell])
  have hK8 := Lib.hid (And.intro hz8 hw8)
  clear hy8 hx8 hz8 hw8
  go_wp2_with fail
  clear c3 f3 d0 d1 d2 d3 e0 e1 e2 e3 g0 g1 g2 g3
  clear hww
  generalize ((((w8.setCell ⟨w.heap.size, 0, none⟩ (.int .i64 m)).setCell ⟨w.heap.size, 1, none⟩ (.slice (some ⟨b', o', none⟩) L cap')).setCell ⟨w.heap.size, 2, none⟩ (.slice (some ⟨b3, o3, none⟩) n cr)).setCell ⟨w.heap.size, 3, none⟩ (.slice (some ⟨b0, o0, none⟩) L cap0)) = w9 at *
  obtain ⟨hz8, hw8⟩ := hK8.out
  have hsz : w5.heap.size ≤ w9.heap.size := Nat.le_trans hz8.size hSz.out
  have hSh := Lib.hid (hF.out w9 b' o' cap' (.slice (some ⟨b3, o3, none⟩) n cr) hb9.out
    (LstK.to (B' := w9.heap.size) (show LstK 1 w5.heap.size w5 _ _ _ from by
      have h5 := hT5.out
      unfold LstI at h5
      rw [hlen2.out] at h5
      exact h5) ((hap.out b' hne.out).trans (hz8.block b' hbs.out)) (by have := hbs.out; omega) |> fun h => by unfold LstI; rw [hlen2.out]; exact h)
    (LstK.to hR5.out ((hap.out b3 hne3.out).trans (hz8.block b3 hb3)) (by omega)))
  exact bodyPost_ret (v := .tuple #[.agg #[.int .i64 m, .slice (some ⟨b', o', none⟩) L cap', .slice (some ⟨b3, o3, none⟩) n cr, .slice (some ⟨b0, o0, none⟩) L cap0], .bool true]) (by simp [results, Try.results58, go_sem, k0, k1, k2, k3]) rfl ⟨_, rfl, hSh.out, hb9.out⟩
set_option maxHeartbeats 2000000 in
theorem l04Shop_any (B : Nat) (v0 v1 : Value) (rt ts : List Int) (M : Int) (w : World) (h0 : LstI B w v0 rt) (h1 : LstI B w v1 ts) :
    Calls Try.prog 57 #[v0, v1, .int .i64 M] w (Ret (.bool (canRouted rt ts M)) w) := by
  have hR := Lib.hid (l04Routes_any B v0 rt M w h0)
  have hC := Lib.hid (fun nd => l04Can_any B v1 ts M (w.drewN nd) (h1.drewN nd))
  obtain ⟨a0, cap0, rfl, hl0, -⟩ := h0.at_
  obtain ⟨a1, cap1, rfl, hl1, -⟩ := h1.at_
  unfold canRouted
  clear h0 h1
  generalize canRoutes rt M = q at *
  generalize canShop ts M = p at *
  generalize rt.length = n at *
  generalize ts.length = l at *
  unfold maxLen at hl0 hl1
  cases q
  · rw [Bool.and_false]
    go_enter Try.func57, Try.ntmps57
    go_wp2_with fail
    with_reducible refine (hR.out).mono ?_
    rintro e w' ⟨nd, rfl, rfl⟩
    go_wp2_with fail
    go_ret
    exact Ret.later _ _ _
  · cases p
    · rw [Bool.false_and, Bool.false_and]
      go_enter Try.func57, Try.ntmps57
      go_wp2_with fail
      with_reducible refine (hR.out).mono ?_
      rintro e w' ⟨nd, rfl, rfl⟩
      go_wp2_with fail
      with_reducible refine (hC.out nd).mono ?_
      rintro e w' ⟨rfl, rfl⟩
      go_wp2_with fail
      go_ret
      exact Ret.later _ _ _
    · rw [Bool.true_and, Bool.and_true]
      by_cases he : n = l
      · subst he
        rw [decide_eq_true rfl]
        go_enter Try.func57, Try.ntmps57
        go_wp2_with fail
        with_reducible refine (hR.out).mono ?_
        rintro e w' ⟨nd, rfl, rfl⟩
        go_wp2_with fail
        with_reducible refine (hC.out nd).mono ?_
        rintro e w' ⟨rfl, rfl⟩
        go_wp2_with fail
        go_ret
        exact Ret.later _ _ _
      · rw [decide_eq_false he]
        have hb : ((l : Int) == (n : Int)) = false := by rw [beq_eq_false_iff_ne]; omega
        have hb2 : (l == n) = false := by rw [beq_eq_false_iff_ne]; omega
        have hb3 : ¬ l = n := by omega
        clear he
        go_enter Try.func57, Try.ntmps57
        go_wp2_with fail
        with_reducible refine (hR.out).mono ?_
        rintro e w' ⟨nd, rfl, rfl⟩
        go_wp2_with fail
        with_reducible refine (hC.out nd).mono ?_
        rintro e w' ⟨rfl, rfl⟩
        go_wp2_with fail
        go_ret
        exact Ret.later _ _ _
def shopRes (rt ts : List Int) (M : Int) : Int := if canRouted rt ts M then loadB ts rt M.toNat (ts.length / M.toNat) else 0
theorem shopRes_yes {rt ts : List Int} {m n : Nat} (h : canRouted rt ts m = true) (hd : ts.length / m = n) : shopRes rt ts m = loadB ts rt m n := by
  unfold shopRes; rw [h, if_pos rfl, Int.toNat_natCast, hd]
set_option maxHeartbeats 4000000 in
set_option maxRecDepth 100000 in
theorem implShopBound_any (B : Nat) (v0 v1 : Value) (rt ts : List Int) (M : Int) (w : World) (h0 : LstI B w v0 rt) (h1 : LstI B w v1 ts) (hB : B ≤ w.heap.size) (hwf : ∀ x ∈ rt, (Lit.int .i64 x).wf = true) :
    Calls Try.prog 24 #[v0, v1, .int .i64 M] w (NumPost (shopRes rt ts M) (canRouted rt ts M) w) := by
  rcases (show canRouted rt ts M = false ∨ canRouted rt ts M = true by cases canRouted rt ts M <;> simp) with hq | hq
  · have hP : Hid (∀ w', Below w.heap.size w w' → (NumPost (shopRes rt ts M) (canRouted rt ts M) w) (.returned (.tuple #[.int .i64 0, .bool false])) w') := Lib.hid fun w' hb => num_no (by unfold shopRes; rw [hq]; rfl) hq hb
    have hS := Lib.hid (routedShop_no B v0 v1 rt ts M w h0 h1 hB hwf hq)
    generalize NumPost (shopRes rt ts M) (canRouted rt ts M) w = Q at *
    clear h0 h1 hq
    go_enter Try.func24, Try.ntmps24
    go_wp2_with fail
    with_reducible refine (hS.out).mono ?_
    rintro e w5 ⟨rfl, hb5⟩
    have hB5 := Lib.hid hb5
    clear hb5
    go_wp2_with fail
    exact hP.out _ (hB5.out.alloc hB5.out.size _)
  · obtain ⟨m, n, rfl, hm1, hm8, hn1, hn24, hlen, hd, ht, hc, hl2, hr, hon, -⟩ := canRouted_of hq
    have hL1 : 1 ≤ ts.length := by rw [hlen]; exact Nat.mul_pos hn1 hm1
    obtain ⟨a1, cap1, rfl, -⟩ := id h1
    obtain ⟨b1, o1, rfl, -⟩ := lstI_block h1 (by omega)
    obtain ⟨a0, cap0, rfl, -⟩ := id h0
    obtain ⟨b0, o0, rfl, -⟩ := lstI_block h0 (by omega)
    rw [hl2] at h0 ⊢
    rw [hlen] at h0 h1 ⊢
    have hS := Lib.hid (routedShop_yes B b0 o0 cap0 b1 o1 cap1 m n rt ts w h0 h1 hB hm1 hm8 hn1 hn24 hlen hc hr hwf)
    have hE : Hid (∀ (w5 w7 : World) (s : Value), Shop w5.heap.size w5 s ts rt m n → Below w5.heap.size w5 w7 → Calls Try.prog 46 #[s] w7 fun e w' => e = .returned (.int .i64 (shopRes rt ts m)) ∧ Below w7.heap.size w7 w') := Lib.hid fun w5 w7 s hS5 hb7 => by
      rw [shopRes_yes hq hd]
      exact loadBound_any w5.heap.size s ts _ m n w7 (hS5.below hb7 (Nat.le_refl _)) hb7.size hm1 hm8 hn1 hn24 hlen ht hon
    have hP : Hid (∀ w', Below w.heap.size w w' → NumPost (shopRes rt ts m) (canRouted rt ts m) w (.returned (.tuple #[.int .i64 (shopRes rt ts m), .bool true])) w') := Lib.hid fun w' hb => num_yes rfl hq hb
    generalize NumPost (shopRes rt ts m) (canRouted rt ts m) w = Q at *
    generalize shopRes rt ts m = fe at *
    clear h0 h1 hq hlen hd hc hr hl2
    go_enter Try.func24, Try.ntmps24
    go_wp2_with fail
    with_reducible refine (hS.out).mono ?_
    rintro e w5 ⟨s, rfl, hs5, hb5⟩
    have hS5 := Lib.hid hs5
    have hB5 := Lib.hid hb5
    obtain ⟨b', o', cap', vr, vt, rfl, -, hr', ht'⟩ := hs5
    obtain ⟨ar, cr, rfl, -⟩ := hr'
    obtain ⟨at', ct, rfl, -⟩ := ht'
    clear hb5
    generalize n * m = L at *
    go_wp2_with fail
    with_reducible refine (hE.out w5 _ _ hS5.out (below_alloc (Below.refl _ _) _)).mono ?_
    rintro e w' ⟨rfl, hb8⟩
    have hR := Lib.hid (hP.out w' (below_on (hB5.out.alloc hB5.out.size _) (Nat.le_refl _) hb8))
    clear hb8
    go_wp2_with fail
    exact hR.out
set_option maxHeartbeats 2000000 in
theorem specShopBound_any (B : Nat) (v0 v1 : Value) (rt ts : List Int) (M : Int) (w : World) (h0 : LstI B w v0 rt) (h1 : LstI B w v1 ts) (hB : B ≤ w.heap.size) :
    Calls Try.prog 23 #[v0, v1, .int .i64 M] w (NumPost (shopRes rt ts M) (canRouted rt ts M) w) := by
  have hC := Lib.hid (l04Shop_any B v0 v1 rt ts M w h0 h1)
  rcases (show canRouted rt ts M = false ∨ canRouted rt ts M = true by cases canRouted rt ts M <;> simp) with hq | hq
  · have hP : Hid (∀ nd, (NumPost (shopRes rt ts M) (canRouted rt ts M) w) (.returned (.tuple #[.int .i64 0, .bool false])) (w.drewN nd)) := Lib.hid fun nd => num_no (by unfold shopRes; rw [hq]; rfl) hq (below_drawn w nd)
    rw [hq] at hC
    generalize NumPost (shopRes rt ts M) false w = Q at *
    generalize NumPost (shopRes rt ts M) (canRouted rt ts M) w = Q at *
    clear h0 h1 hq
    go_enter Try.func23, Try.ntmps23
    go_wp2_with fail
    with_reducible refine (hC.out).mono ?_
    rintro e w' ⟨nd, rfl, rfl⟩
    go_wp2_with fail
    first | exact hP.out _ | (go_ret2; exact hP.out _)
  · obtain ⟨m, n, rfl, hm1, hm8, hn1, hn24, hlen, hd, ht, hc, hl2, hr, hon, -⟩ := canRouted_of hq
    have hL1 : 1 ≤ ts.length := by rw [hlen]; exact Nat.mul_pos hn1 hm1
    rw [hq] at hC
    obtain ⟨a1, cap1, rfl, -⟩ := id h1
    obtain ⟨b1, o1, rfl, -⟩ := lstI_block h1 (by omega)
    rw [hlen] at h1 hC ⊢
    have hE : Hid (∀ nd, Calls Try.prog 44 #[.slice (some ⟨b1, o1, none⟩) (n * m) cap1, v0, .int .i64 m] (w.drewN nd) fun e w' => e = .returned (.int .i64 (shopRes rt ts m)) ∧ Below (w.drewN nd).heap.size (w.drewN nd) w') := Lib.hid fun nd => by
      rw [shopRes_yes hq hd]
      exact l04BoundR_any B b1 o1 cap1 ts m n (w.drewN nd) (h1.drewN nd) v0 rt (h0.drewN nd) hon hB hm1 hm8 hn1 hn24 hlen ht
    have hP : Hid (∀ w', Below w.heap.size w w' → NumPost (shopRes rt ts m) (canRouted rt ts m) w (.returned (.tuple #[.int .i64 (shopRes rt ts m), .bool true])) w') := Lib.hid fun w' hb => num_yes rfl hq hb
    generalize NumPost (shopRes rt ts m) (canRouted rt ts m) w = Q at *
    generalize shopRes rt ts m = fe at *
    clear h0 h1 hq hlen hd hc hr hl2
    generalize n * m = L at *
    go_enter Try.func23, Try.ntmps23
    go_wp2_with fail
    with_reducible refine (hC.out).mono ?_
    rintro e w' ⟨nd, rfl, rfl⟩
    go_wp2_with fail
    with_reducible refine (hE.out nd).mono ?_
    rintro e w' ⟨rfl, hb8⟩
    have hR := Lib.hid (hP.out w' ((below_drawn w nd).trans hb8))
    clear hb8
    go_wp2_with fail
    first | exact hR.out | (go_ret2; exact hR.out)
theorem shopBound_both (rt ts : List Int) (M : Int) (hw : ∀ x ∈ rt, (Lit.int .i64 x).wf = true) (_ : ∀ x ∈ ts, (Lit.int .i64 x).wf = true) (_ : (Lit.int .i64 M).wf = true) : ∃ (r0 : Int) (r1 : Bool),
    (∀ (B : Nat) (v0 v1 : Value) (w : World), LstI B w v0 rt → LstI B w v1 ts → B ≤ w.heap.size → Calls Try.prog 23 #[v0, v1, .int .i64 M] w fun e w' => e = .returned (.tuple #[.int .i64 r0, .bool r1]) ∧ Below w.heap.size w w') ∧
    (∀ (B : Nat) (v0 v1 : Value) (w : World), LstI B w v0 rt → LstI B w v1 ts → B ≤ w.heap.size → Calls Try.prog 24 #[v0, v1, .int .i64 M] w fun e w' => e = .returned (.tuple #[.int .i64 r0, .bool r1]) ∧ Below w.heap.size w w') :=
  ⟨shopRes rt ts M, canRouted rt ts M, fun B v0 v1 w h0 h1 hB => specShopBound_any B v0 v1 rt ts M w h0 h1 hB, fun B v0 v1 w h0 h1 hB => implShopBound_any B v0 v1 rt ts M w h0 h1 hB hw⟩
end Go.Proofs.Ytfigojmdklaljab
