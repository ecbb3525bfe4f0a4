/- Contracts: the bound of an open shop. -/
import Derived.Test.YtfigojmdklaljabBoundImpl
import Derived.Test.YtfigojmdklaljabBoundSpec
namespace Go.Proofs.Ytfigojmdklaljab
open Go.RowKit Go.Lst

def openRes (ts : List Int) (M : Int) : Int := if canShop ts M then loadB ts (sameWay M.toNat ts.length) M.toNat (ts.length / M.toNat) else 0
theorem openRes_yes {ts : List Int} {m n : Nat} (h : canShop ts m = true) (hd : ts.length / m = n) : openRes ts m = loadB ts (sameWay m ts.length) m n := by
  unfold openRes; rw [h, if_pos rfl, Int.toNat_natCast, hd]
set_option maxHeartbeats 4000000 in
set_option maxRecDepth 100000 in
theorem implOpenBound_any (B : Nat) (v1 : Value) (ts : List Int) (M : Int) (w : World) (h1 : LstI B w v1 ts) (hB : B ≤ w.heap.size) :
    Calls Try.prog 17 #[v1, .int .i64 M] w (NumPost (openRes ts M) (canShop ts M) w) := by
  rcases (show canShop ts M = false ∨ canShop ts M = true by cases canShop ts M <;> simp) with hq | hq
  · have hP : Hid (∀ w', Below w.heap.size w w' → (NumPost (openRes ts M) (canShop ts M) w) (.returned (.tuple #[.int .i64 0, .bool false])) w') := Lib.hid fun w' hb => num_no (by unfold openRes; rw [hq]; rfl) hq hb
    have hS := Lib.hid (shopOf_no B v1 ts M w h1 hB hq)
    generalize NumPost (openRes ts M) (canShop ts M) w = Q at *
    clear h1 hq
    go_enter Try.func17, Try.ntmps17
    go_wp2_with fail
    with_reducible refine (hS.out).mono ?_
    rintro e w5 ⟨rfl, hb5⟩
    have hB5 := Lib.hid hb5
    clear hb5
    go_wp2_with fail
    exact hP.out _ (hB5.out.alloc hB5.out.size _)
  · obtain ⟨m, n, rfl, hm1, hm8, hn1, hn24, hlen, ht⟩ := canShop_of hq
    have hL1 : 1 ≤ ts.length := by rw [hlen]; exact Nat.mul_pos hn1 hm1
    obtain ⟨a1, cap1, rfl, _⟩ := id h1
    obtain ⟨b1, o1, rfl, _⟩ := lstI_block h1 (by omega)
    rw [hlen] at h1 ⊢
    have hS := Lib.hid (shopOf_yes B b1 o1 cap1 m n ts w h1 hB hm1 hm8 hn1 hn24 hq)
    have hd : ts.length / m = n := by rw [hlen]; exact Nat.mul_div_cancel n (by omega)
    have hE : Hid (∀ (w5 w7 : World) (s : Value), Shop w5.heap.size w5 s ts (sameWay m ts.length) m n → Below w5.heap.size w5 w7 → Calls Try.prog 46 #[s] w7 fun e w' => e = .returned (.int .i64 (openRes ts m)) ∧ Below w7.heap.size w7 w') := Lib.hid fun w5 w7 s hS5 hb7 => by
      rw [openRes_yes hq hd]
      exact loadBound_any w5.heap.size s ts _ m n w7 (hS5.below hb7 (Nat.le_refl _)) hb7.size hm1 hm8 hn1 hn24 hlen ht (sameWay_on hm1)
    have hP : Hid (∀ w', Below w.heap.size w w' → NumPost (openRes ts m) (canShop ts m) w (.returned (.tuple #[.int .i64 (openRes ts m), .bool true])) w') := Lib.hid fun w' hb => num_yes rfl hq hb
    generalize NumPost (openRes ts m) (canShop ts m) w = Q at *
    clear h1 hq hlen hd
    go_enter Try.func17, Try.ntmps17
    go_wp2_with fail
    with_reducible refine (hS.out).mono ?_
    rintro e w5 ⟨s, rfl, hs5, hb5⟩
    have hS5 := Lib.hid hs5
    have hB5 := Lib.hid hb5
    obtain ⟨b', o', cap', vr, vt, rfl, ht5, hr', ht'⟩ := hs5
    have hT5 := Lib.hid ht5
    have hR5 := Lib.hid hr'
    obtain ⟨ar, cr, rfl, _⟩ := hr'
    obtain ⟨at', ct, rfl, _⟩ := ht'
    clear hb5 ht5
    generalize n * m = L at *
    go_wp2_with fail
    have hb6 := Lib.hid (below_alloc (Below.refl w5.heap.size w5) (.cells #[.int .i64 m, .slice (some ⟨b', o', none⟩) L cap', .slice ar n cr, .slice at' (sameWay m ts.length).length ct] 46))
    have hx6 := Lib.hid (Whole.made w5 46 #[.int .i64 m, .slice (some ⟨b', o', none⟩) L cap', .slice ar n cr, .slice at' (sameWay m ts.length).length ct] rfl)
    generalize openRes ts m = fe at *
    go_wp2_with fail
    with_reducible refine (hE.out w5 _ _ hS5.out hb6.out).mono ?_
    rintro e w' ⟨rfl, hb8⟩
    have hR := Lib.hid (hP.out w' (below_on (hB5.out.trans (hb6.out.mono hB5.out.size)) (Nat.le_refl _) hb8))
    clear hb8
    go_wp2_with fail
    exact hR.out
set_option maxHeartbeats 2000000 in
theorem specOpenBound_any (B : Nat) (v1 : Value) (ts : List Int) (M : Int) (w : World) (h1 : LstI B w v1 ts) (hB : B ≤ w.heap.size) :
    Calls Try.prog 15 #[v1, .int .i64 M] w (NumPost (openRes ts M) (canShop ts M) w) := by
  have hC := Lib.hid (l04Can_any B v1 ts M w h1)
  cases hq : canShop ts M
  · have hP : NumPost (openRes ts M) false w (.returned (.tuple #[.int .i64 0, .bool false])) w := num_no (by unfold openRes; rw [hq]; rfl) rfl (Below.refl _ _)
    have hP := Lib.hid hP
    rw [hq] at hC
    generalize NumPost (openRes ts M) false w = Q at *
    clear h1 hq
    go_enter Try.func15, Try.ntmps15
    go_wp2_with (go_at_call 43; (with_reducible refine (hC.out).mono ?_); rintro e w' ⟨rfl, rfl⟩)
    first | exact hP.out | (go_ret2; exact hP.out)
  · obtain ⟨m, n, rfl, hm1, hm8, hn1, hn24, hlen, ht⟩ := canShop_of hq
    have hL1 : 1 ≤ ts.length := by rw [hlen]; exact Nat.mul_pos hn1 hm1
    have hd : ts.length / m = n := by rw [hlen]; exact Nat.mul_div_cancel n (by omega)
    rw [hq] at hC
    obtain ⟨a1, cap1, rfl, _⟩ := id h1
    obtain ⟨b1, o1, rfl, _⟩ := lstI_block h1 (by omega)
    rw [hlen] at h1 hC ⊢
    have hE : Hid (∀ w7, Below w.heap.size w w7 → Calls Try.prog 44 #[.slice (some ⟨b1, o1, none⟩) (n * m) cap1, .slice (some ⟨w.heap.size, 0, none⟩) 0 0, .int .i64 m] w7 fun e w' => e = .returned (.int .i64 (openRes ts m)) ∧ Below w7.heap.size w7 w') := Lib.hid fun w7 hb => by
      rw [openRes_yes hq hd]
      exact l04BoundE_any B b1 o1 cap1 ts m n w7 (h1.below hb hB) w.heap.size (Nat.le_trans hB hb.size) hm1 hm8 hn1 hn24 hlen ht
    have hP : Hid (∀ w', Below w.heap.size w w' → NumPost (openRes ts m) true w (.returned (.tuple #[.int .i64 (openRes ts m), .bool true])) w') := Lib.hid fun w' hb => num_yes rfl rfl hb
    generalize NumPost (openRes ts m) true w = Q at *
    generalize openRes ts m = fe at *
    clear h1 hq hlen hd
    generalize n * m = L at *
    go_enter Try.func15, Try.ntmps15
    go_wp2_with (go_at_call 43; (with_reducible refine (hC.out).mono ?_); rintro e w' ⟨rfl, rfl⟩)
    have hb6 := Lib.hid (below_alloc (Below.refl w.heap.size w) (.cells #[] 2))
    with_reducible refine (hE.out _ hb6.out).mono ?_
    rintro e w' ⟨rfl, hb8⟩
    have hR := Lib.hid (hP.out w' (below_on hb6.out (Nat.le_refl _) hb8))
    clear hb8
    go_wp2_with fail
    first | exact hR.out | (go_ret2; exact hR.out)
theorem openBound_both (ts : List Int) (M : Int) (_ : ∀ x ∈ ts, (Lit.int .i64 x).wf = true) (_ : (Lit.int .i64 M).wf = true) : ∃ (r0 : Int) (r1 : Bool),
    (∀ (B : Nat) (v1 : Value) (w : World), LstI B w v1 ts → B ≤ w.heap.size → Calls Try.prog 15 #[v1, .int .i64 M] w fun e w' => e = .returned (.tuple #[.int .i64 r0, .bool r1]) ∧ Below w.heap.size w w') ∧
    (∀ (B : Nat) (v1 : Value) (w : World), LstI B w v1 ts → B ≤ w.heap.size → Calls Try.prog 17 #[v1, .int .i64 M] w fun e w' => e = .returned (.tuple #[.int .i64 r0, .bool r1]) ∧ Below w.heap.size w w') :=
  ⟨openRes ts M, canShop ts M, fun B v1 w h1 hB => specOpenBound_any B v1 ts M w h1 hB, fun B v1 w h1 hB => implOpenBound_any B v1 ts M w h1 hB⟩
end Go.Proofs.Ytfigojmdklaljab
