/- Contracts: FlowEnds and FlowLast of the program. -/
import Derived.Test.YtfigojmdklaljaaFlowImpl
import Derived.Test.YtfigojmdklaljaaFlowSpec
namespace Go.Proofs.Ytfigojmdklaljaa
open Go.RowKit Go.Lst Go.Plan

set_option maxHeartbeats 4000000 in
set_option maxRecDepth 100000 in
theorem implFlowEnds_any (B : Nat) (v1 v2 : Value) (ts o : List Int) (M : Int) (w : World) (h1 : LstI B w v1 ts) (h2 : LstI B w v2 o) (hB : B ≤ w.heap.size) (hwf : ∀ x ∈ o, (Lit.int .i64 x).wf = true) :
    Calls Try.prog 32 #[v1, .int .i64 M, v2] w (ListPost (flowRes ts o M) (canFlow ts o M) w) := by
  have hNo : Hid (canFlow ts o M = false → ∀ w', Below w.heap.size w w' → (ListPost (flowRes ts o M) (canFlow ts o M) w) (.returned (.tuple #[.slice none 0 0, .bool false])) w') := Lib.hid fun hq w' hb => list_no (by unfold flowRes; rw [hq]; rfl) hq hb
  cases hq : canShop ts M
  · have hP := Lib.hid (hNo.out (by unfold canFlow; rw [hq]; rfl))
    have hS := Lib.hid (shopOf_no B v1 ts M w h1 hB hq)
    generalize ListPost (flowRes ts o M) (canFlow ts o M) w = Q at *
    clear h1 h2 hq hNo
    go_enter Try.func32, Try.ntmps32
    go_wp2_with fail
    with_reducible refine (hS.out).mono ?_
    rintro e w5 ⟨rfl, hb5⟩
    have hB5 := Lib.hid hb5
    clear hb5
    go_wp2_with fail
    exact hP.out _ (hB5.out.alloc hB5.out.size _)
  · obtain ⟨m, n, rfl, hm1, hm8, hn1, hn24, hlen, ht⟩ := canShop_of hq
    have hL1 : 1 ≤ ts.length := by rw [hlen]; exact Nat.mul_pos hn1 hm1
    obtain ⟨a1, cap1, rfl, _⟩ := id h1
    obtain ⟨b1, o1, rfl, _⟩ := lstI_block h1 (by omega)
    rw [hlen] at h1 ⊢
    have hS := Lib.hid (shopOf_yes B b1 o1 cap1 m n ts w h1 hB hm1 hm8 hn1 hn24 hq)
    have hI : Hid (∀ (w5 w6 : World) (s : Value), Shop w5.heap.size w5 s ts (sameWay m ts.length) m n → Below w.heap.size w w5 → Below w5.heap.size w5 w6 → Calls Try.prog 64 #[s, v2] w6 fun e w' => e = .returned (.bool (isOrd o n)) ∧ Below w6.heap.size w6 w') := Lib.hid fun w5 w6 s hS5 hb5 hb6 =>
      shopIsOrder_any w5.heap.size s v2 ts _ o m n w6 (hS5.below hb6 (Nat.le_refl _)) (((h2.below hb5 hB).mono (Nat.le_trans hB hb5.size)).below hb6 (Nat.le_refl _)) hb6.size hn1 hn24 hwf
    have hcf : canFlow ts o m = isOrd o n := by unfold canFlow; rw [hq, Int.toNat_natCast, hlen, Nat.mul_div_cancel n (by omega)]; rfl
    cases hq2 : isOrd o n
    · have hP := Lib.hid (hNo.out (hcf.trans hq2))
      rw [hq2] at hI
      generalize ListPost (flowRes ts o m) (canFlow ts o m) w = Q at *
      clear h1 h2 hq hq2 hcf hNo hlen
      go_enter Try.func32, Try.ntmps32
      go_wp2_with fail
      with_reducible refine (hS.out).mono ?_
      rintro e w5 ⟨s, rfl, hs5, hb5⟩
      have hS5 := Lib.hid hs5
      have hB5 := Lib.hid hb5
      obtain ⟨b', o', cap', vr, vt, rfl, _, hr', ht'⟩ := hs5
      obtain ⟨ar, cr, rfl, _⟩ := hr'
      obtain ⟨at', ct, rfl, _⟩ := ht'
      clear hb5
      generalize n * m = L at *
      go_wp2_with fail
      with_reducible refine (hI.out w5 _ _ hS5.out hB5.out (below_alloc (Below.refl _ _) _)).mono ?_
      rintro e w7 ⟨rfl, hb7⟩
      have hB7 := Lib.hid (below_on (hB5.out.alloc hB5.out.size _) (Nat.le_refl _) hb7)
      clear hb7
      go_wp2_with fail
      exact hP.out _ hB7.out
    · have hC := hcf.trans hq2
      have hE : Hid (∀ (w5 w7 : World) (s : Value), Shop w5.heap.size w5 s ts (sameWay m ts.length) m n → Below w.heap.size w w5 → Below w5.heap.size w5 w7 → Calls Try.prog 65 #[s, v2] w7 (EndsPost ts o m n w7)) := Lib.hid fun w5 w7 s hS5 hb5 hb7 =>
        flowEnds_any w5.heap.size s v2 ts _ o m n w7 (hS5.below hb7 (Nat.le_refl _)) (((h2.below hb5 hB).mono (Nat.le_trans hB hb5.size)).below hb7 (Nat.le_refl _)) hb7.size hm1 hm8 hn1 hn24 hlen ht hq2
      have hP : Hid (∀ (w7 : World) e w', Below w.heap.size w w7 → EndsPost ts o m n w7 e w' → ∃ (v' : Value), e = .returned v' ∧ ListPost (flowRes ts o m) (canFlow ts o m) w (.returned (.tuple #[v', .bool true])) w') := Lib.hid fun w7 e w' hb ⟨v', he, hO, hb'⟩ => by
        have hd : ts.length / m = n := by rw [hlen]; exact Nat.mul_div_cancel n (by omega)
        refine ⟨v', he, v', by rw [hC], ?_, hb.trans (hb'.mono hb.size)⟩
        have hr : flowRes ts o m = (flowTo ts o m n).1 := by unfold flowRes; rw [hC, if_pos rfl, Int.toNat_natCast, hd]
        rw [hr]
        exact hO.mono hb.size (Nat.le_refl _)
      rw [hq2] at hI
      generalize ListPost (flowRes ts o m) (canFlow ts o m) w = Q at *
      clear h1 h2 hq hq2 hcf hNo hC hlen
      go_enter Try.func32, Try.ntmps32
      go_wp2_with fail
      with_reducible refine (hS.out).mono ?_
      rintro e w5 ⟨s, rfl, hs5, hb5⟩
      have hS5 := Lib.hid hs5
      have hB5 := Lib.hid hb5
      obtain ⟨b', o', cap', vr, vt, rfl, ht5, hr', ht'⟩ := hs5
      have hT5 := Lib.hid ht5
      have hR5 := Lib.hid hr'
      obtain ⟨ar, cr, rfl, _⟩ := hr'
      obtain ⟨at', ct, rfl, _⟩ := ht'
      clear hb5 ht5
      generalize n * m = L at *
      go_wp2_with fail
      have hb6 := Lib.hid (below_alloc (Below.refl w5.heap.size w5) (.cells #[.int .i64 m, .slice (some ⟨b', o', none⟩) L cap', .slice ar n cr, .slice at' (sameWay m ts.length).length ct] 52))
      have hx6 := Lib.hid (Whole.made w5 52 #[.int .i64 m, .slice (some ⟨b', o', none⟩) L cap', .slice ar n cr, .slice at' (sameWay m ts.length).length ct] rfl)
      with_reducible refine (hI.out w5 _ _ hS5.out hB5.out hb6.out).mono ?_
      rintro e w7 ⟨rfl, hb7⟩
      have hB7 := Lib.hid (below_on hb6.out (Nat.le_refl _) hb7)
      have hx7 := Lib.hid (hx6.out.kept hb7)
      clear hb7 hx6 hb6
      generalize hgx : w5.heap.size = gx at *
      have hGX := Lib.hid hgx
      clear hgx
      have c0 := hx7.out.at_ (i := 0) rfl
      have c1 := hx7.out.at_ (i := 1) rfl
      have c2 := hx7.out.at_ (i := 2) rfl
      have c3 := hx7.out.at_ (i := 3) rfl
      go_wp2_with fail
      with_reducible refine (hE.out w5 _ _ (by rw [hGX.out]; exact hS5.out) hB5.out (by rw [hGX.out]; exact hB7.out)).mono ?_
      rintro e w' hpp
      obtain ⟨v', rfl, hfin⟩ := hP.out w7 e w' (hB5.out.trans (hB7.out.mono (by have := hB5.out.size; rw [hGX.out] at this; exact this))) hpp
      have hR := Lib.hid hfin
      clear hfin hpp
      go_wp2_with fail
      exact hR.out
set_option maxHeartbeats 4000000 in
set_option maxRecDepth 100000 in
theorem implFlowLast_any (B : Nat) (v1 v2 : Value) (ts o : List Int) (M : Int) (w : World) (h1 : LstI B w v1 ts) (h2 : LstI B w v2 o) (hB : B ≤ w.heap.size) (hwf : ∀ x ∈ o, (Lit.int .i64 x).wf = true) :
    Calls Try.prog 34 #[v1, .int .i64 M, v2] w (NumPost (flowEnd ts o M) (canFlow ts o M) w) := by
  have hNo : Hid (canFlow ts o M = false → ∀ w', Below w.heap.size w w' → (NumPost (flowEnd ts o M) (canFlow ts o M) w) (.returned (.tuple #[.int .i64 0, .bool false])) w') := Lib.hid fun hq w' hb => num_no (by unfold flowEnd; rw [hq]; rfl) hq hb
  cases hq : canShop ts M
  · have hP := Lib.hid (hNo.out (by unfold canFlow; rw [hq]; rfl))
    have hS := Lib.hid (shopOf_no B v1 ts M w h1 hB hq)
    generalize NumPost (flowEnd ts o M) (canFlow ts o M) w = Q at *
    clear h1 h2 hq hNo
    go_enter Try.func34, Try.ntmps34
    go_wp2_with fail
    with_reducible refine (hS.out).mono ?_
    rintro e w5 ⟨rfl, hb5⟩
    have hB5 := Lib.hid hb5
    clear hb5
    go_wp2_with fail
    exact hP.out _ (hB5.out.alloc hB5.out.size _)
  · obtain ⟨m, n, rfl, hm1, hm8, hn1, hn24, hlen, ht⟩ := canShop_of hq
    have hL1 : 1 ≤ ts.length := by rw [hlen]; exact Nat.mul_pos hn1 hm1
    obtain ⟨a1, cap1, rfl, _⟩ := id h1
    obtain ⟨b1, o1, rfl, _⟩ := lstI_block h1 (by omega)
    rw [hlen] at h1 ⊢
    have hS := Lib.hid (shopOf_yes B b1 o1 cap1 m n ts w h1 hB hm1 hm8 hn1 hn24 hq)
    have hI : Hid (∀ (w5 w6 : World) (s : Value), Shop w5.heap.size w5 s ts (sameWay m ts.length) m n → Below w.heap.size w w5 → Below w5.heap.size w5 w6 → Calls Try.prog 64 #[s, v2] w6 fun e w' => e = .returned (.bool (isOrd o n)) ∧ Below w6.heap.size w6 w') := Lib.hid fun w5 w6 s hS5 hb5 hb6 =>
      shopIsOrder_any w5.heap.size s v2 ts _ o m n w6 (hS5.below hb6 (Nat.le_refl _)) (((h2.below hb5 hB).mono (Nat.le_trans hB hb5.size)).below hb6 (Nat.le_refl _)) hb6.size hn1 hn24 hwf
    have hcf : canFlow ts o m = isOrd o n := by unfold canFlow; rw [hq, Int.toNat_natCast, hlen, Nat.mul_div_cancel n (by omega)]; rfl
    cases hq2 : isOrd o n
    · have hP := Lib.hid (hNo.out (hcf.trans hq2))
      rw [hq2] at hI
      generalize NumPost (flowEnd ts o m) (canFlow ts o m) w = Q at *
      clear h1 h2 hq hq2 hcf hNo hlen
      go_enter Try.func34, Try.ntmps34
      go_wp2_with fail
      with_reducible refine (hS.out).mono ?_
      rintro e w5 ⟨s, rfl, hs5, hb5⟩
      have hS5 := Lib.hid hs5
      have hB5 := Lib.hid hb5
      obtain ⟨b', o', cap', vr, vt, rfl, _, hr', ht'⟩ := hs5
      obtain ⟨ar, cr, rfl, _⟩ := hr'
      obtain ⟨at', ct, rfl, _⟩ := ht'
      clear hb5
      generalize n * m = L at *
      go_wp2_with fail
      with_reducible refine (hI.out w5 _ _ hS5.out hB5.out (below_alloc (Below.refl _ _) _)).mono ?_
      rintro e w7 ⟨rfl, hb7⟩
      have hB7 := Lib.hid (below_on (hB5.out.alloc hB5.out.size _) (Nat.le_refl _) hb7)
      clear hb7
      go_wp2_with fail
      exact hP.out _ hB7.out
    · have hC := hcf.trans hq2
      have hE : Hid (∀ (w5 w7 : World) (s : Value), Shop w5.heap.size w5 s ts (sameWay m ts.length) m n → Below w.heap.size w w5 → Below w5.heap.size w5 w7 → Calls Try.prog 66 #[s, v2] w7 fun e w' => e = .returned (.int .i64 (flowEnd ts o m)) ∧ Below w7.heap.size w7 w') := Lib.hid fun w5 w7 s hS5 hb5 hb7 => by
        have hd : ts.length / m = n := by rw [hlen]; exact Nat.mul_div_cancel n (by omega)
        have hr : flowEnd ts o m = (flowTo ts o m n).2.getD (m - 1) 0 := by unfold flowEnd; rw [hC, if_pos rfl, Int.toNat_natCast, hd]
        rw [hr]
        exact flowLast_any w5.heap.size s v2 ts _ o m n w7 (hS5.below hb7 (Nat.le_refl _)) (((h2.below hb5 hB).mono (Nat.le_trans hB hb5.size)).below hb7 (Nat.le_refl _)) hb7.size hm1 hm8 hn1 hn24 hlen ht hq2
      have hP : Hid (∀ w', Below w.heap.size w w' → NumPost (flowEnd ts o m) (canFlow ts o m) w (.returned (.tuple #[.int .i64 (flowEnd ts o m), .bool true])) w') := Lib.hid fun w' hb => num_yes rfl hC hb
      rw [hq2] at hI
      generalize NumPost (flowEnd ts o m) (canFlow ts o m) w = Q at *
      clear h1 h2 hq hq2 hcf hNo hC hlen
      go_enter Try.func34, Try.ntmps34
      go_wp2_with fail
      with_reducible refine (hS.out).mono ?_
      rintro e w5 ⟨s, rfl, hs5, hb5⟩
      have hS5 := Lib.hid hs5
      have hB5 := Lib.hid hb5
      obtain ⟨b', o', cap', vr, vt, rfl, ht5, hr', ht'⟩ := hs5
      have hT5 := Lib.hid ht5
      have hR5 := Lib.hid hr'
      obtain ⟨ar, cr, rfl, _⟩ := hr'
      obtain ⟨at', ct, rfl, _⟩ := ht'
      clear hb5 ht5
      generalize n * m = L at *
      go_wp2_with fail
      have hb6 := Lib.hid (below_alloc (Below.refl w5.heap.size w5) (.cells #[.int .i64 m, .slice (some ⟨b', o', none⟩) L cap', .slice ar n cr, .slice at' (sameWay m ts.length).length ct] 52))
      have hx6 := Lib.hid (Whole.made w5 52 #[.int .i64 m, .slice (some ⟨b', o', none⟩) L cap', .slice ar n cr, .slice at' (sameWay m ts.length).length ct] rfl)
      with_reducible refine (hI.out w5 _ _ hS5.out hB5.out hb6.out).mono ?_
      rintro e w7 ⟨rfl, hb7⟩
      have hB7 := Lib.hid (below_on hb6.out (Nat.le_refl _) hb7)
      have hx7 := Lib.hid (hx6.out.kept hb7)
      clear hb7 hx6 hb6
      generalize hgx : w5.heap.size = gx at *
      have hGX := Lib.hid hgx
      clear hgx
      have c0 := hx7.out.at_ (i := 0) rfl
      have c1 := hx7.out.at_ (i := 1) rfl
      have c2 := hx7.out.at_ (i := 2) rfl
      have c3 := hx7.out.at_ (i := 3) rfl
      generalize flowEnd ts o m = fe at *
      go_wp2_with fail
      with_reducible refine (hE.out w5 _ _ (by rw [hGX.out]; exact hS5.out) hB5.out (by rw [hGX.out]; exact hB7.out)).mono ?_
      rintro e w' ⟨rfl, hb8⟩
      have hR := Lib.hid (hP.out w' (below_on (hB5.out.trans (hB7.out.mono (by have := hB5.out.size; rw [hGX.out] at this; exact this))) (Nat.le_refl _) hb8))
      clear hb8
      go_wp2_with fail
      exact hR.out
theorem flowEnds_both (ts : List Int) (M : Int) (o : List Int) (_ : ∀ x ∈ ts, (Lit.int .i64 x).wf = true) (_ : (Lit.int .i64 M).wf = true) (hw : ∀ x ∈ o, (Lit.int .i64 x).wf = true) : ∃ (r0 : List Int) (r1 : Bool), r0.length ≤ 1048576 ∧
    (∀ (B : Nat) (v1 v2 : Value) (w : World), LstI B w v1 ts → LstI B w v2 o → B ≤ w.heap.size → Calls Try.prog 31 #[v1, .int .i64 M, v2] w fun e w' => ∃ v', e = .returned (.tuple #[v', .bool r1]) ∧ Own w.heap.size w'.heap.size w' v' 2 1 r0.length (r0.map (Value.int .i64)) ∧ Below w.heap.size w w') ∧
    (∀ (B : Nat) (v1 v2 : Value) (w : World), LstI B w v1 ts → LstI B w v2 o → B ≤ w.heap.size → Calls Try.prog 32 #[v1, .int .i64 M, v2] w fun e w' => ∃ v', e = .returned (.tuple #[v', .bool r1]) ∧ Own w.heap.size w'.heap.size w' v' 2 1 r0.length (r0.map (Value.int .i64)) ∧ Below w.heap.size w w') :=
  ⟨flowRes ts o M, canFlow ts o M, flowRes_length ts o M, fun B v1 v2 w h1 h2 hB => specFlowEnds_any B v1 v2 ts o M w h1 h2 hB, fun B v1 v2 w h1 h2 hB => implFlowEnds_any B v1 v2 ts o M w h1 h2 hB hw⟩
theorem flowLast_both (ts : List Int) (M : Int) (o : List Int) (_ : ∀ x ∈ ts, (Lit.int .i64 x).wf = true) (_ : (Lit.int .i64 M).wf = true) (hw : ∀ x ∈ o, (Lit.int .i64 x).wf = true) : ∃ (r0 : Int) (r1 : Bool),
    (∀ (B : Nat) (v1 v2 : Value) (w : World), LstI B w v1 ts → LstI B w v2 o → B ≤ w.heap.size → Calls Try.prog 33 #[v1, .int .i64 M, v2] w fun e w' => e = .returned (.tuple #[.int .i64 r0, .bool r1]) ∧ Below w.heap.size w w') ∧
    (∀ (B : Nat) (v1 v2 : Value) (w : World), LstI B w v1 ts → LstI B w v2 o → B ≤ w.heap.size → Calls Try.prog 34 #[v1, .int .i64 M, v2] w fun e w' => e = .returned (.tuple #[.int .i64 r0, .bool r1]) ∧ Below w.heap.size w w') :=
  ⟨flowEnd ts o M, canFlow ts o M, fun B v1 v2 w h1 h2 hB => specFlowLast_any B v1 v2 ts o M w h1 h2 hB, fun B v1 v2 w h1 h2 hB => implFlowLast_any B v1 v2 ts o M w h1 h2 hB hw⟩
end Go.Proofs.Ytfigojmdklaljaa
