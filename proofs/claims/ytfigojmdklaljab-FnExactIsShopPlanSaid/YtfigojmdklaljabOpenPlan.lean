/- Contracts: whether starts are a plan of an open shop. -/
import Derived.Test.YtfigojmdklaljabApart
import Derived.Test.YtfigojmdklaljabBoundSpec
namespace Go.Proofs.Ytfigojmdklaljab
open Go.RowKit Go.Lst

def BoolPost (a b : Bool) (w : World) (e : Ending) (w' : World) : Prop := e = .returned (.tuple #[.bool a, .bool b]) ∧ Below w.heap.size w w'
theorem bools_no {a b : Bool} {w w' : World} (h1 : a = false) (h2 : b = false) (hb : Below w.heap.size w w') : BoolPost a b w (.returned (.tuple #[.bool false, .bool false])) w' := by
  subst h1 h2
  exact ⟨rfl, hb⟩
theorem bools_yes {a b c : Bool} {w w' : World} (h1 : a = c) (h2 : b = true) (hb : Below w.heap.size w w') : BoolPost a b w (.returned (.tuple #[.bool c, .bool true])) w' := by
  subst h1 h2
  exact ⟨rfl, hb⟩
def okOpen (ts st : List Int) (M : Int) : Bool := canShop ts M && canStarts ts st
def openOk (ts st : List Int) (M : Int) : Bool := okOpen ts st M && apartTo (sameWay M.toNat ts.length) ts st M.toNat ts.length
theorem openOk_no {ts st : List Int} {M : Int} (h : okOpen ts st M = false) : openOk ts st M = false := by unfold openOk; rw [h]; rfl
theorem openOk_yes {ts st : List Int} {m : Nat} (h : okOpen ts st m = true) : openOk ts st m = apartTo (sameWay m ts.length) ts st m ts.length := by
  unfold openOk; rw [h, Int.toNat_natCast]; rfl
theorem same_getD {m L i : Nat} (h : i < L) : (sameWay m L).getD i 0 = ((i % m : Nat) : Int) := by
  rw [List.getD_eq_getElem?_getD, sameWay_get h]; rfl

/-- A contract met in a world that is some draws behind another one. -/
theorem Ret.over {P : Program} {f : FuncId} {args : Array Value} {w : World} {a b : Nat} {v : Value} (h : Calls P f args (w.drewN (a + b)) (Ret v (w.drewN (a + b)))) :
    Calls P f args (w.drewN (a + b)) fun e w'' => e = .returned v ∧ ∃ m, w'' = w.drewN (a + m) :=
  h.mono fun _ _ ⟨m, he, hw⟩ => ⟨he, b + m, by rw [hw, World.drewN_drewN, Nat.add_assoc]⟩
set_option maxHeartbeats 4000000 in
theorem l04Over_any (L cap1 l cap2 b1 o1 b2 o2 i k : Nat) (xi xk si sk : Int) (w : World) (hi : i < L) (hk : k < L) (hil : i < l) (hkl : k < l) (hL : L ≤ 192)
    (ti : w.cell? ⟨b1, o1 + i, none⟩ = some (.int .i64 xi)) (tk : w.cell? ⟨b1, o1 + k, none⟩ = some (.int .i64 xk)) (hsi : w.cell? ⟨b2, o2 + i, none⟩ = some (.int .i64 si)) (hsk : w.cell? ⟨b2, o2 + k, none⟩ = some (.int .i64 sk))
    (hxi : 0 ≤ xi ∧ xi ≤ 10000) (hxk : 0 ≤ xk ∧ xk ≤ 10000) (hbi : 0 ≤ si ∧ si ≤ 1000000) (hbk : 0 ≤ sk ∧ sk ≤ 1000000) :
    Calls Try.prog 48 #[.slice (some ⟨b1, o1, none⟩) L cap1, .slice (some ⟨b2, o2, none⟩) l cap2, .int .i64 i, .int .i64 k] w (Ret (.bool (decide (si < sk + xk) && decide (sk < si + xi))) w) := by
  have hw1 : IntKind.i64.wrap (sk + xk) = sk + xk := IntWalk.i64_in _ (by omega)
  have hw2 : IntKind.i64.wrap (si + xi) = si + xi := IntWalk.i64_in _ (by omega)
  have h1 : (i : Int) < (L : Int) := by omega
  have h2 : (k : Int) < (L : Int) := by omega
  have h3 : (i : Int) < (l : Int) := by omega
  have h4 : (k : Int) < (l : Int) := by omega
  by_cases hc1 : si < sk + xk
  · by_cases hc2 : sk < si + xi
    · rw [decide_eq_true hc1, decide_eq_true hc2]
      go_enter Try.func48, Try.ntmps48
      go_wp2_with fail
      go_quiet (fail)
      go_wp2_with fail
      go_ret
      exact Ret.later _ _ _
    · rw [decide_eq_true hc1, decide_eq_false hc2]
      have hd : decide (sk < si + xi) = false := decide_eq_false hc2
      clear hc2
      go_enter Try.func48, Try.ntmps48
      go_wp2_with fail
      go_quiet (fail)
      go_wp2_with fail
      go_ret
      exact Ret.later _ _ _
  · rw [decide_eq_false hc1]
    have hd : decide (si < sk + xk) = false := decide_eq_false hc1
    clear hc1
    go_enter Try.func48, Try.ntmps48
    go_wp2_with fail
    go_quiet (fail)
    go_wp2_with fail
    go_ret
    exact Ret.later _ _ _
set_option maxHeartbeats 2000000 in
theorem l04Starts_any (B : Nat) (v1 v2 : Value) (ts st : List Int) (w : World) (h1 : LstI B w v1 ts) (h2 : LstI B w v2 st) :
    Calls Try.prog 47 #[v1, v2] w fun e w' => e = .returned (.bool (canStarts ts st)) ∧ w = w' := by
  obtain ⟨a1, cap1, rfl, hl1, -⟩ := h1.at_
  obtain ⟨a2, cap2, rfl, hl2, -, -, hc2⟩ := h2.at_
  have hM : Hid (∀ (i : Nat) (x : Int), st[i]? = some x → inB x 0 1000000 = false → canStarts ts st = false) := Lib.hid fun i x hx hq => by
    unfold canStarts allIn
    rw [all_not hx hq, Bool.and_false]
  have hN : Hid (∀ k, k = st.length → (∀ i x, i < k → st[i]? = some x → inB x 0 1000000 = true) → canStarts ts st = decide (st.length = ts.length)) := Lib.hid fun k hk hp => by
    unfold canStarts allIn
    rw [all_upto fun i x hi hx => hp i x (by omega) hx, Bool.and_true]
  have hC := Lib.hid hc2
  clear h1 h2 hc2
  generalize canStarts ts st = q at *
  generalize ts.length = L at *
  generalize st.length = n at *
  unfold maxLen at hl1 hl2
  go_enter Try.func47, Try.ntmps47
  go_wp2_with fail
  go_loopw [5] (fun i wr => ∃ k : Nat, k ≤ n ∧ i = .int .i64 k ∧ Hid (∀ i x, i < k → st[i]? = some x → inB x 0 1000000 = true) ∧ wr = w) (fun i _ => n - (intOf i).toNat)
  case atStart => exact ⟨0, Nat.zero_le _, rfl, Lib.hid (fun i x hi _ => by omega), rfl⟩
  case round =>
    obtain ⟨k, hk, rfl, hP, rfl⟩ := hrel
    by_cases hlt : k < n
    · obtain ⟨b, o, x, rfl, _, hx, hcell⟩ := hC.out k hlt
      have hXx := Lib.hid hx
      clear hx
      cases hq : inB x 0 1000000
      · have hF := Lib.hid (hM.out k x hXx.out hq)
        go_wp2_with (go_at_call 104; (with_reducible refine (l00In_any _ _ _ _).mono ?_); rw [hq]; rintro e w' ⟨rfl, rfl⟩)
        go_ret
        exact ⟨ret_bool hF.out.symm, rfl⟩
      · have hP2 : Hid (∀ i y, i < k + 1 → st[i]? = some y → inB y 0 1000000 = true) := Lib.hid fun i y hi hy => by
          by_cases h1 : i < k
          · exact hP.out i y h1 hy
          · have : i = k := by omega
            subst this
            rw [hXx.out] at hy
            cases hy
            exact hq
        go_wp2_with (go_at_call 104; (with_reducible refine (l00In_any _ _ _ _).mono ?_); rw [hq]; rintro e w' ⟨rfl, rfl⟩)
        go_roundw
        case rel => exact ⟨k + 1, by omega, by go_num, hP2, by trivial⟩
        case measure => simp [intOf]; omega
    · have hF := Lib.hid (hN.out k (by omega) hP.out)
      by_cases he : n = L
      · have hV := Lib.hid (hF.out.trans (decide_eq_true he))
        subst he
        go_wp2_with fail
        go_ret
        exact ⟨ret_bool hV.out.symm, rfl⟩
      · have hV := Lib.hid (hF.out.trans (decide_eq_false he))
        have hb : ((n : Int) == (L : Int)) = false := by rw [beq_eq_false_iff_ne]; omega
        have hb2 : (n == L) = false := by rw [beq_eq_false_iff_ne]; exact he
        clear he
        go_wp2_with fail
        go_ret
        exact ⟨ret_bool hV.out.symm, rfl⟩
set_option maxHeartbeats 4000000 in
set_option maxRecDepth 100000 in
theorem implIsOpenPlan_any (B : Nat) (v1 v2 : Value) (ts st : List Int) (M : Int) (w : World) (h1 : LstI B w v1 ts) (h2 : LstI B w v2 st) (hB : B ≤ w.heap.size) :
    Calls Try.prog 20 #[v1, .int .i64 M, v2] w (BoolPost (openOk ts st M) (okOpen ts st M) w) := by
  have hNo : Hid (okOpen ts st M = false → ∀ w', Below w.heap.size w w' → (BoolPost (openOk ts st M) (okOpen ts st M) w) (.returned (.tuple #[.bool false, .bool false])) w') := Lib.hid fun hq w' hb => bools_no (openOk_no hq) hq hb
  rcases (show canShop ts M = false ∨ canShop ts M = true by cases canShop ts M <;> simp) with hq | hq
  · have hP := Lib.hid (hNo.out (by unfold okOpen; rw [hq]; rfl))
    have hS := Lib.hid (shopOf_no B v1 ts M w h1 hB hq)
    generalize BoolPost (openOk ts st M) (okOpen ts st M) w = Q at *
    clear h1 h2 hq hNo
    go_enter Try.func20, Try.ntmps20
    go_wp2_with fail
    with_reducible refine (hS.out).mono ?_
    rintro e w5 ⟨rfl, hb5⟩
    have hB5 := Lib.hid hb5
    clear hb5
    go_wp2_with fail
    exact hP.out _ (hB5.out.alloc hB5.out.size _)
  · obtain ⟨m, n, rfl, hm1, hm8, hn1, hn24, hlen, ht⟩ := canShop_of hq
    have hL1 : 1 ≤ ts.length := by rw [hlen]; exact Nat.mul_pos hn1 hm1
    have h192 : ts.length ≤ 192 := by rw [hlen]; exact mul_le24 hn24 hm8
    obtain ⟨a1, cap1, rfl, _⟩ := id h1
    obtain ⟨b1, o1, rfl, _⟩ := lstI_block h1 (by omega)
    rw [hlen] at h1 ⊢
    have hS := Lib.hid (shopOf_yes B b1 o1 cap1 m n ts w h1 hB hm1 hm8 hn1 hn24 hq)
    have hE : Hid (∀ (w5 w7 : World) (s : Value), Below w.heap.size w w5 → Shop w5.heap.size w5 s ts (sameWay m ts.length) m n → Below w5.heap.size w5 w7 → Calls Try.prog 49 #[s, v2] w7 fun e w' => e = .returned (.bool (canStarts ts st)) ∧ Below w7.heap.size w7 w') := Lib.hid fun w5 w7 s hb5 hS5 hb7 =>
      areStarts_any w5.heap.size s v2 ts _ st m n w7 (hS5.below hb7 (Nat.le_refl _)) hlen (((h2.below hb5 hB).mono (Nat.le_trans hB hb5.size)).below hb7 (Nat.le_refl _)) hb7.size h192
    have hK : Hid (canStarts ts st = true → ∀ (w5 w7 : World) (s : Value), Below w.heap.size w w5 → Shop w5.heap.size w5 s ts (sameWay m ts.length) m n → Below w5.heap.size w5 w7 → Calls Try.prog 50 #[s, v2] w7 fun e w' => e = .returned (.bool (apartTo (sameWay m ts.length) ts st m ts.length)) ∧ Below w7.heap.size w7 w') := Lib.hid fun hst w5 w7 s hb5 hS5 hb7 =>
      keepsApart_any w5.heap.size s v2 ts _ st m n w7 (hS5.below hb7 (Nat.le_refl _)) (((h2.below hb5 hB).mono (Nat.le_trans hB hb5.size)).below hb7 (Nat.le_refl _)) hb7.size hm1 hlen h192 (sameWay_length _ _) ht hst
    have hP : Hid (canStarts ts st = true → ∀ w', Below w.heap.size w w' → BoolPost (openOk ts st m) (okOpen ts st m) w (.returned (.tuple #[.bool (apartTo (sameWay m ts.length) ts st m ts.length), .bool true])) w') := Lib.hid fun hst w' hb => by
      have ho : okOpen ts st m = true := by unfold okOpen; rw [hq, hst]; rfl
      exact bools_yes (openOk_yes ho) ho hb
    have hN2 : Hid (canStarts ts st = false → ∀ w', Below w.heap.size w w' → BoolPost (openOk ts st m) (okOpen ts st m) w (.returned (.tuple #[.bool false, .bool false])) w') := Lib.hid fun hst => hNo.out (by unfold okOpen; rw [hst, Bool.and_false])
    generalize BoolPost (openOk ts st m) (okOpen ts st m) w = Q at *
    generalize apartTo (sameWay m ts.length) ts st m ts.length = ap at *
    clear h1 h2 hq hlen hNo ht
    go_enter Try.func20, Try.ntmps20
    go_wp2_with fail
    with_reducible refine (hS.out).mono ?_
    rintro e w5 ⟨s, rfl, hs5, hb5⟩
    have hS5 := Lib.hid hs5
    have hB5 := Lib.hid hb5
    obtain ⟨b', o', cap', vr, vt, rfl, ht5, hr', ht'⟩ := hs5
    obtain ⟨ar, cr, rfl, -⟩ := hr'
    obtain ⟨at', ct, rfl, -⟩ := ht'
    clear hb5 ht5
    generalize n * m = L at *
    go_wp2_with fail
    have hb6 := Lib.hid (below_alloc (Below.refl w5.heap.size w5) (.cells #[.int .i64 m, .slice (some ⟨b', o', none⟩) L cap', .slice ar n cr, .slice at' (sameWay m ts.length).length ct] 46))
    have hx6 := Lib.hid (Whole.made w5 46 #[.int .i64 m, .slice (some ⟨b', o', none⟩) L cap', .slice ar n cr, .slice at' (sameWay m ts.length).length ct] rfl)
    cases hst : canStarts ts st
    · have hR := Lib.hid (hN2.out hst)
      rw [hst] at hE
      go_wp2_with fail
      with_reducible refine (hE.out w5 _ _ hB5.out hS5.out hb6.out).mono ?_
      rintro e w' ⟨rfl, hb8⟩
      have hR2 := Lib.hid (hR.out w' (below_on (hB5.out.trans (hb6.out.mono hB5.out.size)) (Nat.le_refl _) hb8))
      clear hb8
      go_wp2_with fail
      exact hR2.out
    · have hR := Lib.hid (hP.out hst)
      have hK2 := Lib.hid (hK.out hst)
      rw [hst] at hE
      go_wp2_with fail
      with_reducible refine (hE.out w5 _ _ hB5.out hS5.out hb6.out).mono ?_
      rintro e w7 ⟨rfl, hb8⟩
      have hB7 := Lib.hid (below_on hb6.out (Nat.le_refl _) hb8)
      have hx7 := Lib.hid (hx6.out.kept hb8)
      have c0 := hx7.out.at_ (i := 0) rfl
      have c1 := hx7.out.at_ (i := 1) rfl
      have c2 := hx7.out.at_ (i := 2) rfl
      have c3 := hx7.out.at_ (i := 3) rfl
      clear hb8 hx6
      go_wp2_with fail
      with_reducible refine (hK2.out w5 _ _ hB5.out hS5.out hB7.out).mono ?_
      rintro e w' ⟨rfl, hb9⟩
      have hR2 := Lib.hid (hR.out w' (hB5.out.trans ((below_on hB7.out (Nat.le_refl _) hb9).mono hB5.out.size)))
      clear hb9
      go_wp2_with fail
      exact hR2.out
set_option maxHeartbeats 8000000 in
set_option maxRecDepth 100000 in
theorem specIsOpenPlan_any (B : Nat) (v1 v2 : Value) (ts st : List Int) (M : Int) (w : World) (h1 : LstI B w v1 ts) (h2 : LstI B w v2 st) (hB : B ≤ w.heap.size) :
    Calls Try.prog 19 #[v1, .int .i64 M, v2] w (BoolPost (openOk ts st M) (okOpen ts st M) w) := by
  have hC := Lib.hid (l04Can_any B v1 ts M w h1)
  have hS := Lib.hid (l04Starts_any B v1 v2 ts st w h1 h2)
  have hNo : Hid (okOpen ts st M = false → ∀ w', Below w.heap.size w w' → (BoolPost (openOk ts st M) (okOpen ts st M) w) (.returned (.tuple #[.bool false, .bool false])) w') := Lib.hid fun hq w' hb => bools_no (openOk_no hq) hq hb
  rcases (show canShop ts M = false ∨ canShop ts M = true by cases canShop ts M <;> simp) with hq | hq
  · have hP := Lib.hid (hNo.out (by unfold okOpen; rw [hq]; rfl) w (Below.refl _ _))
    rw [hq] at hC
    generalize BoolPost (openOk ts st M) (okOpen ts st M) w = Q at *
    clear h1 h2 hq hNo hS
    go_enter Try.func19, Try.ntmps19
    go_wp2_with (go_at_call 43; (with_reducible refine (hC.out).mono ?_); rintro e w' ⟨rfl, rfl⟩)
    first | exact hP.out | (go_ret2; exact hP.out)
  · cases hst : canStarts ts st
    · have hP := Lib.hid (hNo.out (by unfold okOpen; rw [hst, Bool.and_false]) w (Below.refl _ _))
      rw [hq] at hC
      rw [hst] at hS
      generalize BoolPost (openOk ts st M) (okOpen ts st M) w = Q at *
      clear h1 h2 hq hNo hst
      go_enter Try.func19, Try.ntmps19
      go_wp2_with (first | (go_at_call 43; (with_reducible refine (hC.out).mono ?_); rintro e w' ⟨rfl, rfl⟩) | (go_at_call 47; (with_reducible refine (hS.out).mono ?_); rintro e w' ⟨rfl, rfl⟩))
      first | exact hP.out | (go_ret2; exact hP.out)
    · obtain ⟨m, n, rfl, hm1, hm8, hn1, hn24, hlen, ht⟩ := canShop_of hq
      obtain ⟨hsl, hsb⟩ := canStarts_of hst
      have hL1 : 1 ≤ ts.length := by rw [hlen]; exact Nat.mul_pos hn1 hm1
      have h192 : ts.length ≤ 192 := by rw [hlen]; exact mul_le24 hn24 hm8
      have ho : okOpen ts st m = true := by unfold okOpen; rw [hq, hst]; rfl
      have hP0 : Hid (∀ (b : Bool) w', apartTo (sameWay m ts.length) ts st m ts.length = b → Below w.heap.size w w' → BoolPost (openOk ts st m) (okOpen ts st m) w (.returned (.tuple #[.bool b, .bool true])) w') := Lib.hid fun b w' hap hb =>
        bools_yes ((openOk_yes ho).trans hap) ho hb
      rw [hq] at hC
      rw [hst] at hS
      obtain ⟨a1, cap1, rfl, hl1, -, -, hc1⟩ := h1.at_
      obtain ⟨b1, o1, rfl, -⟩ := lstI_block h1 (by omega)
      obtain ⟨a2, cap2, rfl, hl2, -, -, hc2⟩ := h2.at_
      rw [hsl] at hS hc2 hl2 ⊢
      have hT : Hid (∀ i, i < ts.length → w.cell? ⟨b1, o1 + i, none⟩ = some (.int .i64 (ts.getD i 0)) ∧ 0 ≤ ts.getD i 0 ∧ ts.getD i 0 ≤ 10000) := Lib.hid fun i hi => by
        obtain ⟨b, o, x, hh, hb, hx, hc⟩ := hc1 i hi
        injection hh with hh; injection hh with q1 q2 q3
        subst q1 q2
        have := ht i x hx
        rw [getD_of hx]
        exact ⟨hc, by omega, by omega⟩
      have hC2 : Hid (∀ i, i < ts.length → ∃ b o, a2 = some ⟨b, o, none⟩ ∧ w.cell? ⟨b, o + i, none⟩ = some (.int .i64 (st.getD i 0)) ∧ 0 ≤ st.getD i 0 ∧ st.getD i 0 ≤ 1000000) := Lib.hid fun i hi => by
        obtain ⟨b, o, x, hh, hb, hx, hc⟩ := hc2 i hi
        have := hsb i x hx
        exact ⟨b, o, hh, by rw [getD_of hx]; exact hc, by rw [getD_of hx]; omega, by rw [getD_of hx]; omega⟩
      have hFaO : Hid (∀ i k, i < ts.length → meets (sameWay m ts.length) ts st m i k = true → k < i → apartTo (sameWay m ts.length) ts st m ts.length = false) := Lib.hid fun i k a b c => apartTo_no b c _ a
      have hAi : Hid (∀ i k, apartIn (sameWay m ts.length) ts st m i k = true → meets (sameWay m ts.length) ts st m i k = false → apartIn (sameWay m ts.length) ts st m i (k + 1) = true) := Lib.hid fun i k a b => apartIn_yes a b
      have hAo : Hid (∀ i, apartTo (sameWay m ts.length) ts st m i = true → apartIn (sameWay m ts.length) ts st m i i = true → apartTo (sameWay m ts.length) ts st m (i + 1) = true) := Lib.hid fun i a b => apartTo_yes a b
      have hMn : Hid (∀ i k, i < ts.length → k < ts.length → i / m ≠ k / m → i % m ≠ k % m → meets (sameWay m ts.length) ts st m i k = false) := Lib.hid fun i k hi hk a b => meets_no a (by rw [same_getD hi, same_getD hk]; omega)
      have hMj : Hid (∀ i k, i / m = k / m → meets (sameWay m ts.length) ts st m i k = overs ts st i k) := Lib.hid fun i k a => meets_job a
      have hMw : Hid (∀ i k, i < ts.length → k < ts.length → i % m = k % m → meets (sameWay m ts.length) ts st m i k = overs ts st i k) := Lib.hid fun i k hi hk a => meets_way (by rw [same_getD hi, same_getD hk, a])
      have hOv : Hid (∀ i k, overs ts st i k = (decide (st.getD i 0 < st.getD k 0 + ts.getD k 0) && decide (st.getD k 0 < st.getD i 0 + ts.getD i 0))) := Lib.hid fun i k => rfl
      have hI0 : Hid (∀ i, apartIn (sameWay m ts.length) ts st m i 0 = true) := Lib.hid fun i => rfl
      have hT0 : Hid (apartTo (sameWay m ts.length) ts st m 0 = true) := Lib.hid rfl
      have hm0 : ((m : Int) == 0) = false := by rw [beq_eq_false_iff_ne]; omega
      have hmz : ¬ m = 0 := by omega
      generalize BoolPost (openOk ts st m) (okOpen ts st m) w = Q at *
      generalize hrt : sameWay m ts.length = rt at *
      clear h1 h2 hc1 hc2 hq hst hlen ht hsl hsb ho hrt hNo
      generalize ts.length = L at *
      unfold maxLen at hl1 hl2
      go_enter Try.func19, Try.ntmps19
      go_wp2_with (first | (go_at_call 43; (with_reducible refine (hC.out).mono ?_); rintro e w' ⟨rfl, rfl⟩) | (go_at_call 47; (with_reducible refine (hS.out).mono ?_); rintro e w' ⟨rfl, rfl⟩))
      clear hC hS
      go_loopw [8] (fun iv wr => ∃ i nd : Nat, i ≤ L ∧ iv = .int .i64 i ∧ Hid (apartTo rt ts st m i = true) ∧ wr = w.drewN nd) (fun iv _ => L - (intOf iv).toNat)
      case atStart => exact ⟨0, 0, Nat.zero_le _, rfl, hT0, rfl⟩
      case round =>
        obtain ⟨i, nd, hi, rfl, hPo, rfl⟩ := hrel
        by_cases hlt : i < L
        · obtain ⟨b2, o2, rfl, -⟩ := hC2.out i hlt
          have hSt : Hid (∀ q, q < L → w.cell? ⟨b2, o2 + q, none⟩ = some (.int .i64 (st.getD q 0)) ∧ 0 ≤ st.getD q 0 ∧ st.getD q 0 ≤ 1000000) := Lib.hid fun q hq => by
            obtain ⟨b, o, hh, h3, h4⟩ := hC2.out q hq
            injection hh with hh; injection hh with q1 q2 q3
            subst q1 q2
            exact ⟨h3, h4⟩
          have hAo2 := Lib.hid (hAo.out i hPo.out)
          go_wp2_with fail
          go_loopw [9] (fun kv wr => ∃ k nd : Nat, k ≤ i ∧ kv = .int .i64 k ∧ Hid (apartIn rt ts st m i k = true) ∧ wr = w.drewN nd) (fun kv _ => i - (intOf kv).toNat)
          case atStart => exact ⟨0, nd, Nat.zero_le _, rfl, Lib.hid (hI0.out i), rfl⟩
          case round =>
            obtain ⟨k, nd, hk, rfl, hP, rfl⟩ := hrel
            by_cases hlk : k < i
            · have hkL : k < L := by omega
              obtain ⟨ti, hxi⟩ := hT.out i hlt
              obtain ⟨tk, hxk⟩ := hT.out k hkL
              obtain ⟨si', hsi⟩ := hSt.out i hlt
              obtain ⟨sk', hsk⟩ := hSt.out k hkL
              have hOver := Lib.hid (fun nd => l04Over_any L cap1 L cap2 b1 o1 b2 o2 i k _ _ _ _ (w.drewN nd) hlt hkL hlt hkL h192 ti tk si' sk' hxi hxk hsi hsk)
              have hMn2 := Lib.hid (hMn.out i k hlt hkL)
              have hMj2 := Lib.hid ((hMj.out i k))
              have hMw2 := Lib.hid (hMw.out i k hlt hkL)
              have hFa := Lib.hid (fun h => hFaO.out i k hlt h hlk)
              have hA2 := Lib.hid (hAi.out i k hP.out)
              rw [← hOv.out] at hOver
              have hdi := idiv i m
              have hdk := idiv k m
              have hri := imod i m
              have hrk := imod k m
              have hbi : i / m ≤ 192 := Nat.le_trans (Nat.div_le_self i m) (by omega)
              have hbk : k / m ≤ 192 := Nat.le_trans (Nat.div_le_self k m) (by omega)
              have hci : i % m < m := Nat.mod_lt _ (by omega)
              have hck : k % m < m := Nat.mod_lt _ (by omega)
              clear ti tk si' sk' hxi hxk hsi hsk
              generalize i / m = ji at *
              generalize k / m = jk at *
              generalize i % m = ri at *
              generalize k % m = rk at *
              generalize meets rt ts st m i k = mv at *
              generalize overs ts st i k = ov at *
              have hw1 : IntKind.i64.wrap (ji : Int) = (ji : Int) := IntWalk.i64_in _ (by omega)
              have hw2 : IntKind.i64.wrap (jk : Int) = (jk : Int) := IntWalk.i64_in _ (by omega)
              by_cases hj : ji = jk
              · have hMv := Lib.hid (hMj2.out hj)
                have hjb : ((ji : Int) == (jk : Int)) = true := by rw [beq_iff_eq]; omega
                clear hMn2 hMj2 hMw2
                cases ov
                · have hP2 := Lib.hid (hA2.out hMv.out)
                  go_wp2_with fail
                  go_quiet ((go_at_call 48; with_reducible exact Ret.over (hOver.out _)))
                  go_wp2_with fail
                  go_roundw
                  case rel => exact ⟨k + 1, _, by omega, by go_num, hP2, by first | rfl | rw [World.drewN_drewN]⟩
                  case measure => simp [intOf]; omega
                · have hR := Lib.hid (fun nq => hP0.out false _ (hFa.out hMv.out) (below_drawn w nq))
                  go_wp2_with fail
                  go_quiet ((go_at_call 48; with_reducible exact Ret.over (hOver.out _)))
                  try rw [World.drewN_drewN]
                  go_wp2_with fail
                  first | exact hR.out _ | (go_ret2; exact hR.out _)
              · have hjb : ((ji : Int) == (jk : Int)) = false := by rw [beq_eq_false_iff_ne]; omega
                by_cases hr : ri = rk
                · have hMv := Lib.hid (hMw2.out hr)
                  have hrb : ((ri : Int) == (rk : Int)) = true := by rw [beq_iff_eq]; omega
                  clear hMn2 hMj2 hMw2
                  cases ov
                  · have hP2 := Lib.hid (hA2.out hMv.out)
                    go_wp2_with fail
                    go_quiet ((go_at_call 48; with_reducible exact Ret.over (hOver.out _)))
                    go_wp2_with fail
                    go_roundw
                    case rel => exact ⟨k + 1, _, by omega, by go_num, hP2, by first | rfl | rw [World.drewN_drewN]⟩
                    case measure => simp [intOf]; omega
                  · have hR := Lib.hid (fun nq => hP0.out false _ (hFa.out hMv.out) (below_drawn w nq))
                    go_wp2_with fail
                    go_quiet ((go_at_call 48; with_reducible exact Ret.over (hOver.out _)))
                    try rw [World.drewN_drewN]
                    go_wp2_with fail
                    first | exact hR.out _ | (go_ret2; exact hR.out _)
                · have hP2 := Lib.hid (hA2.out (hMn2.out hj hr))
                  have hrb : ((ri : Int) == (rk : Int)) = false := by rw [beq_eq_false_iff_ne]; omega
                  clear hMn2 hMj2 hMw2 hOver
                  go_wp2_with fail
                  go_quiet (fail)
                  go_wp2_with fail
                  go_roundw
                  case rel => exact ⟨k + 1, _, by omega, by go_num, hP2, by first | rfl | rw [World.drewN_drewN]⟩
                  case measure => simp [intOf]; omega
            · obtain rfl : i = k := by omega
              have hPo2 := Lib.hid (hAo2.out hP.out)
              go_wp2_with fail
              go_roundw
              case rel => exact ⟨i + 1, nd, by omega, by go_num, hPo2, rfl⟩
              case measure => simp [intOf]; omega
        · obtain rfl : L = i := by omega
          have hR := Lib.hid (hP0.out true _ hPo.out (below_drawn w nd))
          go_wp2_with fail
          first | exact hR.out | (go_ret2; exact hR.out)
theorem isOpenPlan_both (ts : List Int) (M : Int) (st : List Int) (_ : ∀ x ∈ ts, (Lit.int .i64 x).wf = true) (_ : (Lit.int .i64 M).wf = true) (_ : ∀ x ∈ st, (Lit.int .i64 x).wf = true) : ∃ (r0 : Bool) (r1 : Bool),
    (∀ (B : Nat) (v1 v2 : Value) (w : World), LstI B w v1 ts → LstI B w v2 st → B ≤ w.heap.size → Calls Try.prog 19 #[v1, .int .i64 M, v2] w fun e w' => e = .returned (.tuple #[.bool r0, .bool r1]) ∧ Below w.heap.size w w') ∧
    (∀ (B : Nat) (v1 v2 : Value) (w : World), LstI B w v1 ts → LstI B w v2 st → B ≤ w.heap.size → Calls Try.prog 20 #[v1, .int .i64 M, v2] w fun e w' => e = .returned (.tuple #[.bool r0, .bool r1]) ∧ Below w.heap.size w w') :=
  ⟨openOk ts st M, okOpen ts st M, fun B v1 v2 w h1 h2 hB => specIsOpenPlan_any B v1 v2 ts st M w h1 h2 hB, fun B v1 v2 w h1 h2 hB => implIsOpenPlan_any B v1 v2 ts st M w h1 h2 hB⟩
end Go.Proofs.Ytfigojmdklaljab
