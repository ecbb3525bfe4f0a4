/- Contracts: whether starts are a plan of a shop with routes. -/
import Derived.Test.YtfigojmdklaljabRouted
namespace Go.Proofs.Ytfigojmdklaljab
open Go.RowKit Go.Lst

/-- A step begins before the one ahead of it has ended. -/
def chainBad (ts st : List Int) (m i : Nat) : Bool := decide (0 < i % m) && decide (st.getD i 0 < st.getD (i - 1) 0 + ts.getD (i - 1) 0)
def chainTo (ts st : List Int) (m : Nat) : Nat → Bool
  | 0 => true
  | i + 1 => chainTo ts st m i && !chainBad ts st m i
theorem chainTo_no {ts st : List Int} {m i : Nat} (h : chainBad ts st m i = true) : ∀ j, i < j → chainTo ts st m j = false
  | 0, hj => by omega
  | j + 1, hj => by
    unfold chainTo
    by_cases e : i = j
    · subst e; rw [h]; simp
    · rw [chainTo_no h j (by omega)]; rfl
theorem chainTo_yes {ts st : List Int} {m i : Nat} (h : chainTo ts st m i = true) (h2 : chainBad ts st m i = false) : chainTo ts st m (i + 1) = true := by
  unfold chainTo; rw [h, h2]; rfl
theorem chainTo_at {ts st : List Int} {m i : Nat} : ∀ {j : Nat}, chainTo ts st m j = true → i < j → chainBad ts st m i = false
  | 0, _, hj => by omega
  | j + 1, h, hj => by
    unfold chainTo at h
    simp only [Bool.and_eq_true, Bool.not_eq_true'] at h
    by_cases e : i = j
    · subst e; exact h.2
    · exact chainTo_at h.1 (by omega)
theorem chain_job {ts st : List Int} {m i : Nat} (hm : 1 ≤ m) (hi : 1 ≤ i) : ((i - 1) / m = i / m) ↔ 0 < i % m := by
  have h1 := Nat.div_add_mod i m
  have h2 := Nat.mod_lt i (show 0 < m by omega)
  have h3 := Nat.div_add_mod (i - 1) m
  have h4 := Nat.mod_lt (i - 1) (show 0 < m by omega)
  constructor
  · intro h
    rw [h] at h3
    omega
  · intro h
    have : i - 1 = m * (i / m) + (i % m - 1) := by omega
    have e : (i - 1) / m = i / m + (i % m - 1) / m := by rw [this, Nat.mul_add_div (by omega)]
    rw [e, Nat.div_eq_of_lt (show i % m - 1 < m by omega), Nat.add_zero]
/-- Within a job, steps that keep their order do not meet. -/
theorem chain_far {ts st : List Int} {m L : Nat} (hm : 1 ≤ m) (ht : ∀ i, i < L → 0 ≤ ts.getD i 0) (h : chainTo ts st m L = true) {k : Nat} : ∀ d, k + 1 + d < L → (k + 1 + d) / m = k / m → st.getD k 0 + ts.getD k 0 ≤ st.getD (k + 1 + d) 0
  | 0, hd, he => by
    have h1 := chainTo_at h hd
    have h2 := (chain_job (ts := ts) (st := st) hm (show 1 ≤ k + 1 + 0 by omega)).1 (by rw [show k + 1 + 0 - 1 = k by omega]; exact he.symm)
    unfold chainBad at h1
    rw [decide_eq_true h2, Bool.true_and, decide_eq_false_iff_not] at h1
    rw [show k + 1 + 0 - 1 = k by omega] at h1
    omega
  | d + 1, hd, he => by
    have hmid : (k + 1 + d) / m = k / m := by
      have a := Nat.div_le_div_right (c := m) (show k ≤ k + 1 + d by omega)
      have b := Nat.div_le_div_right (c := m) (show k + 1 + d ≤ k + 1 + (d + 1) by omega)
      omega
    have ih := chain_far hm ht h d (by omega) hmid
    have h1 := chainTo_at h hd
    have h2 := (chain_job (ts := ts) (st := st) hm (show 1 ≤ k + 1 + (d + 1) by omega)).1 (by rw [show k + 1 + (d + 1) - 1 = k + 1 + d by omega, hmid, he])
    have h3 := ht (k + 1 + d) (by omega)
    unfold chainBad at h1
    rw [decide_eq_true h2, Bool.true_and, decide_eq_false_iff_not] at h1
    rw [show k + 1 + (d + 1) - 1 = k + 1 + d by omega] at h1
    omega
theorem apartIn_all {rt ts st : List Int} {m i : Nat} : ∀ k, (∀ j, j < k → meets rt ts st m i j = false) → apartIn rt ts st m i k = true
  | 0, _ => rfl
  | k + 1, h => apartIn_yes (apartIn_all k fun j hj => h j (by omega)) (h k (by omega))
theorem apartTo_all {rt ts st : List Int} {m : Nat} : ∀ L, (∀ i j, i < L → j < i → meets rt ts st m i j = false) → apartTo rt ts st m L = true
  | 0, _ => rfl
  | L + 1, h => apartTo_yes (apartTo_all L fun i j hi hj => h i j (by omega) hj) (apartIn_all L fun j hj => h L j (by omega) hj)
/-- On the same machine, at once. -/
def clash (rt ts st : List Int) (i k : Nat) : Bool := decide (rt.getD i 0 = rt.getD k 0) && overs ts st i k
theorem clash_meets {rt ts st : List Int} {m i k : Nat} (h : clash rt ts st i k = true) : meets rt ts st m i k = true := by
  simp only [clash, Bool.and_eq_true, decide_eq_true_eq] at h
  rw [meets_way h.1]; exact h.2
theorem plan_all {rt ts st : List Int} {m L : Nat} (hm : 1 ≤ m) (ht : ∀ i, i < L → 0 ≤ ts.getD i 0) (h : chainTo ts st m L = true) (hc : ∀ i k, i < L → k < i → clash rt ts st i k = false) : apartTo rt ts st m L = true :=
  apartTo_all L fun i k hi hk => by
    by_cases hj : i / m = k / m
    · rw [meets_job hj]
      have := chain_far hm ht h (k := k) (i - (k + 1)) (by omega) (by rw [show k + 1 + (i - (k + 1)) = i by omega]; exact hj)
      rw [show k + 1 + (i - (k + 1)) = i by omega] at this
      exact overs_no1 (by omega)
    · by_cases hr : rt.getD i 0 = rt.getD k 0
      · rw [meets_way hr]
        have := hc i k hi hk
        unfold clash at this
        rw [decide_eq_true hr, Bool.true_and] at this
        exact this
      · exact meets_no hj hr
def okPlan (rt ts st : List Int) (M : Int) : Bool := canRouted rt ts M && canStarts ts st
def planOk (rt ts st : List Int) (M : Int) : Bool := okPlan rt ts st M && (chainTo ts st M.toNat ts.length && apartTo rt ts st M.toNat ts.length)
theorem planOk_no {rt ts st : List Int} {M : Int} (h : okPlan rt ts st M = false) : planOk rt ts st M = false := by unfold planOk; rw [h]; rfl
theorem planOk_yes {rt ts st : List Int} {m : Nat} (h : okPlan rt ts st m = true) : planOk rt ts st m = (chainTo ts st m ts.length && apartTo rt ts st m ts.length) := by
  unfold planOk; rw [h, Int.toNat_natCast]; rfl

set_option maxHeartbeats 8000000 in
set_option maxRecDepth 100000 in
theorem implIsShopPlan_any (B : Nat) (v0 v1 v2 : Value) (rt ts st : List Int) (M : Int) (w : World) (h0 : LstI B w v0 rt) (h1 : LstI B w v1 ts) (h2 : LstI B w v2 st) (hB : B ≤ w.heap.size) (hwf : ∀ x ∈ rt, (Lit.int .i64 x).wf = true) :
    Calls Try.prog 30 #[v0, v1, .int .i64 M, v2] w (BoolPost (planOk rt ts st M) (okPlan rt ts st M) w) := by
  have hNo : Hid (okPlan rt ts st M = false → ∀ w', Below w.heap.size w w' → (BoolPost (planOk rt ts st M) (okPlan rt ts st M) w) (.returned (.tuple #[.bool false, .bool false])) w') := Lib.hid fun hq w' hb => bools_no (planOk_no hq) hq hb
  rcases (show canRouted rt ts M = false ∨ canRouted rt ts M = true by cases canRouted rt ts M <;> simp) with hq | hq
  · have hP := Lib.hid (hNo.out (by unfold okPlan; rw [hq]; rfl))
    have hS := Lib.hid (routedShop_no B v0 v1 rt ts M w h0 h1 hB hwf hq)
    generalize BoolPost (planOk rt ts st M) (okPlan rt ts st M) w = Q at *
    clear h0 h1 h2 hq hNo
    go_enter Try.func30, Try.ntmps30
    go_wp2_with fail
    with_reducible refine (hS.out).mono ?_
    rintro e w5 ⟨rfl, hb5⟩
    have hB5 := Lib.hid hb5
    clear hb5
    go_wp2_with fail
    exact hP.out _ (hB5.out.alloc hB5.out.size _)
  · obtain ⟨m, n, rfl, hm1, hm8, hn1, hn24, hlen, hd, ht, hc, hl2, hr, hon, -⟩ := canRouted_of hq
    have hL1 : 1 ≤ ts.length := by rw [hlen]; exact Nat.mul_pos hn1 hm1
    have h192 : ts.length ≤ 192 := by rw [hlen]; exact mul_le24 hn24 hm8
    obtain ⟨a1, cap1, rfl, -⟩ := id h1
    obtain ⟨b1, o1, rfl, -⟩ := lstI_block h1 (by omega)
    obtain ⟨a0, cap0, rfl, -⟩ := id h0
    obtain ⟨b0, o0, rfl, -⟩ := lstI_block h0 (by omega)
    have hP0 : Hid (canStarts ts st = true → ∀ w', Below w.heap.size w w' → ∀ b, (chainTo ts st m ts.length && apartTo rt ts st m ts.length) = b → BoolPost (planOk rt ts st m) (okPlan rt ts st m) w (.returned (.tuple #[.bool b, .bool true])) w') := Lib.hid fun hst w' hb b hbb => by
      have ho : okPlan rt ts st m = true := by unfold okPlan; rw [hq, hst]; rfl
      exact bools_yes ((planOk_yes ho).trans hbb) ho hb
    have hN2 : Hid (canStarts ts st = false → ∀ w', Below w.heap.size w w' → BoolPost (planOk rt ts st m) (okPlan rt ts st m) w (.returned (.tuple #[.bool false, .bool false])) w') := Lib.hid fun hst => hNo.out (by unfold okPlan; rw [hst, Bool.and_false])
    have hE : Hid (∀ (w5 w7 : World) (s : Value), Below w.heap.size w w5 → Shop w5.heap.size w5 s ts rt m n → Below w5.heap.size w5 w7 → Calls Try.prog 49 #[s, v2] w7 fun e w' => e = .returned (.bool (canStarts ts st)) ∧ Below w7.heap.size w7 w') := Lib.hid fun w5 w7 s hb5 hS5 hb7 =>
      areStarts_any w5.heap.size s v2 ts _ st m n w7 (hS5.below hb7 (Nat.le_refl _)) hlen (((h2.below hb5 hB).mono (Nat.le_trans hB hb5.size)).below hb7 (Nat.le_refl _)) hb7.size h192
    have hK : Hid (canStarts ts st = true → ∀ (w5 w7 : World) (s : Value), Below w.heap.size w w5 → Shop w5.heap.size w5 s ts rt m n → Below w5.heap.size w5 w7 → Calls Try.prog 50 #[s, v2] w7 fun e w' => e = .returned (.bool (apartTo rt ts st m ts.length)) ∧ Below w7.heap.size w7 w') := Lib.hid fun hst w5 w7 s hb5 hS5 hb7 =>
      keepsApart_any w5.heap.size s v2 ts _ st m n w7 (hS5.below hb7 (Nat.le_refl _)) (((h2.below hb5 hB).mono (Nat.le_trans hB hb5.size)).below hb7 (Nat.le_refl _)) hb7.size hm1 hlen h192 hl2 ht hst
    rw [hl2] at h0 ⊢
    rw [hlen] at h0 h1 ⊢
    have hS := Lib.hid (routedShop_yes B b0 o0 cap0 b1 o1 cap1 m n rt ts w h0 h1 hB hm1 hm8 hn1 hn24 hlen hc hr hwf)
    have hC2 : Hid (canStarts ts st = true → st.length = ts.length ∧ ∀ i, i < ts.length → ∃ a2 b o cap2, v2 = .slice a2 ts.length cap2 ∧ ts.length ≤ maxLen ∧ a2 = some ⟨b, o, none⟩ ∧ b < B ∧ ∀ q, q < ts.length → w.cell? ⟨b, o + q, none⟩ = some (.int .i64 (st.getD q 0)) ∧ 0 ≤ st.getD q 0 ∧ st.getD q 0 ≤ 1000000) := Lib.hid fun hst => by
      obtain ⟨hsl, hsb⟩ := canStarts_of hst
      refine ⟨hsl, fun i hi => ?_⟩
      obtain ⟨a2, cap2, hv, hl, _, _, hc2⟩ := h2.at_
      obtain ⟨b, o, x, hh, hb, hx, hcc⟩ := hc2 i (by omega)
      refine ⟨a2, b, o, cap2, by rw [← hsl]; exact hv, by omega, hh, hb, fun q hq => ?_⟩
      obtain ⟨b', o', x', hh', hb', hx', hcc'⟩ := hc2 q (by omega)
      rw [hh] at hh'
      injection hh' with hh'; injection hh' with q1 q2 q3
      subst q1 q2
      have := hsb q x' hx'
      rw [getD_of hx']
      exact ⟨hcc', by omega, by omega⟩
    have hTb : Hid (∀ i, i < ts.length → 0 ≤ ts.getD i 0 ∧ ts.getD i 0 ≤ 10000) := Lib.hid fun i hi => by have := all_at ht hi; omega
    have hFc : Hid (∀ i, i < ts.length → chainBad ts st m i = true → (chainTo ts st m ts.length && apartTo rt ts st m ts.length) = false) := Lib.hid fun i a b => by rw [chainTo_no b _ a]; rfl
    have hAc : Hid (∀ i, chainTo ts st m i = true → chainBad ts st m i = false → chainTo ts st m (i + 1) = true) := Lib.hid fun i a b => chainTo_yes a b
    have hC1 : Hid (chainTo ts st m 1 = true) := Lib.hid (by show (true && !chainBad ts st m 0) = true; unfold chainBad; rw [Nat.zero_mod]; rfl)
    have hBc : Hid (∀ i, 1 ≤ i → (i - 1) / m ≠ i / m → chainBad ts st m i = false) := Lib.hid fun i a b => by
      unfold chainBad
      rw [decide_eq_false fun h => b ((chain_job (ts := ts) (st := st) hm1 a).2 h)]; rfl
    have hBd : Hid (∀ i, 1 ≤ i → (i - 1) / m = i / m → chainBad ts st m i = decide (st.getD i 0 < st.getD (i - 1) 0 + ts.getD (i - 1) 0)) := Lib.hid fun i a b => by
      unfold chainBad
      rw [decide_eq_true ((chain_job (ts := ts) (st := st) hm1 a).1 b)]; rfl
    have hEnd : Hid (∀ b, chainTo ts st m ts.length = true → apartTo rt ts st m ts.length = b → (chainTo ts st m ts.length && apartTo rt ts st m ts.length) = b) := Lib.hid fun b h h2 => by rw [h, h2]; rfl
    have hT5 : Hid (∀ (w5 : World) (s : Value), Shop w5.heap.size w5 s ts rt m n → ∃ b' o' cap' ar cr at' ct, s = .agg #[.int .i64 m, .slice (some ⟨b', o', none⟩) ts.length cap', .slice ar n cr, .slice at' ts.length ct] ∧ b' < w5.heap.size ∧ ∀ q, q < ts.length → w5.cell? ⟨b', o' + q, none⟩ = some (.int .i64 (ts.getD q 0))) := Lib.hid fun w5 s hs => by
      obtain ⟨b', o', cap', vr, vt, rfl, ht5, hr5, hm5⟩ := hs
      obtain ⟨ar, cr, rfl, -⟩ := hr5
      obtain ⟨at', ct, rfl, -⟩ := hm5
      obtain ⟨a, c, hv, _, _, _, hcc⟩ := ht5.at_
      injection hv with e1 e2 e3
      subst e1
      have hcell : ∀ q, q < ts.length → b' < w5.heap.size ∧ w5.cell? ⟨b', o' + q, none⟩ = some (.int .i64 (ts.getD q 0)) := fun q hq => by
        obtain ⟨b, o, x, hh, hb, hx, hc⟩ := hcc q hq
        injection hh with hh; injection hh with q1 q2 q3
        subst q1 q2
        exact ⟨hb, by rw [getD_of hx]; exact hc⟩
      exact ⟨b', o', cap', ar, cr, at', ct, by rw [hl2, hlen], (hcell 0 (by omega)).1, fun q hq => (hcell q hq).2⟩
    generalize BoolPost (planOk rt ts st m) (okPlan rt ts st m) w = Q at *
    generalize hch : (chainTo ts st m ts.length && apartTo rt ts st m ts.length) = fin at *
    rw [← hlen] at *
    clear h0 h1 h2 hq hlen hd hc hr hl2 hon ht hNo hch
    generalize apartTo rt ts st m ts.length = ap at *
    cases hst : canStarts ts st
    · have hR := Lib.hid (hN2.out hst)
      rw [hst] at hE
      clear hP0 hN2 hK hC2 hFc hAc hC1 hBc hBd hEnd
      generalize ts.length = L at *
      go_enter Try.func30, Try.ntmps30
      go_wp2_with fail
      with_reducible refine (hS.out).mono ?_
      rintro e w5 ⟨s, rfl, hs5, hb5⟩
      have hS5 := Lib.hid hs5
      have hB5 := Lib.hid hb5
      obtain ⟨b', o', cap', ar, cr, at', ct, rfl, -, -⟩ := hT5.out w5 s hs5
      clear hb5 hs5
      go_wp2_with fail
      with_reducible refine (hE.out w5 _ _ hB5.out hS5.out (below_alloc (Below.refl _ _) _)).mono ?_
      rintro e w' ⟨rfl, hb8⟩
      have hR2 := Lib.hid (hR.out w' (below_on (hB5.out.alloc hB5.out.size _) (Nat.le_refl _) hb8))
      clear hb8
      go_wp2_with fail
      exact hR2.out
    · have hP := Lib.hid (hP0.out hst)
      have hK2 := Lib.hid (hK.out hst)
      obtain ⟨-, hcs⟩ := hC2.out hst
      obtain ⟨a2, b2, o2, cap2, rfl, hl2, rfl, hb2, hcs2⟩ := hcs 0 (by omega)
      have hCs := Lib.hid hcs2
      have hbw : b2 < w.heap.size := by omega
      rw [hst] at hE
      clear hP0 hN2 hK hC2 hcs hcs2
      generalize ts.length = L at *
      unfold maxLen at hl2
      go_enter Try.func30, Try.ntmps30
      go_wp2_with fail
      with_reducible refine (hS.out).mono ?_
      rintro e w5 ⟨s, rfl, hs5, hb5⟩
      have hS5 := Lib.hid hs5
      have hB5 := Lib.hid hb5
      obtain ⟨b', o', cap', ar, cr, at', ct, rfl, hbb, htc⟩ := hT5.out w5 s hs5
      have hTc := Lib.hid htc
      clear hb5 hs5 htc
      go_wp2_with fail
      have hb6 := Lib.hid (below_alloc (Below.refl w5.heap.size w5) (.cells #[.int .i64 m, .slice (some ⟨b', o', none⟩) L cap', .slice ar n cr, .slice at' L ct] 46))
      have hx6 := Lib.hid (Whole.made w5 46 #[.int .i64 m, .slice (some ⟨b', o', none⟩) L cap', .slice ar n cr, .slice at' L ct] rfl)
      with_reducible refine (hE.out w5 _ _ hB5.out hS5.out hb6.out).mono ?_
      rintro e w7 ⟨rfl, hb8⟩
      have hB7 := Lib.hid (below_on hb6.out (Nat.le_refl _) hb8)
      have hx7 := Lib.hid (hx6.out.kept hb8)
      clear hb8 hx6 hb6
      generalize hgx : w5.heap.size = gx at *
      have hGX := Lib.hid hgx
      clear hgx
      have hws : w.heap.size ≤ gx := by rw [← hGX.out]; exact hB5.out.size
      go_wp2_with fail
      go_loopw [12] (fun iv wr => ∃ i : Nat, 1 ≤ i ∧ i ≤ L ∧ iv = .int .i64 i ∧ Hid (chainTo ts st m i = true) ∧ Hid (Whole wr gx 46 #[.int .i64 m, .slice (some ⟨b', o', none⟩) L cap', .slice ar n cr, .slice at' L ct]) ∧ Hid (Below gx w5 wr)) (fun iv _ => L - (intOf iv).toNat)
      case atStart => exact ⟨1, Nat.le_refl _, hL1, rfl, hC1, hx7, hB7⟩
      case round =>
        clear hx7 hB7
        obtain ⟨i, hi1, hi, rfl, hPo, hX, hBr⟩ := hrel
        have hGx : gx < wr.heap.size := hX.out.size
        have c0 := hX.out.at_ (i := 0) rfl
        have c1 := hX.out.at_ (i := 1) rfl
        have c2 := hX.out.at_ (i := 2) rfl
        have c3 := hX.out.at_ (i := 3) rfl
        by_cases hlt : i < L
        · obtain ⟨si', hsi⟩ := hCs.out i hlt
          obtain ⟨sk', hsk⟩ := hCs.out (i - 1) (by omega)
          have tk := hTc.out (i - 1) (by omega)
          have hxk := hTb.out (i - 1) (by omega)
          have tk0 : wr.cell? ⟨b', o' + (i - 1), none⟩ = some (.int .i64 (ts.getD (i - 1) 0)) := by rw [hBr.out.cell (p := ⟨b', o' + (i - 1), none⟩) (by show b' < gx; exact hbb)]; exact tk
          have si0 : wr.cell? ⟨b2, o2 + i, none⟩ = some (.int .i64 (st.getD i 0)) := by rw [hBr.out.cell (p := ⟨b2, o2 + i, none⟩) (by show b2 < gx; omega), hB5.out.cell (p := ⟨b2, o2 + i, none⟩) hbw]; exact si'
          have sk0 : wr.cell? ⟨b2, o2 + (i - 1), none⟩ = some (.int .i64 (st.getD (i - 1) 0)) := by rw [hBr.out.cell (p := ⟨b2, o2 + (i - 1), none⟩) (by show b2 < gx; omega), hB5.out.cell (p := ⟨b2, o2 + (i - 1), none⟩) hbw]; exact sk'
          have nc0 := near_cell c0
          have nc1 := near_cell c1
          have nc2 := near_cell c2
          have nc3 := near_cell c3
          have nsi := near_cell si0
          have hJi := Lib.hid (fun p : Near wr.heap.size wr => jobOf_any m i L cap' n cr L ct (some ⟨b', o', none⟩) ar at' p.at_ hm1 (by omega))
          have hJk := Lib.hid (fun p : Near wr.heap.size wr => jobOf_any m (i - 1) L cap' n cr L ct (some ⟨b', o', none⟩) ar at' p.at_ hm1 (by omega))
          have hEk := Lib.hid (fun p : Near wr.heap.size wr => endOf_any m (i - 1) L cap' n cr L ct L cap2 b' o' b2 o2 ar at' _ _ p.at_ (by omega) (by omega) h192 (near_cell tk0 p) (near_cell sk0 p) hxk hsk)
          have hw0 : IntKind.i64.wrap ((i : Int) - 1) = ((i - 1 : Nat) : Int) := by rw [show (i : Int) - 1 = ((i - 1 : Nat) : Int) by omega]; exact IntWalk.i64_in _ (by omega)
          have hFc2 := Lib.hid (hFc.out i hlt)
          have hAc2 := Lib.hid (hAc.out i hPo.out)
          have hBc2 := Lib.hid (hBc.out i hi1)
          have hBd2 := Lib.hid (hBd.out i hi1)
          have hiL : (i : Int) < (L : Int) := by omega
          clear si' sk' tk
          generalize ts.getD (i - 1) 0 = xk at *
          generalize st.getD i 0 = si at *
          generalize st.getD (i - 1) 0 = sk at *
          generalize i / m = ji at *
          generalize (i - 1) / m = jk at *
          generalize chainBad ts st m i = cb at *
          generalize i - 1 = k at *
          by_cases hj : jk = ji
          · have hjb : ((jk : Int) == (ji : Int)) = true := by rw [beq_iff_eq]; omega
            by_cases hc : si < sk + xk
            · have hR := Lib.hid (hFc2.out ((hBd2.out hj).trans (decide_eq_true (by omega))))
              clear hAc2 hBc2 hBd2
              go_wp2_with fail
              refine wp_region_near (by kernel_rfl) (by kernel_rfl) ?_
              repeat (go_big_quiet_step (first | (go_at_call 64; with_reducible exact near_of (Nat.le_refl _) (hJi.out _)) | (go_at_call 64; with_reducible exact near_of (Nat.le_refl _) (hJk.out _)) | (go_at_call 65; with_reducible exact near_of (Nat.le_refl _) (hEk.out _))))
              refine wpQuiet_nil ?_
              rintro _ ⟨pq, rfl⟩
              have hP2 := Lib.hid (hP.out pq.at_ (hB5.out.trans ((hBr.out.trans (pq.below.mono (Nat.le_of_lt hGx))).mono hws)) false hR.out)
              go_wp2_with fail
              exact hP2.out
            · have hPo2 := Lib.hid (hAc2.out ((hBd2.out hj).trans (decide_eq_false (by omega))))
              have hcd : decide (si < sk + xk) = false := by simp; omega
              clear hBc2 hBd2
              go_wp2_with fail
              refine wp_region_near (by kernel_rfl) (by kernel_rfl) ?_
              repeat (go_big_quiet_step (first | (go_at_call 64; with_reducible exact near_of (Nat.le_refl _) (hJi.out _)) | (go_at_call 64; with_reducible exact near_of (Nat.le_refl _) (hJk.out _)) | (go_at_call 65; with_reducible exact near_of (Nat.le_refl _) (hEk.out _))))
              refine wpQuiet_nil ?_
              rintro _ ⟨pq, rfl⟩
              have hXq := Lib.hid (hX.out.below pq.below hGx)
              have hBq := Lib.hid (hBr.out.trans (pq.below.mono (Nat.le_of_lt hGx)))
              go_wp2_with fail
              go_roundw
              case rel => exact ⟨i + 1, by omega, by omega, by go_num, hPo2, hXq, hBq⟩
              case measure => simp [intOf]; omega
          · have hjb : ((jk : Int) == (ji : Int)) = false := by rw [beq_eq_false_iff_ne]; omega
            have hPo2 := Lib.hid (hAc2.out (hBc2.out hj))
            clear hBc2 hBd2
            go_wp2_with fail
            refine wp_region_near (by kernel_rfl) (by kernel_rfl) ?_
            repeat (go_big_quiet_step (first | (go_at_call 64; with_reducible exact near_of (Nat.le_refl _) (hJi.out _)) | (go_at_call 64; with_reducible exact near_of (Nat.le_refl _) (hJk.out _)) | (go_at_call 65; with_reducible exact near_of (Nat.le_refl _) (hEk.out _))))
            refine wpQuiet_nil ?_
            rintro _ ⟨pq, rfl⟩
            have hXq := Lib.hid (hX.out.below pq.below hGx)
            have hBq := Lib.hid (hBr.out.trans (pq.below.mono (Nat.le_of_lt hGx)))
            go_wp2_with fail
            go_roundw
            case rel => exact ⟨i + 1, by omega, by omega, by go_num, hPo2, hXq, hBq⟩
            case measure => simp [intOf]; omega
        · obtain rfl : L = i := by omega
          have hE2 := Lib.hid (hEnd.out ap hPo.out rfl)
          go_wp2_with fail
          with_reducible refine (hK2.out w5 _ _ hB5.out (by rw [hGX.out]; exact hS5.out) (by rw [hGX.out]; exact hBr.out)).mono ?_
          rintro e w' ⟨rfl, hb9⟩
          have hR2 := Lib.hid (hP.out w' (hB5.out.trans ((hBr.out.trans (hb9.mono (Nat.le_of_lt hGx))).mono hws)) ap hE2.out)
          clear hb9
          go_wp2_with fail
          exact hR2.out
set_option maxHeartbeats 8000000 in
set_option maxRecDepth 100000 in
theorem specIsShopPlan_any (B : Nat) (v0 v1 v2 : Value) (rt ts st : List Int) (M : Int) (w : World) (h0 : LstI B w v0 rt) (h1 : LstI B w v1 ts) (h2 : LstI B w v2 st) (hB : B ≤ w.heap.size) :
    Calls Try.prog 29 #[v0, v1, .int .i64 M, v2] w (BoolPost (planOk rt ts st M) (okPlan rt ts st M) w) := by
  have hC := Lib.hid (l04Shop_any B v0 v1 rt ts M w h0 h1)
  have hS := Lib.hid (fun nd => l04Starts_any B v1 v2 ts st (w.drewN nd) (h1.drewN nd) (h2.drewN nd))
  have hNo : Hid (okPlan rt ts st M = false → ∀ w', Below w.heap.size w w' → (BoolPost (planOk rt ts st M) (okPlan rt ts st M) w) (.returned (.tuple #[.bool false, .bool false])) w') := Lib.hid fun hq w' hb => bools_no (planOk_no hq) hq hb
  rcases (show canRouted rt ts M = false ∨ canRouted rt ts M = true by cases canRouted rt ts M <;> simp) with hq | hq
  · have hP := Lib.hid (fun nd => hNo.out (by unfold okPlan; rw [hq]; rfl) (w.drewN nd) (below_drawn w nd))
    rw [hq] at hC
    generalize BoolPost (planOk rt ts st M) (okPlan rt ts st M) w = Q at *
    clear h0 h1 h2 hq hNo hS
    go_enter Try.func29, Try.ntmps29
    go_wp2_with fail
    with_reducible refine (hC.out).mono ?_
    rintro e w' ⟨nd, rfl, rfl⟩
    go_wp2_with fail
    first | exact hP.out _ | (go_ret2; exact hP.out _)
  · cases hst : canStarts ts st
    · have hP := Lib.hid (fun nd => hNo.out (by unfold okPlan; rw [hst, Bool.and_false]) (w.drewN nd) (below_drawn w nd))
      rw [hq] at hC
      rw [hst] at hS
      generalize BoolPost (planOk rt ts st M) (okPlan rt ts st M) w = Q at *
      clear h0 h1 h2 hq hNo hst
      go_enter Try.func29, Try.ntmps29
      go_wp2_with fail
      with_reducible refine (hC.out).mono ?_
      rintro e w' ⟨nd, rfl, rfl⟩
      go_wp2_with fail
      with_reducible refine (hS.out nd).mono ?_
      rintro e w' ⟨rfl, rfl⟩
      go_wp2_with fail
      first | exact hP.out _ | (go_ret2; exact hP.out _)
    · obtain ⟨m, n, rfl, hm1, hm8, hn1, hn24, hlen, hd, ht, hc, hrl, hr, hon, -⟩ := canRouted_of hq
      obtain ⟨hsl, hsb⟩ := canStarts_of hst
      have hL1 : 1 ≤ ts.length := by rw [hlen]; exact Nat.mul_pos hn1 hm1
      have h192 : ts.length ≤ 192 := by rw [hlen]; exact mul_le24 hn24 hm8
      have ho : okPlan rt ts st m = true := by unfold okPlan; rw [hq, hst]; rfl
      have hP0 : Hid (∀ (b : Bool) w', (chainTo ts st m ts.length && apartTo rt ts st m ts.length) = b → Below w.heap.size w w' → BoolPost (planOk rt ts st m) (okPlan rt ts st m) w (.returned (.tuple #[.bool b, .bool true])) w') := Lib.hid fun b w' hap hb =>
        bools_yes ((planOk_yes ho).trans hap) ho hb
      have hTb : ∀ i, i < ts.length → 0 ≤ ts.getD i 0 ∧ ts.getD i 0 ≤ 10000 := fun i hi => by have := all_at ht hi; omega
      have hFc : Hid (∀ i, i < ts.length → chainBad ts st m i = true → (chainTo ts st m ts.length && apartTo rt ts st m ts.length) = false) := Lib.hid fun i a b => by rw [chainTo_no b _ a]; rfl
      have hFw : Hid (∀ i k, i < ts.length → k < i → clash rt ts st i k = true → (chainTo ts st m ts.length && apartTo rt ts st m ts.length) = false) := Lib.hid fun i k a b c => by rw [apartTo_no (clash_meets c) b _ a, Bool.and_false]
      have hYes : Hid (chainTo ts st m ts.length = true → (∀ i k, i < ts.length → k < i → clash rt ts st i k = false) → (chainTo ts st m ts.length && apartTo rt ts st m ts.length) = true) := Lib.hid fun a b => by
        rw [a, plan_all hm1 (fun i hi => (hTb i hi).1) a b]; rfl
      have hAc : Hid (∀ i, chainTo ts st m i = true → chainBad ts st m i = false → chainTo ts st m (i + 1) = true) := Lib.hid fun i a b => chainTo_yes a b
      have hBd : Hid (∀ i, chainBad ts st m i = (decide (0 < i % m) && decide (st.getD i 0 < st.getD (i - 1) 0 + ts.getD (i - 1) 0))) := Lib.hid fun i => rfl
      have hClo : Hid (∀ i k, rt.getD i 0 = rt.getD k 0 → clash rt ts st i k = overs ts st i k) := Lib.hid fun i k a => by unfold clash; rw [decide_eq_true a]; rfl
      have hCln : Hid (∀ i k, rt.getD i 0 ≠ rt.getD k 0 → clash rt ts st i k = false) := Lib.hid fun i k a => by unfold clash; rw [decide_eq_false a]; rfl
      have hOv : Hid (∀ i k, overs ts st i k = (decide (st.getD i 0 < st.getD k 0 + ts.getD k 0) && decide (st.getD k 0 < st.getD i 0 + ts.getD i 0))) := Lib.hid fun i k => rfl
      have hT0 : Hid (chainTo ts st m 0 = true) := Lib.hid rfl
      rw [hq] at hC
      rw [hst] at hS
      obtain ⟨a0, cap0, rfl, hl0, -, -, hc0⟩ := h0.at_
      obtain ⟨b0, o0, rfl, -⟩ := lstI_block h0 (by omega)
      obtain ⟨a1, cap1, rfl, hl1, -, -, hc1⟩ := h1.at_
      obtain ⟨b1, o1, rfl, -⟩ := lstI_block h1 (by omega)
      obtain ⟨a2, cap2, rfl, hl2, -, -, hc2⟩ := h2.at_
      obtain ⟨b2, o2, rfl, -⟩ := lstI_block h2 (by omega)
      rw [hrl] at hC hc0 hl0 ⊢
      rw [hsl] at hS hc2 hl2 ⊢
      have hR : Hid (∀ i, i < ts.length → w.cell? ⟨b0, o0 + i, none⟩ = some (.int .i64 (rt.getD i 0))) := Lib.hid fun i hi => by
        obtain ⟨b, o, x, hh, hb, hx, hc⟩ := hc0 i hi
        injection hh with hh; injection hh with q1 q2 q3
        subst q1 q2
        rw [getD_of hx]; exact hc
      have hT : Hid (∀ i, i < ts.length → w.cell? ⟨b1, o1 + i, none⟩ = some (.int .i64 (ts.getD i 0)) ∧ 0 ≤ ts.getD i 0 ∧ ts.getD i 0 ≤ 10000) := Lib.hid fun i hi => by
        obtain ⟨b, o, x, hh, hb, hx, hc⟩ := hc1 i hi
        injection hh with hh; injection hh with q1 q2 q3
        subst q1 q2
        have := ht i x hx
        rw [getD_of hx]
        exact ⟨hc, by omega, by omega⟩
      have hSt : Hid (∀ i, i < ts.length → w.cell? ⟨b2, o2 + i, none⟩ = some (.int .i64 (st.getD i 0)) ∧ 0 ≤ st.getD i 0 ∧ st.getD i 0 ≤ 1000000) := Lib.hid fun i hi => by
        obtain ⟨b, o, x, hh, hb, hx, hc⟩ := hc2 i hi
        injection hh with hh; injection hh with q1 q2 q3
        subst q1 q2
        have := hsb i x hx
        rw [getD_of hx]
        exact ⟨hc, by omega, by omega⟩
      have hm0 : ((m : Int) == 0) = false := by rw [beq_eq_false_iff_ne]; omega
      have hmz : ¬ m = 0 := by omega
      generalize BoolPost (planOk rt ts st m) (okPlan rt ts st m) w = Q at *
      generalize hch : (chainTo ts st m ts.length && apartTo rt ts st m ts.length) = fin at *
      clear h0 h1 h2 hc0 hc1 hc2 hq hst hlen ht hsl hsb ho hNo hch hrl hr hon hd hTb hc
      generalize ts.length = L at *
      unfold maxLen at hl0 hl1 hl2
      go_enter Try.func29, Try.ntmps29
      go_wp2_with fail
      with_reducible refine (hC.out).mono ?_
      rintro e w' ⟨nd0, rfl, rfl⟩
      go_wp2_with fail
      with_reducible refine (hS.out nd0).mono ?_
      rintro e w' ⟨rfl, rfl⟩
      go_wp2_with fail
      clear hC hS
      go_loopw [10] (fun iv wr => ∃ i nd : Nat, i ≤ L ∧ iv = .int .i64 i ∧ Hid (chainTo ts st m i = true) ∧ Hid (∀ j k, j < i → k < j → clash rt ts st j k = false) ∧ wr = w.drewN nd) (fun iv _ => L - (intOf iv).toNat)
      case atStart => exact ⟨0, nd0, Nat.zero_le _, rfl, hT0, Lib.hid (fun j k hj => by omega), rfl⟩
      case round =>
        obtain ⟨i, nd, hi, rfl, hPo, hPc, rfl⟩ := hrel
        by_cases hlt : i < L
        · have hFc2 := Lib.hid (hFc.out i hlt)
          have hAc2 := Lib.hid (hAc.out i hPo.out)
          have hBd2 := Lib.hid (hBd.out i)
          obtain ⟨sc0, hsi⟩ := hSt.out i hlt
          have sci : (w.drewN nd).cell? ⟨b2, o2 + i, none⟩ = some (.int .i64 (st.getD i 0)) := sc0
          have hri := imod i m
          have hci : i % m < m := Nat.mod_lt _ (by omega)
          have him : i % m ≤ i := Nat.mod_le i m
          obtain ⟨nd1, hstep⟩ : ∃ x : Nat, x = x := ⟨0, rfl⟩
          clear hstep sc0
          generalize i % m = ri at *
          generalize chainBad ts st m i = cb at *
          by_cases hr0 : 0 < ri
          · obtain ⟨sck, hsk⟩ := hSt.out (i - 1) (by omega)
            obtain ⟨tck, hxk⟩ := hT.out (i - 1) (by omega)
            have sc1 : (w.drewN nd).cell? ⟨b2, o2 + (i - 1), none⟩ = some (.int .i64 (st.getD (i - 1) 0)) := sck
            have tc1 : (w.drewN nd).cell? ⟨b1, o1 + (i - 1), none⟩ = some (.int .i64 (ts.getD (i - 1) 0)) := tck
            have hw0 : IntKind.i64.wrap ((i : Int) - 1) = ((i - 1 : Nat) : Int) := by rw [show (i : Int) - 1 = ((i - 1 : Nat) : Int) by omega]; exact IntWalk.i64_in _ (by omega)
            have hkL : ((i - 1 : Nat) : Int) < (L : Int) := by omega
            have hiL : (i : Int) < (L : Int) := by omega
            have hrp : (0 : Int) < (ri : Int) := by omega
            clear sck tck
            generalize st.getD (i - 1) 0 = sk at *
            generalize ts.getD (i - 1) 0 = xk at *
            generalize st.getD i 0 = si at *
            generalize i - 1 = k1 at *
            have hw1 : IntKind.i64.wrap (sk + xk) = sk + xk := IntWalk.i64_in _ (by omega)
            generalize hwo : w.drewN nd = wo at *
            have hWo := Lib.hid hwo
            clear hwo
            by_cases hc : si < sk + xk
            · have hR := Lib.hid (fun nq => hP0.out false ((w.drewN nd).drewN nq) (hFc2.out (hBd2.out.trans (by rw [decide_eq_true hr0, decide_eq_true hc]; rfl))) (Lst.Below.drewN (below_drawn w nd) nq))
              rw [hWo.out] at hR
              clear hAc2 hBd2
              go_wp2_with fail
              go_quiet (fail)
              go_wp2_with fail
              first | exact hR.out _ | (go_ret2; exact hR.out _)
            · have hPo2 := Lib.hid (hAc2.out (hBd2.out.trans (by rw [decide_eq_false hc, Bool.and_false])))
              have hcd : decide (si < sk + xk) = false := by simp; omega
              clear hAc2 hBd2 hFc2
              go_wp2_with fail
              go_quiet (fail)
              rw [← hWo.out, World.drewN_drewN]
              go_wp2_with fail
              go_loopw [11] (fun kv wr => ∃ k nd : Nat, k ≤ i ∧ kv = .int .i64 k ∧ Hid (∀ j, j < k → clash rt ts st i j = false) ∧ wr = w.drewN nd) (fun kv _ => i - (intOf kv).toNat)
              case atStart => exact ⟨0, _, Nat.zero_le _, rfl, Lib.hid (fun j hj => by omega), rfl⟩
              case round =>
                obtain ⟨k, nd, hk, rfl, hP, rfl⟩ := hrel
                by_cases hlk : k < i
                · have hkL : k < L := by omega
                  obtain ⟨ti, hxi⟩ := hT.out i hlt
                  obtain ⟨tk, hxk⟩ := hT.out k hkL
                  obtain ⟨si', hsi⟩ := hSt.out i hlt
                  obtain ⟨sk', hsk⟩ := hSt.out k hkL
                  have r0 := hR.out i hlt
                  have r1 := hR.out k hkL
                  have hOver := Lib.hid (fun nd => l04Over_any L cap1 L cap2 b1 o1 b2 o2 i k _ _ _ _ (w.drewN nd) hlt hkL hlt hkL h192 ti tk si' sk' hxi hxk hsi hsk)
                  have hClo2 := Lib.hid (hClo.out i k)
                  have hCln2 := Lib.hid (hCln.out i k)
                  have hFa := Lib.hid (hFw.out i k hlt hlk)
                  have hP3 : Hid (clash rt ts st i k = false → ∀ j, j < k + 1 → clash rt ts st i j = false) := Lib.hid fun h j hj => by
                    by_cases e : j = k
                    · subst e; exact h
                    · exact hP.out j (by omega)
                  rw [← hOv.out] at hOver
                  have hkL2 : (k : Int) < (L : Int) := by omega
                  clear ti tk si' sk' hxi hxk hsk
                  generalize rt.getD i 0 = ri2 at *
                  generalize rt.getD k 0 = rk2 at *
                  generalize clash rt ts st i k = mv at *
                  generalize overs ts st i k = ov at *
                  by_cases hr : ri2 = rk2
                  · have hMv := Lib.hid (hClo2.out hr)
                    have hrb : (ri2 == rk2) = true := by rw [beq_iff_eq]; exact hr
                    clear hClo2 hCln2
                    cases ov
                    · have hP2 := Lib.hid (hP3.out hMv.out)
                      go_wp2_with fail
                      go_quiet ((go_at_call 48; with_reducible exact Ret.over (hOver.out _)))
                      go_wp2_with fail
                      go_roundw
                      case rel => exact ⟨k + 1, _, by omega, by go_num, hP2, by first | rfl | rw [World.drewN_drewN]⟩
                      case measure => simp [intOf]; omega
                    · have hRr := Lib.hid (fun nq => hP0.out false _ (hFa.out hMv.out) (below_drawn w nq))
                      go_wp2_with fail
                      go_quiet ((go_at_call 48; with_reducible exact Ret.over (hOver.out _)))
                      try rw [World.drewN_drewN]
                      go_wp2_with fail
                      first | exact hRr.out _ | (go_ret2; exact hRr.out _)
                  · have hP2 := Lib.hid (hP3.out (hCln2.out hr))
                    have hrb : (ri2 == rk2) = false := by rw [beq_eq_false_iff_ne]; exact hr
                    clear hClo2 hCln2 hOver
                    go_wp2_with fail
                    go_quiet (fail)
                    go_wp2_with fail
                    go_roundw
                    case rel => exact ⟨k + 1, _, by omega, by go_num, hP2, by first | rfl | rw [World.drewN_drewN]⟩
                    case measure => simp [intOf]; omega
                · obtain rfl : i = k := by omega
                  have hPc2 : Hid (∀ j k, j < i + 1 → k < j → clash rt ts st j k = false) := Lib.hid fun j k hj hkj => by
                    by_cases e : j = i
                    · subst e; exact hP.out k hkj
                    · exact hPc.out j k (by omega) hkj
                  go_wp2_with fail
                  go_roundw
                  case rel => exact ⟨i + 1, nd, by omega, by go_num, hPo2, hPc2, rfl⟩
                  case measure => simp [intOf]; omega
          · have hPo2 := Lib.hid (hAc2.out (hBd2.out.trans (by rw [decide_eq_false hr0]; rfl)))
            have hrz : ri = 0 := by omega
            have hiL : (i : Int) < (L : Int) := by omega
            subst hrz
            clear hAc2 hBd2 hFc2
            generalize st.getD i 0 = si at *
            generalize hwo : w.drewN nd = wo at *
            have hWo := Lib.hid hwo
            clear hwo
            go_wp2_with fail
            go_quiet (fail)
            rw [← hWo.out, World.drewN_drewN]
            go_wp2_with fail
            go_loopw [11] (fun kv wr => ∃ k nd : Nat, k ≤ i ∧ kv = .int .i64 k ∧ Hid (∀ j, j < k → clash rt ts st i j = false) ∧ wr = w.drewN nd) (fun kv _ => i - (intOf kv).toNat)
            case atStart => exact ⟨0, _, Nat.zero_le _, rfl, Lib.hid (fun j hj => by omega), rfl⟩
            case round =>
              obtain ⟨k, nd, hk, rfl, hP, rfl⟩ := hrel
              by_cases hlk : k < i
              · have hkL : k < L := by omega
                obtain ⟨ti, hxi⟩ := hT.out i hlt
                obtain ⟨tk, hxk⟩ := hT.out k hkL
                obtain ⟨si', hsi⟩ := hSt.out i hlt
                obtain ⟨sk', hsk⟩ := hSt.out k hkL
                have r0 := hR.out i hlt
                have r1 := hR.out k hkL
                have hOver := Lib.hid (fun nd => l04Over_any L cap1 L cap2 b1 o1 b2 o2 i k _ _ _ _ (w.drewN nd) hlt hkL hlt hkL h192 ti tk si' sk' hxi hxk hsi hsk)
                have hClo2 := Lib.hid (hClo.out i k)
                have hCln2 := Lib.hid (hCln.out i k)
                have hFa := Lib.hid (hFw.out i k hlt hlk)
                have hP3 : Hid (clash rt ts st i k = false → ∀ j, j < k + 1 → clash rt ts st i j = false) := Lib.hid fun h j hj => by
                  by_cases e : j = k
                  · subst e; exact h
                  · exact hP.out j (by omega)
                rw [← hOv.out] at hOver
                have hkL2 : (k : Int) < (L : Int) := by omega
                clear ti tk si' sk' hxi hxk hsk
                generalize rt.getD i 0 = ri2 at *
                generalize rt.getD k 0 = rk2 at *
                generalize clash rt ts st i k = mv at *
                generalize overs ts st i k = ov at *
                by_cases hr : ri2 = rk2
                · have hMv := Lib.hid (hClo2.out hr)
                  have hrb : (ri2 == rk2) = true := by rw [beq_iff_eq]; exact hr
                  clear hClo2 hCln2
                  cases ov
                  · have hP2 := Lib.hid (hP3.out hMv.out)
                    go_wp2_with fail
                    go_quiet ((go_at_call 48; with_reducible exact Ret.over (hOver.out _)))
                    go_wp2_with fail
                    go_roundw
                    case rel => exact ⟨k + 1, _, by omega, by go_num, hP2, by first | rfl | rw [World.drewN_drewN]⟩
                    case measure => simp [intOf]; omega
                  · have hRr := Lib.hid (fun nq => hP0.out false _ (hFa.out hMv.out) (below_drawn w nq))
                    go_wp2_with fail
                    go_quiet ((go_at_call 48; with_reducible exact Ret.over (hOver.out _)))
                    try rw [World.drewN_drewN]
                    go_wp2_with fail
                    first | exact hRr.out _ | (go_ret2; exact hRr.out _)
                · have hP2 := Lib.hid (hP3.out (hCln2.out hr))
                  have hrb : (ri2 == rk2) = false := by rw [beq_eq_false_iff_ne]; exact hr
                  clear hClo2 hCln2 hOver
                  go_wp2_with fail
                  go_quiet (fail)
                  go_wp2_with fail
                  go_roundw
                  case rel => exact ⟨k + 1, _, by omega, by go_num, hP2, by first | rfl | rw [World.drewN_drewN]⟩
                  case measure => simp [intOf]; omega
              · obtain rfl : i = k := by omega
                have hPc2 : Hid (∀ j k, j < i + 1 → k < j → clash rt ts st j k = false) := Lib.hid fun j k hj hkj => by
                  by_cases e : j = i
                  · subst e; exact hP.out k hkj
                  · exact hPc.out j k (by omega) hkj
                go_wp2_with fail
                go_roundw
                case rel => exact ⟨i + 1, nd, by omega, by go_num, hPo2, hPc2, rfl⟩
                case measure => simp [intOf]; omega
        · obtain rfl : L = i := by omega
          have hR := Lib.hid (hP0.out true _ (hYes.out hPo.out hPc.out) (below_drawn w nd))
          go_wp2_with fail
          first | exact hR.out | (go_ret2; exact hR.out)
theorem isShopPlan_both (rt ts : List Int) (M : Int) (st : List Int) (hw : ∀ x ∈ rt, (Lit.int .i64 x).wf = true) (_ : ∀ x ∈ ts, (Lit.int .i64 x).wf = true) (_ : (Lit.int .i64 M).wf = true) (_ : ∀ x ∈ st, (Lit.int .i64 x).wf = true) : ∃ (r0 : Bool) (r1 : Bool),
    (∀ (B : Nat) (v0 v1 v2 : Value) (w : World), LstI B w v0 rt → LstI B w v1 ts → LstI B w v2 st → B ≤ w.heap.size → Calls Try.prog 29 #[v0, v1, .int .i64 M, v2] w fun e w' => e = .returned (.tuple #[.bool r0, .bool r1]) ∧ Below w.heap.size w w') ∧
    (∀ (B : Nat) (v0 v1 v2 : Value) (w : World), LstI B w v0 rt → LstI B w v1 ts → LstI B w v2 st → B ≤ w.heap.size → Calls Try.prog 30 #[v0, v1, .int .i64 M, v2] w fun e w' => e = .returned (.tuple #[.bool r0, .bool r1]) ∧ Below w.heap.size w w') :=
  ⟨planOk rt ts st M, okPlan rt ts st M, fun B v0 v1 v2 w h0 h1 h2 hB => specIsShopPlan_any B v0 v1 v2 rt ts st M w h0 h1 h2 hB, fun B v0 v1 v2 w h0 h1 h2 hB => implIsShopPlan_any B v0 v1 v2 rt ts st M w h0 h1 h2 hB hw⟩
end Go.Proofs.Ytfigojmdklaljab
