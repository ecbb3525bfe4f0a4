/- Contracts: which routes are right. -/
import Derived.Test.YtfigojmdklaljabShopRows
import Derived.Test.YtfigojmdklaljabOrder
import Derived.Test.YtfigojmdklaljabMake
namespace Go.Proofs.Ytfigojmdklaljab
open Go.RowKit Go.Lst Go.Plan

def rowsOrd (rt : List Int) (m n : Nat) : Bool := (List.range n).all fun i => isOrd (rowOf rt m i) m
def canRoutes (rt : List Int) (M : Int) : Bool := rowsOk rt.length M && rowsOrd rt M.toNat (rt.length / M.toNat)
theorem rowsOrd_no {rt : List Int} {m n i : Nat} (hi : i < n) (h : isOrd (rowOf rt m i) m = false) : rowsOrd rt m n = false := by
  cases hq : rowsOrd rt m n
  · rfl
  · have := List.all_eq_true.1 hq i (List.mem_range.2 hi)
    rw [h] at this; cases this
theorem rowsOrd_yes {rt : List Int} {m n : Nat} (h : ∀ i, i < n → isOrd (rowOf rt m i) m = true) : rowsOrd rt m n = true :=
  List.all_eq_true.2 fun i hi => h i (List.mem_range.1 hi)
theorem rowOf_wf {rt : List Int} {m i : Nat} (h : ∀ x ∈ rt, (Lit.int .i64 x).wf = true) : ∀ x ∈ rowOf rt m i, (Lit.int .i64 x).wf = true := fun x hx =>
  h x (List.mem_of_mem_drop (List.mem_of_mem_take hx))
theorem isOrder_small {xs : List Int} {m : Nat} (h1 : 1 ≤ m) (h2 : m ≤ 8) : isOrder xs m = isOrd xs m := by
  unfold isOrder; rw [show inB (m : Int) 1 24 = true by simp [inB]; omega, Bool.true_and]

set_option maxHeartbeats 1000000 in
theorem wrongRoute_any (B : Nat) (v : Value) (p : Addr) (xs : List Int) (m : Nat) (w : World) (h : LstI B w v xs) (hB : B ≤ w.heap.size) (hp : w.cell? p = some (.int .i64 m)) (hm1 : 1 ≤ m) (hm8 : m ≤ 8) (hwf : ∀ x ∈ xs, (Lit.int .i64 x).wf = true) :
    Calls Try.prog 53 #[v, .pointer (some p)] w fun e w' => e = .returned (.bool (!isOrd xs m)) ∧ Below w.heap.size w w' := by
  have hO := Lib.hid (implIsOrder_any B v xs m w h hB hwf)
  rw [isOrder_small hm1 hm8] at hO
  clear h
  generalize isOrd xs m = q at *
  go_enter Try.func53, Try.ntmps53
  go_wp2_with fail
  with_reducible refine (hO.out).mono ?_
  rintro e w' ⟨rfl, hb⟩
  have hB1 := Lib.hid hb
  clear hb
  cases q
  · go_wp2_with fail
    go_ret
    exact ⟨rfl, hB1.out⟩
  · go_wp2_with fail
    go_ret
    exact ⟨rfl, hB1.out⟩
set_option maxHeartbeats 4000000 in
set_option maxRecDepth 100000 in
theorem routeIndex_any (B b o m n : Nat) (v : Value) (p : Addr) (rt : List Int) (w : World) (hr : LstK 1 w.heap.size w v n (rowsL b o m n)) (hrow : ∀ (w' : World) (i : Nat), Below w.heap.size w w' → i < n → LstI B w' (.slice (some ⟨b, o + i * m, none⟩) m m) (rowOf rt m i)) (hB : B ≤ w.heap.size)
    (hp : w.cell? p = some (.int .i64 m)) (hpb : p.block < w.heap.size) (hm1 : 1 ≤ m) (hm8 : m ≤ 8) (hn1 : 1 ≤ n) (hn24 : n ≤ 24) (hwf : ∀ x ∈ rt, (Lit.int .i64 x).wf = true) :
    Calls Try.prog 109 #[v, .func (.func 53) #[] #[.pointer (some p)]] w fun e w' => (∃ r : Int, e = .returned (.int .i64 r) ∧ -1 ≤ r ∧ decide (0 ≤ r) = !rowsOrd rt m n) ∧ Below w.heap.size w w' := by
  obtain ⟨a, cap, rfl, hl, hcp, hcm, _, hcc⟩ := hr
  obtain ⟨b3, o3, rfl, hb3, hrc⟩ := hcc (by omega)
  have hRow : Hid (∀ j, j < n → w.cell? ⟨b3, o3 + j, none⟩ = some (.slice (some ⟨b, o + j * m, none⟩) m m)) := Lib.hid fun j hj => hrc j _ (rowsL_get b o m n j hj)
  have hPart := Lib.hid hrow
  have hCl : Hid (∀ (w' : World) (i : Nat), Below w.heap.size w w' → i < n → Calls Try.prog 53 #[.slice (some ⟨b, o + i * m, none⟩) m m, .pointer (some p)] w' fun e w'' => e = .returned (.bool (!isOrd (rowOf rt m i) m)) ∧ Below w'.heap.size w' w'') := Lib.hid fun w' i hb hi =>
    wrongRoute_any B _ p (rowOf rt m i) m w' (hrow w' i hb hi) (Nat.le_trans hB hb.size) (by rw [hb.cell (p := p) hpb]; exact hp) hm1 hm8 (rowOf_wf hwf)
  have hNo : Hid (∀ (i : Nat), i < n → isOrd (rowOf rt m i) m = false → decide (0 ≤ (i : Int)) = !rowsOrd rt m n) := Lib.hid fun i hi h => by
    rw [rowsOrd_no hi h, decide_eq_true (by omega)]; rfl
  have hYes : Hid (∀ k, ¬ k < n → (∀ i, i < k → isOrd (rowOf rt m i) m = true) → decide (0 ≤ (-1 : Int)) = !rowsOrd rt m n) := Lib.hid fun k hk h => by
    rw [rowsOrd_yes fun i hi => h i (by omega)]; rfl
  clear hrow hrc hcc hp hwf
  unfold maxLen at hl hcm
  generalize rowsOrd rt m n = res at *
  go_enter Try.func109, Try.ntmps109
  go_wp2_with fail
  go_loopw [8] (fun i wr => ∃ k : Nat, k ≤ n ∧ i = .int .i64 k ∧ Hid (∀ i, i < k → isOrd (rowOf rt m i) m = true) ∧ Hid (Below w.heap.size w wr)) (fun i _ => n - (intOf i).toNat)
  case atStart => exact ⟨0, Nat.zero_le _, rfl, Lib.hid (fun i hi => by omega), Lib.hid (Below.refl _ _)⟩
  case round =>
    obtain ⟨k, hk, rfl, hP, hB1⟩ := hrel
    by_cases hlt : k < n
    · have hr0 := hRow.out k hlt
      rw [← hB1.out.cell (p := ⟨b3, o3 + k, none⟩) hb3] at hr0
      have hck := Lib.hid (hCl.out wr k hB1.out hlt)
      have hnk := Lib.hid (hNo.out k hlt)
      have hP3 : Hid (isOrd (rowOf rt m k) m = true → ∀ i, i < k + 1 → isOrd (rowOf rt m i) m = true) := Lib.hid fun h i hi => by
        by_cases e : i = k
        · subst e; exact h
        · exact hP.out i (by omega)
      generalize isOrd (rowOf rt m k) m = q at *
      generalize k * m = pk at *
      go_wp2_with fail
      with_reducible refine (hck.out).mono ?_
      rintro e w3 ⟨rfl, hb3'⟩
      have hB3 := Lib.hid (below_on hB1.out (Nat.le_refl _) hb3')
      clear hb3' hB1 hck hr0
      cases q
      · have hD := Lib.hid (hnk.out rfl)
        go_wp2_with fail
        go_ret
        exact ⟨⟨_, rfl, by omega, hD.out⟩, hB3.out⟩
      · have hP2 := Lib.hid (hP3.out rfl)
        go_wp2_with fail
        go_roundw
        case rel => exact ⟨k + 1, by omega, by go_num, hP2, hB3⟩
        case measure => simp [intOf]; omega
    · have hD := Lib.hid (hYes.out k hlt hP.out)
      go_wp2_with fail
      go_ret
      exact ⟨⟨_, rfl, by omega, hD.out⟩, hB1.out⟩
set_option maxHeartbeats 1000000 in
theorem routeContains_any (B b o m n : Nat) (v : Value) (p : Addr) (rt : List Int) (w : World) (hr : LstK 1 w.heap.size w v n (rowsL b o m n)) (hrow : ∀ (w' : World) (i : Nat), Below w.heap.size w w' → i < n → LstI B w' (.slice (some ⟨b, o + i * m, none⟩) m m) (rowOf rt m i)) (hB : B ≤ w.heap.size)
    (hp : w.cell? p = some (.int .i64 m)) (hpb : p.block < w.heap.size) (hm1 : 1 ≤ m) (hm8 : m ≤ 8) (hn1 : 1 ≤ n) (hn24 : n ≤ 24) (hwf : ∀ x ∈ rt, (Lit.int .i64 x).wf = true) :
    Calls Try.prog 55 #[v, .func (.func 53) #[] #[.pointer (some p)]] w fun e w' => e = .returned (.bool (!rowsOrd rt m n)) ∧ Below w.heap.size w w' := by
  have hI := Lib.hid (routeIndex_any B b o m n v p rt w hr hrow hB hp hpb hm1 hm8 hn1 hn24 hwf)
  generalize rowsOrd rt m n = res at *
  clear hr hrow hp hwf
  go_enter Try.func55, Try.ntmps55
  go_wp2_with fail
  with_reducible refine (hI.out).mono ?_
  rintro e w' ⟨⟨r, rfl, hr1, hr2⟩, hb⟩
  have hB1 := Lib.hid hb
  have hR2 := Lib.hid hr2
  clear hb hr2
  go_wp2_with fail
  go_ret
  exact ⟨ret_bool hR2.out, hB1.out⟩
set_option maxHeartbeats 2000000 in
theorem implAreRoutes_any (B : Nat) (v : Value) (rt : List Int) (M : Int) (w : World) (h : LstI B w v rt) (hB : B ≤ w.heap.size) (hwf : ∀ x ∈ rt, (Lit.int .i64 x).wf = true) :
    Calls Try.prog 22 #[v, .int .i64 M] w fun e w' => e = .returned (.bool (canRoutes rt M)) ∧ Below w.heap.size w w' := by
  obtain ⟨a, cap, rfl, hl, hcap, hcm, _⟩ := h.at_
  have hA := Lib.hid (fun w' => areRows_any rt.length M w' (by unfold maxLen at hl; omega))
  cases hq : rowsOk rt.length M
  · have hV := Lib.hid (show canRoutes rt M = false by unfold canRoutes; rw [hq]; rfl)
    rw [hq] at hA
    clear h hq
    generalize rt.length = L at *
    unfold maxLen at hl
    go_enter Try.func22, Try.ntmps22
    go_wp2_with (go_at_call 52; (with_reducible refine (hA.out _).mono ?_); rintro e w' ⟨rfl, rfl⟩)
    go_ret
    exact ⟨ret_bool hV.out.symm, below_alloc (Below.refl _ _) _⟩
  · obtain ⟨m, n, rfl, hm1, hm8, hn1, hn24, hlen⟩ := rowsOk_of hq
    have hL1 : 1 ≤ rt.length := by rw [hlen]; exact Nat.mul_pos hn1 hm1
    have hd : rt.length / m = n := by rw [hlen]; exact Nat.mul_div_cancel n (by omega)
    have hV := Lib.hid (show canRoutes rt m = rowsOrd rt m n by unfold canRoutes; rw [hq, Int.toNat_natCast, hd]; rfl)
    rw [hq] at hA
    obtain ⟨b1, o1, rfl, hb1⟩ := lstI_block h (by omega)
    have hRO := Lib.hid (fun w' => rowsOf_any b1 o1 m n cap w' hm1 hm8 hn24 (by rw [← hlen]; exact hcap) hcm)
    have hPart : Hid (∀ (w' : World) (i : Nat), Below w.heap.size w w' → i < n → LstI B w' (.slice (some ⟨b1, o1 + i * m, none⟩) m m) (rowOf rt m i)) := Lib.hid fun w' i hb hi =>
      lstI_part (h.below hb hB) (i * m) m m (by rw [hlen]; exact row_fit hi) (Nat.le_refl _) (by unfold maxLen; omega)
    rw [hlen] at hA ⊢
    have hCo : Hid (∀ (w5 : World) (v5 : Value), Below w.heap.size w w5 → LstK 1 w5.heap.size w5 v5 n (rowsL b1 o1 m n) → w5.cell? ⟨w.heap.size, 0, none⟩ = some (.int .i64 m) → w.heap.size < w5.heap.size → Calls Try.prog 55 #[v5, .func (.func 53) #[] #[.pointer (some ⟨w.heap.size, 0, none⟩)]] w5 fun e w' => e = .returned (.bool (!rowsOrd rt m n)) ∧ Below w5.heap.size w5 w') := Lib.hid fun w5 v5 hb hr hc hs =>
      routeContains_any B b1 o1 m n v5 ⟨w.heap.size, 0, none⟩ rt w5 hr (fun w' i hb' hi => hPart.out w' i (hb.trans (hb'.mono hb.size)) hi) (Nat.le_trans hB hb.size) hc hs hm1 hm8 hn1 hn24 hwf
    generalize rowsOrd rt m n = res at *
    clear h hq hlen hd hwf
    generalize n * m = L at *
    go_enter Try.func22, Try.ntmps22
    go_wp2_with fail
    have hb6 := Lib.hid (below_alloc (Below.refl w.heap.size w) (.cells #[.int .i64 m] 2))
    have hx6 := Lib.hid (Whole.made w 2 #[.int .i64 m] rfl)
    have c6 := hx6.out.at_ (i := 0) rfl
    generalize w.alloc _ = w6 at *
    go_wp2_with (go_at_call 52; (with_reducible refine (hA.out _).mono ?_); rintro e w' ⟨rfl, rfl⟩)
    with_reducible refine (hRO.out _).mono ?_
    rintro e w5 ⟨v5, rfl, ho5, hb5⟩
    have hc5 := Lib.hid (hCo.out w5 v5 (below_on hb6.out (Nat.le_refl _) hb5) (ho5.lstK (Nat.le_refl _)) ((hx6.out.kept hb5).at_ rfl) (by have := hx6.out.size; have := hb5.size; omega))
    have hB5 := Lib.hid (below_on hb6.out (Nat.le_refl _) hb5)
    clear ho5 hb5 c6
    go_wp2_with fail
    with_reducible refine (hc5.out).mono ?_
    rintro e w7 ⟨rfl, hb7⟩
    have hB7 := Lib.hid (below_on hB5.out (Nat.le_refl _) hb7)
    clear hb7
    cases res
    · go_wp2_with fail
      go_ret
      exact ⟨ret_bool (by rw [hV.out]), hB7.out⟩
    · go_wp2_with fail
      go_ret
      exact ⟨ret_bool (by rw [hV.out]), hB7.out⟩
theorem rowsOrd_pre {rt : List Int} {m k : Nat} (h : ∀ i, i < k → isOrd (rowOf rt m i) m = true) (hq : isOrd (rowOf rt m k) m = true) : ∀ i, i < k + 1 → isOrd (rowOf rt m i) m = true := fun i hi => by
  by_cases e : i = k
  · subst e; exact hq
  · exact h i (by omega)
set_option maxHeartbeats 4000000 in
set_option maxRecDepth 100000 in
theorem l04Routes_any (B : Nat) (v : Value) (rt : List Int) (M : Int) (w : World) (h : LstI B w v rt) :
    Calls Try.prog 51 #[v, .int .i64 M] w (Ret (.bool (canRoutes rt M)) w) := by
  obtain ⟨a, cap, rfl, hl, hcap, hcm, _⟩ := h.at_
  have hM := Lib.hid (l02Machines_any M w)
  cases h1 : inB M 1 8
  · have hV := Lib.hid (show canRoutes rt M = false by unfold canRoutes rowsOk; rw [h1]; rfl)
    rw [h1] at hM
    clear h
    generalize rt.length = n at *
    unfold maxLen at hl
    go_enter Try.func51, Try.ntmps51
    go_wp2_with (go_at_call 106; (with_reducible refine (hM.out).mono ?_); rintro e w' ⟨rfl, rfl⟩)
    go_ret
    exact ⟨0, ret_bool hV.out.symm, rfl⟩
  · obtain ⟨m1, m2⟩ := inB_true h1
    have hm0 : (M == 0) = false := by rw [beq_eq_false_iff_ne]; omega
    have q0 : 0 ≤ (rt.length : Int) / M := Int.ediv_nonneg (by omega) (by omega)
    have q1 : (rt.length : Int) / M ≤ rt.length := Int.ediv_le_self M (by omega)
    rw [h1] at hM
    by_cases h3 : rt.length < 1
    · have hV := Lib.hid (show canRoutes rt M = false by unfold canRoutes; rw [rowsOk_spec, decide_eq_true (show (rt.length : Int) < 1 by omega)]; simp)
      have hd : decide ((rt.length : Int) < 1) = true := by simp; omega
      clear h h1
      generalize rt.length = n at *
      unfold maxLen at hl
      go_enter Try.func51, Try.ntmps51
      go_wp2_with (go_at_call 106; (with_reducible refine (hM.out).mono ?_); rintro e w' ⟨rfl, rfl⟩)
      go_ret
      exact ⟨0, ret_bool hV.out.symm, rfl⟩
    · have hd : decide ((rt.length : Int) < 1) = false := by simp; omega
      by_cases h2 : (rt.length : Int) % M = 0
      · have hb : ((rt.length : Int) % M != 0) = false := by rw [bne_eq_false_iff_eq]; exact h2
        by_cases h4 : 24 < (rt.length : Int) / M
        · have hV := Lib.hid (show canRoutes rt M = false by unfold canRoutes; rw [rowsOk_spec, decide_eq_true h4]; simp)
          have hd2 : decide (24 < (rt.length : Int) / M) = true := decide_eq_true h4
          clear h h1 h2 h4
          generalize rt.length = n at *
          unfold maxLen at hl
          go_enter Try.func51, Try.ntmps51
          go_wp2_with (go_at_call 106; (with_reducible refine (hM.out).mono ?_); rintro e w' ⟨rfl, rfl⟩)
          go_ret
          exact ⟨0, ret_bool hV.out.symm, rfl⟩
        · have hd2 : decide (24 < (rt.length : Int) / M) = false := decide_eq_false h4
          have hR : rowsOk rt.length M = true := by rw [rowsOk_spec, h1, hd, hd2, decide_eq_true h2]; rfl
          obtain ⟨m, n, rfl, hm1, hm8, hn1, hn24, hlen⟩ := rowsOk_of hR
          have hL1 : 1 ≤ rt.length := by omega
          have hdv : rt.length / m = n := by rw [hlen]; exact Nat.mul_div_cancel n (by omega)
          have hVr : Hid (canRoutes rt m = rowsOrd rt m n) := Lib.hid (by unfold canRoutes; rw [hR, Int.toNat_natCast, hdv]; rfl)
          obtain ⟨b1, o1, rfl, hb1⟩ := lstI_block h (by omega)
          have hOr : Hid (∀ (i nd : Nat), i < n → Calls Try.prog 107 #[.slice (some ⟨b1, o1 + i * m, none⟩) m (cap - i * m), .int .i64 m] (w.drewN nd) (Ret (.bool (isOrd (rowOf rt m i) m)) (w.drewN nd))) := Lib.hid fun i nd hi => by
            have hfit := row_fit (m := m) hi
            exact l02Orders_any B _ (rowOf rt m i) m (w.drewN nd) ((lstI_part h (i * m) m (cap - i * m) (by omega) (by omega) (by omega)).drewN nd) (by omega) (by omega)
          have hFit : Hid (∀ k, k < n → k * m + m ≤ rt.length) := Lib.hid fun k hk => by rw [hlen]; exact row_fit hk
          have hEnd : Hid (∀ k, ¬ k < n → k ≤ n → k * m = rt.length) := Lib.hid fun k a b => by rw [hlen, show k = n by omega]
          have hNx : Hid (∀ k, (k + 1) * m = k * m + m) := Lib.hid fun k => by rw [Nat.add_mul, Nat.one_mul]
          have hL192 : rt.length ≤ 192 := by rw [hlen]; exact mul_le24 hn24 hm8
          clear h h1 h2 h4 hR hlen hdv
          generalize rt.length = L at *
          unfold maxLen at hl hcm
          go_enter Try.func51, Try.ntmps51
          go_wp2_with (go_at_call 106; (with_reducible refine (hM.out).mono ?_); rintro e w' ⟨rfl, rfl⟩)
          go_loopw [6] (fun i wr => ∃ k g nd : Nat, k ≤ n ∧ i = .int .i64 g ∧ Hid (g = k * m) ∧ Hid (∀ i, i < k → isOrd (rowOf rt m i) m = true) ∧ wr = w.drewN nd) (fun i _ => L - (intOf i).toNat)
          case atStart => exact ⟨0, 0, 0, Nat.zero_le _, rfl, Lib.hid (by rw [Nat.zero_mul]), Lib.hid (fun i hi => by omega), rfl⟩
          case round =>
            obtain ⟨k, g, nd, hk, rfl, hg, hP, rfl⟩ := hrel
            by_cases hlt : k < n
            · have hf := hFit.out k hlt
              have hck := Lib.hid (hOr.out k nd hlt)
              have hnk : Hid (isOrd (rowOf rt m k) m = false → canRoutes rt m = false) := Lib.hid fun h => hVr.out.trans (rowsOrd_no hlt h)
              have hP3 := Lib.hid (fun h => rowsOrd_pre hP.out h)
              have hN1 := Lib.hid (hNx.out k)
              rw [← hg.out] at hf
              rw [← hg.out] at hck hN1
              generalize isOrd (rowOf rt m k) m = q at *
              have hw1 : IntKind.i64.wrap ((g : Int) + (m : Int)) = ((g + m : Nat) : Int) := by rw [Int.natCast_add]; exact IntWalk.i64_in _ (by omega)
              have hsub : g + m - g = m := by omega
              have hne : cap ≠ g := by omega
              have hgl : (g : Int) < (L : Int) := by omega
              have hgl2 : g < L := by omega
              go_wp2_with fail
              with_reducible refine (hck.out).mono ?_
              rintro e w' ⟨nd2, rfl, rfl⟩
              cases q
              · have hV := Lib.hid (hnk.out rfl)
                go_wp2_with fail
                go_ret
                exact ⟨_, ret_bool hV.out.symm, rfl⟩
              · have hP2 := Lib.hid (hP3.out rfl)
                go_wp2_with fail
                go_roundw
                case rel => exact ⟨k + 1, g + m, _, by omega, by go_num, Lib.hid hN1.out.symm, hP2, rfl⟩
                case measure => simp [intOf]; omega
            · have hgL := hEnd.out k hlt hk
              rw [← hg.out] at hgL
              have hV := Lib.hid (hVr.out.trans (rowsOrd_yes fun i hi => hP.out i (by omega)))
              have hgl : decide (g < L) = false := by simp; omega
              have hgl3 : decide ((g : Int) < (L : Int)) = false := by simp; omega
              clear hg
              go_wp2_with fail
              go_ret
              exact ⟨_, ret_bool hV.out.symm, rfl⟩
      · have hb : ((rt.length : Int) % M != 0) = true := by rw [bne_iff_ne]; exact h2
        have hV := Lib.hid (show canRoutes rt M = false by unfold canRoutes rowsOk; rw [decide_eq_false h2, Bool.and_false]; rfl)
        clear h h1 h2
        generalize rt.length = n at *
        unfold maxLen at hl
        go_enter Try.func51, Try.ntmps51
        go_wp2_with (go_at_call 106; (with_reducible refine (hM.out).mono ?_); rintro e w' ⟨rfl, rfl⟩)
        go_ret
        exact ⟨0, ret_bool hV.out.symm, rfl⟩
set_option maxHeartbeats 400000 in
theorem specAreRoutes_any (B : Nat) (v : Value) (rt : List Int) (M : Int) (w : World) (h : LstI B w v rt) :
    Calls Try.prog 21 #[v, .int .i64 M] w (Ret (.bool (canRoutes rt M)) w) := by
  have hT := Lib.hid (l04Routes_any B v rt M w h)
  clear h
  go_enter Try.func21, Try.ntmps21
  go_wp2_with (go_at_call 51; (with_reducible refine (hT.out).mono ?_); rintro e w' ⟨nd, rfl, rfl⟩)
  go_ret
  exact ⟨nd, rfl, rfl⟩
theorem areRoutes_both (rt : List Int) (M : Int) (hw : ∀ x ∈ rt, (Lit.int .i64 x).wf = true) (_ : (Lit.int .i64 M).wf = true) : ∃ (r0 : Bool),
    (∀ (B : Nat) (v1 : Value) (w : World), LstI B w v1 rt → B ≤ w.heap.size → Calls Try.prog 21 #[v1, .int .i64 M] w fun e w' => e = .returned (.bool r0) ∧ Below w.heap.size w w') ∧
    (∀ (B : Nat) (v1 : Value) (w : World), LstI B w v1 rt → B ≤ w.heap.size → Calls Try.prog 22 #[v1, .int .i64 M] w fun e w' => e = .returned (.bool r0) ∧ Below w.heap.size w w') :=
  ⟨canRoutes rt M, fun B v1 w h1 _ => (specAreRoutes_any B v1 rt M w h1).mono fun _ _ hr => hr.below, fun B v1 w h1 hB => implAreRoutes_any B v1 rt M w h1 hB hw⟩
end Go.Proofs.Ytfigojmdklaljab
