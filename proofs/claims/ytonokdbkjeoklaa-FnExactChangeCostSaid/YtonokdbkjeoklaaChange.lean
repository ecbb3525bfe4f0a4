/- Contracts: costs of changes, and what all changes of an order cost. -/
import Derived.Test.YtonokdbkjeoklaaOrder
import Derived.IntWalk
namespace Go.Proofs.Ytonokdbkjeoklaa
open Go.RowKit Go.Lst Go.Plan

def areChg (cs : List Int) (n : Int) : Bool := inB n 1 10 && decide ((cs.length : Int) = n * n) && allIn cs 0 10000
/-- The job before the one at place k; the first one stands before itself. -/
def prevOf (o : List Int) (k : Nat) : Int := o.getD (k - 1) 0
def chgTo (cs o : List Int) (n : Nat) : Nat → Int
  | 0 => 0
  | k + 1 => chgTo cs o n k + cs.getD ((prevOf o k).toNat * n + (o.getD k 0).toNat) 0
theorem areChg_of {cs : List Int} {n : Int} (h : areChg cs n = true) : (1 ≤ n ∧ n ≤ 10) ∧ (cs.length : Int) = n * n ∧ ∀ (i : Nat) (x : Int), cs[i]? = some x → 0 ≤ x ∧ x ≤ 10000 := by
  simp only [areChg, Bool.and_eq_true, decide_eq_true_eq] at h
  exact ⟨inB_true h.1.1, h.1.2, fun i x hx => allIn_of h.2 hx⟩
/-- What is known at place k: the job before, the job, and the cost. -/
theorem chg_at {cs o : List Int} {n : Nat} (hc : areChg cs n = true) (ho : isOrd o n = true) {k : Nat} (hk : k < n) :
    ∃ (l j p : Nat) (x : Int), o[k - 1]? = some (l : Int) ∧ o[k]? = some (j : Int) ∧ l < n ∧ j < n ∧ p = l * n + j ∧ p < cs.length ∧ cs[p]? = some x ∧ 0 ≤ x ∧ x ≤ 10000 ∧ chgTo cs o n (k + 1) = chgTo cs o n k + x := by
  have hl := isOrd_len ho
  obtain ⟨h1, h2, h3⟩ := areChg_of hc
  have e1 : o[k]? = some (o[k]'(by omega)) := List.getElem?_eq_getElem _
  have e0 : o[k - 1]? = some (o[k - 1]'(by omega)) := List.getElem?_eq_getElem _
  obtain ⟨g1, g2⟩ := isOrd_get ho e1
  obtain ⟨g3, g4⟩ := isOrd_get ho e0
  obtain ⟨j, hj⟩ := Int.eq_ofNat_of_zero_le g1
  obtain ⟨l, hl2⟩ := Int.eq_ofNat_of_zero_le g3
  rw [hj] at e1 g2
  rw [hl2] at e0 g4
  have hln : l < n := by omega
  have hjn : j < n := by omega
  have hlen : cs.length = n * n := by exact_mod_cast h2
  have hp : l * n + j < cs.length := by
    rw [hlen]
    have : (l + 1) * n ≤ n * n := Nat.mul_le_mul_right n hln
    rw [Nat.add_mul, Nat.one_mul] at this
    omega
  have e2 : cs[l * n + j]? = some (cs[l * n + j]'hp) := List.getElem?_eq_getElem _
  refine ⟨l, j, _, _, e0, e1, hln, hjn, rfl, hp, e2, (h3 _ _ e2).1, (h3 _ _ e2).2, ?_⟩
  show chgTo cs o n k + cs.getD ((prevOf o k).toNat * n + (o.getD k 0).toNat) 0 = _
  unfold prevOf
  rw [getD_of e0, getD_of e1, Int.toNat_natCast, Int.toNat_natCast, getD_of e2]
theorem mul_small {a b : Nat} (ha : a ≤ 10) (hb : b ≤ 10) : a * b ≤ 100 := Nat.mul_le_mul ha hb

set_option maxHeartbeats 1000000 in
theorem areChanges_any (B : Nat) (v : Value) (cs : List Int) (n : Int) (w : World) (h : LstI B w v cs) :
    Calls Try.prog 73 #[v, .int .i64 n] w fun e w' => e = .returned (.bool (areChg cs n)) ∧ w = w' := by
  have hA := Lib.hid (areWithin_any B v cs 0 10000 w h.lst)
  obtain ⟨a, cap, hv, hl, _⟩ := h.at_
  subst hv
  unfold areChg
  clear h
  generalize allIn cs 0 10000 = q at *
  generalize cs.length = m at *
  unfold maxLen at hl
  cases hq : inB n 1 10
  · go_enter Try.func73, Try.ntmps73
    go_wp2_with (go_at_call 50; refine (isWithin_any _ _ _ _).mono ?_; rintro e w' ⟨rfl, rfl⟩)
    go_ret
    exact ⟨rfl, rfl⟩
  · obtain ⟨n1, n2⟩ := inB_true hq
    have hnn : 0 ≤ n * n ∧ n * n ≤ 100 := ⟨Int.mul_nonneg (by omega) (by omega), by
      have := Int.mul_le_mul n2 n2 (by omega) (by omega); omega⟩
    have hw : IntKind.i64.wrap (n * n) = n * n := IntWalk.i64_in _ (by omega)
    by_cases he : (m : Int) = n * n
    · have hb : ((m : Int) == n * n) = true := by rw [beq_iff_eq]; exact he
      rw [decide_eq_true he, Bool.true_and, Bool.true_and]
      clear he
      go_enter Try.func73, Try.ntmps73
      go_wp2_with (first | (go_at_call 51; refine (hA.out).mono ?_; rintro e w' ⟨rfl, rfl⟩) | (go_at_call 50; refine (isWithin_any _ _ _ _).mono ?_; rintro e w' ⟨rfl, rfl⟩))
      go_ret
      exact ⟨rfl, rfl⟩
    · have hb : ((m : Int) == n * n) = false := by rw [beq_eq_false_iff_ne]; exact he
      rw [decide_eq_false he, Bool.true_and, Bool.false_and]
      clear he
      go_enter Try.func73, Try.ntmps73
      go_wp2_with (first | (go_at_call 51; refine (hA.out).mono ?_; rintro e w' ⟨rfl, rfl⟩) | (go_at_call 50; refine (isWithin_any _ _ _ _).mono ?_; rintro e w' ⟨rfl, rfl⟩))
      go_ret
      exact ⟨rfl, rfl⟩
set_option maxHeartbeats 1000000 in
theorem l02Changes_any (B : Nat) (v : Value) (xs : List Int) (n : Int) (w : World) (h : LstI B w v xs) :
    Calls Try.prog 72 #[v, .int .i64 n] w fun e w' => e = .returned (.bool (areChg xs n)) ∧ w = w' := by
  obtain ⟨a, cap, rfl, hl, _, _, hc⟩ := h.at_
  cases hq : inB n 1 10
  · have hV := Lib.hid (show areChg xs n = false by unfold areChg; rw [hq]; rfl)
    generalize xs.length = m at *
    clear h hc
    go_enter Try.func72, Try.ntmps72
    go_wp2_with (go_at_call 55; refine (l00In_any _ _ _ _).mono ?_; rintro e w' ⟨rfl, rfl⟩)
    go_ret
    exact ⟨ret_bool (by rw [hV.out]), rfl⟩
  · obtain ⟨n1, n2⟩ := inB_true hq
    have hnn : 0 ≤ n * n ∧ n * n ≤ 100 := ⟨Int.mul_nonneg (by omega) (by omega), by
      have := Int.mul_le_mul n2 n2 (by omega) (by omega); omega⟩
    have hw : IntKind.i64.wrap (n * n) = n * n := IntWalk.i64_in _ (by omega)
    by_cases he : (xs.length : Int) = n * n
    · have hN : Hid (∀ k, k = xs.length → (∀ i x, i < k → xs[i]? = some x → inB x 0 10000 = true) → areChg xs n = true) := Lib.hid fun k hk hp => by
        unfold areChg allIn
        rw [all_upto fun i x hi hx => hp i x (by omega) hx, hq, decide_eq_true he]; rfl
      have hM : Hid (∀ (i : Nat) (x : Int), xs[i]? = some x → inB x 0 10000 = false → areChg xs n = false) := Lib.hid fun i x hx hq => by
        unfold areChg allIn
        rw [all_not hx hq, Bool.and_false]
      have hb : ((xs.length : Int) != n * n) = false := by rw [bne_eq_false_iff_eq]; exact he
      have hC := Lib.hid hc
      clear hc h he
      generalize xs.length = m at *
      unfold maxLen at hl
      go_enter Try.func72, Try.ntmps72
      go_wp2_with (go_at_call 55; refine (l00In_any _ _ _ _).mono ?_; rintro e w' ⟨rfl, rfl⟩)
      go_loopw [5] (fun i wr => ∃ k : Nat, k ≤ m ∧ i = .int .i64 k ∧ Hid (∀ i x, i < k → xs[i]? = some x → inB x 0 10000 = true) ∧ wr = w) (fun i _ => m - (intOf i).toNat)
      case atStart => exact ⟨0, Nat.zero_le _, rfl, Lib.hid (fun i x hi _ => by omega), rfl⟩
      case round =>
        obtain ⟨k, hk, rfl, hP, rfl⟩ := hrel
        by_cases hlt : k < m
        · obtain ⟨b, o, x, rfl, _, hx, hcell⟩ := hC.out k hlt
          have hXx := Lib.hid hx
          clear hx
          cases hq : inB x 0 10000
          · have hF := Lib.hid (hM.out k x hXx.out hq)
            go_wp2_with (go_at_call 55; refine (l00In_any _ _ _ _).mono ?_; rintro e w' ⟨rfl, rfl⟩)
            go_ret
            exact ⟨ret_bool (by rw [hF.out]), rfl⟩
          · have hP2 : Hid (∀ i y, i < k + 1 → xs[i]? = some y → inB y 0 10000 = true) := Lib.hid fun i y hi hy => by
              by_cases h1 : i < k
              · exact hP.out i y h1 hy
              · have : i = k := by omega
                subst this
                rw [hXx.out] at hy
                cases hy
                exact hq
            go_wp2_with (go_at_call 55; refine (l00In_any _ _ _ _).mono ?_; rintro e w' ⟨rfl, rfl⟩)
            go_roundw
            case rel => exact ⟨k + 1, by omega, by go_num, hP2, by trivial⟩
            case measure => simp [intOf]; omega
        · have hF := Lib.hid (hN.out k (by omega) hP.out)
          go_wp2
          go_ret
          exact ⟨ret_bool (by rw [hF.out]), rfl⟩
    · have hV := Lib.hid (show areChg xs n = false by unfold areChg; rw [decide_eq_false he, Bool.and_false]; rfl)
      have hb : ((xs.length : Int) != n * n) = true := by rw [bne_iff_ne]; exact he
      clear he hc h
      generalize xs.length = m at *
      unfold maxLen at hl
      go_enter Try.func72, Try.ntmps72
      go_wp2_with (go_at_call 55; refine (l00In_any _ _ _ _).mono ?_; rintro e w' ⟨rfl, rfl⟩)
      go_ret
      exact ⟨ret_bool (by rw [hV.out]), rfl⟩

def canChg (cs o : List Int) : Bool := areChg cs o.length && isOrd o o.length
def chgRes (cs o : List Int) : Int := if canChg cs o then chgTo cs o o.length o.length else 0
theorem canChg_order {cs o : List Int} (h : areChg cs o.length = true) : isOrder o o.length = isOrd o o.length := by
  have := (areChg_of h).1
  unfold isOrder
  rw [show inB (o.length : Int) 1 24 = true by simp [inB]; omega, Bool.true_and]

set_option maxHeartbeats 4000000 in
theorem implChangeCost_any (B : Nat) (v1 v2 : Value) (o cs : List Int) (w : World) (h1 : LstI B w v1 o) (h2 : LstI B w v2 cs) (hB : B ≤ w.heap.size) (hwf : ∀ x ∈ o, (Lit.int .i64 x).wf = true) :
    Calls Try.prog 45 #[v1, v2] w fun e w' => e = .returned (.tuple #[.int .i64 (chgRes cs o), .bool (canChg cs o)]) ∧ Below w.heap.size w w' := by
  obtain ⟨a1, cap1, hv1, hl1, _, _, hc1⟩ := h1.at_
  have hA := Lib.hid (areChanges_any B v2 cs o.length w h2)
  cases hq : areChg cs o.length
  · have hV := Lib.hid (show canChg cs o = false by unfold canChg; rw [hq]; rfl)
    have hR := Lib.hid (show chgRes cs o = 0 by unfold chgRes; rw [hV.out]; rfl)
    rw [hR.out, hV.out]
    rw [hq] at hA
    subst hv1
    clear h1 h2 hc1 hq
    generalize o.length = n at *
    unfold maxLen at hl1
    go_enter Try.func45, Try.ntmps45
    go_wp2_with (go_at_call 73; refine (hA.out).mono ?_; rintro e w' ⟨rfl, rfl⟩)
    go_ret2
    exact ⟨rfl, Below.refl _ _⟩
  · have hO := Lib.hid (implIsOrder_any B v1 o o.length w h1 hB hwf)
    rw [canChg_order hq] at hO
    cases hq2 : isOrd o o.length
    · have hV := Lib.hid (show canChg cs o = false by unfold canChg; rw [hq2, Bool.and_false])
      have hR := Lib.hid (show chgRes cs o = 0 by unfold chgRes; rw [hV.out]; rfl)
      rw [hR.out, hV.out]
      rw [hq] at hA
      rw [hq2] at hO
      subst hv1
      clear h1 h2 hc1 hq hq2
      generalize o.length = n at *
      unfold maxLen at hl1
      go_enter Try.func45, Try.ntmps45
      go_wp2_with (first | (go_at_call 73; refine (hA.out).mono ?_; rintro e w' ⟨rfl, rfl⟩) | (go_at_call 24; refine (hO.out).mono ?_; rintro e w1 ⟨rfl, hb1⟩; have hB1 := Lib.hid hb1; clear hb1))
      go_ret2
      exact ⟨rfl, hB1.out⟩
    · have hV := Lib.hid (show canChg cs o = true by unfold canChg; rw [hq, hq2]; rfl)
      have hR := Lib.hid (show chgRes cs o = chgTo cs o o.length o.length by unfold chgRes; rw [hV.out]; rfl)
      rw [hR.out, hV.out]
      obtain ⟨⟨n1, n2⟩, _, _⟩ := areChg_of hq
      have hK : Hid (∀ k, k < o.length → _) := Lib.hid fun k (hk : k < o.length) => chg_at hq hq2 hk
      obtain ⟨a2, cap2, rfl, hl2, _, _, hc2⟩ := h2.at_
      have hC1 := Lib.hid hc1
      have hC2 := Lib.hid hc2
      rw [hq] at hA
      rw [hq2] at hO
      subst hv1
      clear h1 h2 hc1 hc2 hq hq2
      generalize hon : o.length = n at *
      have hON := Lib.hid hon
      clear hon
      generalize cs.length = m at *
      unfold maxLen at hl1 hl2
      obtain ⟨l0, j0, p0, x0, g0, g1, g2, g3, _⟩ := hK.out 0 (by omega)
      obtain ⟨b1, o1, y0, rfl, hb1, hy0, hcell0⟩ := hC1.out 0 (by omega)
      obtain rfl : y0 = (j0 : Int) := by rw [g1] at hy0; exact (Option.some.inj hy0).symm
      have hF := Lib.hid g1
      rw [Nat.add_zero] at hcell0
      clear g0 g1 hy0
      go_enter Try.func45, Try.ntmps45
      go_wp2_with fail
      refine (hA.out).mono ?_
      rintro e w' ⟨rfl, rfl⟩
      go_wp2_with fail
      refine (hO.out).mono ?_
      rintro e w1 ⟨rfl, hbo⟩
      have hB1 := Lib.hid hbo
      rw [← hbo.cell (p := ⟨b1, o1, none⟩) (show b1 < w.heap.size by omega)] at hcell0
      clear hbo
      go_wp2_with fail
      go_loopw [7, 8, 28] (fun s lv i wr => ∃ (k l : Nat) (z : Int), k ≤ n ∧ i = .int .i64 k ∧ s = .int .i64 z ∧ lv = .int .i64 l ∧ Hid (o[k - 1]? = some (l : Int)) ∧ Hid (z = chgTo cs o n k) ∧ 0 ≤ z ∧ z ≤ 10000 * k ∧ wr = w1) (fun _ _ i _ => n - (intOf i).toNat)
      case atStart => exact ⟨0, j0, 0, Nat.zero_le _, rfl, rfl, rfl, hF, Lib.hid rfl, by omega, by omega, rfl⟩
      case round =>
        obtain ⟨k, l, z, hk, rfl, rfl, rfl, hL, hZ, z1, z2, rfl⟩ := hrel
        by_cases hlt : k < n
        · obtain ⟨l', j, p, x, k0, k1, k2, k3, k4, k5, k6, x1, x2, k7⟩ := hK.out k hlt
          obtain rfl : l' = l := by have := hL.out; rw [k0] at this; have := Option.some.inj this; omega
          obtain ⟨b1', o1', y, hab, _, hy, hcell⟩ := hC1.out k hlt
          injection hab with hab
          injection hab with e1 e2 _
          subst e1 e2
          obtain rfl : y = (j : Int) := by rw [k1] at hy; exact (Option.some.inj hy).symm
          obtain ⟨b2, o2, x', rfl, hb2, hx', hcell2⟩ := hC2.out p k5
          obtain rfl : x' = x := by rw [k6] at hx'; exact (Option.some.inj hx').symm
          rw [← hB1.out.cell (p := ⟨b1, o1 + k, none⟩) (show b1 < w.heap.size by omega)] at hcell
          rw [← hB1.out.cell (p := ⟨b2, o2 + p, none⟩) (show b2 < w.heap.size by omega)] at hcell2
          have hL2 := Lib.hid (show o[k + 1 - 1]? = some (j : Int) from k1)
          have hZ2 := Lib.hid (show z + x' = chgTo cs o n (k + 1) by rw [k7, hZ.out])
          have hm := mul_small (a := l') (b := n) (by omega) (by omega)
          have hw1 : IntKind.i64.wrap ((l' : Int) * (n : Int)) = ((l' * n : Nat) : Int) := by rw [Int.natCast_mul]; exact IntWalk.i64_in _ (by rw [← Int.natCast_mul]; omega)
          have hw2 : IntKind.i64.wrap (((l' * n : Nat) : Int) + (j : Int)) = (p : Int) := by rw [show ((l' * n : Nat) : Int) + (j : Int) = (p : Int) by rw [k4]; omega]; exact IntWalk.i64_in _ (by omega)
          generalize l' * n = q at *
          clear k0 k1 hy k6 hx' k7 k4 hm hb2
          go_wp2_with fail
          go_roundw
          case rel => exact ⟨k + 1, j, _, by omega, by go_num, rfl, rfl, hL2, hZ2, by omega, by omega, by trivial⟩
          case measure => simp [intOf]; omega
        · have hZ2 := Lib.hid (show z = chgTo cs o n n by rw [hZ.out, show k = n by omega])
          go_wp2
          go_ret2
          exact ⟨ret_ib hZ2.out, hB1.out⟩

set_option maxHeartbeats 4000000 in
theorem specChangeCost_any (B : Nat) (v1 v2 : Value) (o cs : List Int) (w : World) (h1 : LstI B w v1 o) (h2 : LstI B w v2 cs) :
    Calls Try.prog 44 #[v1, v2] w (Ret (.tuple #[.int .i64 (chgRes cs o), .bool (canChg cs o)]) w) := by
  obtain ⟨a1, cap1, hv1, hl1, _, _, hc1⟩ := h1.at_
  have hA := Lib.hid (l02Changes_any B v2 cs o.length w h2)
  cases hq : areChg cs o.length
  · have hV := Lib.hid (show canChg cs o = false by unfold canChg; rw [hq]; rfl)
    have hR := Lib.hid (show chgRes cs o = 0 by unfold chgRes; rw [hV.out]; rfl)
    rw [hR.out, hV.out]
    rw [hq] at hA
    subst hv1
    clear h1 h2 hc1 hq
    generalize o.length = n at *
    unfold maxLen at hl1
    go_enter Try.func44, Try.ntmps44
    go_wp2_with (go_at_call 72; refine (hA.out).mono ?_; rintro e w' ⟨rfl, rfl⟩)
    go_ret2
    exact Ret.now _ _
  · have hO := Lib.hid (l02Orders_any B v1 o o.length w h1 (by omega) (by unfold maxLen at hl1; omega))
    cases hq2 : isOrd o o.length
    · have hV := Lib.hid (show canChg cs o = false by unfold canChg; rw [hq2, Bool.and_false])
      have hR := Lib.hid (show chgRes cs o = 0 by unfold chgRes; rw [hV.out]; rfl)
      rw [hR.out, hV.out]
      rw [hq] at hA
      rw [hq2] at hO
      subst hv1
      clear h1 h2 hc1 hq hq2
      generalize o.length = n at *
      unfold maxLen at hl1
      go_enter Try.func44, Try.ntmps44
      go_wp2_with (first | (go_at_call 72; refine (hA.out).mono ?_; rintro e w' ⟨rfl, rfl⟩) | (go_at_call 56; refine (hO.out).mono ?_; rintro e w1 ⟨mm, rfl, rfl⟩))
      go_ret2
      exact Ret.later _ _ _
    · have hV := Lib.hid (show canChg cs o = true by unfold canChg; rw [hq, hq2]; rfl)
      have hR := Lib.hid (show chgRes cs o = chgTo cs o o.length o.length by unfold chgRes; rw [hV.out]; rfl)
      rw [hR.out, hV.out]
      obtain ⟨⟨n1, n2⟩, _, _⟩ := areChg_of hq
      have hK : Hid (∀ k, k < o.length → _) := Lib.hid fun k (hk : k < o.length) => chg_at hq hq2 hk
      obtain ⟨a2, cap2, rfl, hl2, _, _, hc2⟩ := h2.at_
      have hC1 := Lib.hid hc1
      have hC2 := Lib.hid hc2
      rw [hq] at hA
      rw [hq2] at hO
      subst hv1
      clear h1 h2 hc1 hc2 hq hq2
      generalize hon : o.length = n at *
      have hON := Lib.hid hon
      clear hon
      generalize cs.length = m at *
      unfold maxLen at hl1 hl2
      obtain ⟨l0, j0, p0, x0, g0, g1, g2, g3, g4, g5, g6, g7, g8, g9⟩ := hK.out 0 (by omega)
      obtain rfl : l0 = j0 := by rw [show (0 : Nat) - 1 = 0 from rfl, g1] at g0; have := Option.some.inj g0; omega
      obtain ⟨b1, o1, y0, rfl, hb1, hy0, hcell0⟩ := hC1.out 0 (by omega)
      obtain rfl : y0 = (l0 : Int) := by rw [g1] at hy0; exact (Option.some.inj hy0).symm
      obtain ⟨b2, o2, x0', rfl, hb2, hx0, hcell2⟩ := hC2.out p0 g5
      obtain rfl : x0' = x0 := by rw [g6] at hx0; exact (Option.some.inj hx0).symm
      rw [Nat.add_zero] at hcell0
      have hZ0 := Lib.hid (show x0' = chgTo cs o n (0 + 1) by rw [g9]; show x0' = 0 + x0'; omega)
      have hm := mul_small (a := l0) (b := n) (by omega) (by omega)
      have hw1 : IntKind.i64.wrap ((l0 : Int) * (n : Int)) = ((l0 * n : Nat) : Int) := by rw [Int.natCast_mul]; exact IntWalk.i64_in _ (by rw [← Int.natCast_mul]; omega)
      have hw2 : IntKind.i64.wrap (((l0 * n : Nat) : Int) + (l0 : Int)) = (p0 : Int) := by rw [show ((l0 * n : Nat) : Int) + (l0 : Int) = (p0 : Int) by rw [g4]; omega]; exact IntWalk.i64_in _ (by omega)
      generalize l0 * n = q0 at *
      clear g0 g1 hy0 g6 hx0 g9 g4 hm hb2 hb1
      have hn0 : (0 : Int) < (n : Int) := by omega
      go_enter Try.func44, Try.ntmps44
      go_wp2_with fail
      refine (hA.out).mono ?_
      rintro e w' ⟨rfl, rfl⟩
      go_wp2_with fail
      refine (hO.out).mono ?_
      rintro e w1 ⟨mm, rfl, rfl⟩
      rw [← World.cell?_drewN (n := mm)] at hcell0 hcell2
      generalize hwo : w.drewN mm = wo at *
      have hWo := Lib.hid hwo
      clear hwo
      go_wp2_with fail
      go_quiet (fail)
      rename_i nq
      clear hw1 hw2 hcell0 hcell2
      go_wp2_with fail
      go_loopw [7, 8] (fun s i wr => ∃ (k nd : Nat) (z : Int), k + 1 ≤ n ∧ i = .int .i64 ((k + 1 : Nat) : Int) ∧ s = .int .i64 z ∧ Hid (z = chgTo cs o n (k + 1)) ∧ 0 ≤ z ∧ z ≤ 10000 * (k + 1) ∧ wr = w.drewN nd) (fun _ i _ => n - (intOf i).toNat)
      case atStart => exact ⟨0, _, x0', by omega, rfl, rfl, hZ0, by omega, by omega, by rw [← hWo.out, World.drewN_drewN]⟩
      case round =>
        obtain ⟨k, nd, z, hk, rfl, rfl, hZ, z1, z2, rfl⟩ := hrel
        rw [show ((k + 1 : Nat) : Int) = (k : Int) + 1 by omega] at *
        by_cases hlt : k + 1 < n
        · obtain ⟨l', j, p, x, k0, k1, k2, k3, k4, k5, k6, x1, x2, k7⟩ := hK.out (k + 1) hlt
          obtain ⟨b1', o1', y, hab, hb1, hy, hcell⟩ := hC1.out (k + 1) hlt
          injection hab with hab
          injection hab with e1 e2 _
          subst e1 e2
          obtain ⟨b1', o1', y', hab, _, hy', hcell'⟩ := hC1.out k (by omega)
          injection hab with hab
          injection hab with e1 e2 _
          subst e1 e2
          obtain rfl : y = (j : Int) := by rw [k1] at hy; exact (Option.some.inj hy).symm
          obtain rfl : y' = (l' : Int) := by rw [show k + 1 - 1 = k from rfl] at k0; rw [k0] at hy'; exact (Option.some.inj hy').symm
          obtain ⟨b2', o2', x', hab, hb2, hx', hcell2⟩ := hC2.out p k5
          injection hab with hab
          injection hab with e1 e2 _
          subst e1 e2
          obtain rfl : x' = x := by rw [k6] at hx'; exact (Option.some.inj hx').symm
          rw [← World.cell?_drewN (n := nd)] at hcell hcell' hcell2
          generalize hwo : w.drewN nd = wo at *
          have hWo := Lib.hid hwo
          clear hwo
          have hZ2 := Lib.hid (show z + x' = chgTo cs o n (k + 1 + 1) by rw [k7, hZ.out])
          have hm := mul_small (a := l') (b := n) (by omega) (by omega)
          have hw0 : IntKind.i64.wrap ((k : Int) + 1 - 1) = (k : Int) := by rw [show (k : Int) + 1 - 1 = (k : Int) by omega]; exact IntWalk.i64_in _ (by omega)
          have hw1 : IntKind.i64.wrap ((l' : Int) * (n : Int)) = ((l' * n : Nat) : Int) := by rw [Int.natCast_mul]; exact IntWalk.i64_in _ (by rw [← Int.natCast_mul]; omega)
          have hw2 : IntKind.i64.wrap (((l' * n : Nat) : Int) + (j : Int)) = (p : Int) := by rw [show ((l' * n : Nat) : Int) + (j : Int) = (p : Int) by rw [k4]; omega]; exact IntWalk.i64_in _ (by omega)
          have hw3 : IntKind.i64.wrap (z + x') = z + x' := IntWalk.i64_in _ (by omega)
          generalize l' * n = q at *
          clear k0 k1 hy k6 hx' k7 k4 hm hb2 hb1 hy'
          go_wp2_with fail
          go_quiet (fail)
          clear hw0 hw1 hw2 hw3
          go_wp2_with fail
          go_roundw
          case rel => exact ⟨k + 1, _, _, by omega, by go_num, rfl, hZ2, by omega, by omega, by rw [← hWo.out, World.drewN_drewN]⟩
          case measure => simp [intOf]; omega
        · have hZ2 := Lib.hid (show z = chgTo cs o n n by rw [hZ.out, show k + 1 = n by omega])
          go_wp2
          go_ret2
          exact ⟨_, ret_ib hZ2.out, rfl⟩
theorem changeCost_both (o cs : List Int) (hw : ∀ x ∈ o, (Lit.int .i64 x).wf = true) (_ : ∀ x ∈ cs, (Lit.int .i64 x).wf = true) : ∃ (r0 : Int) (r1 : Bool),
    (∀ (B : Nat) (v1 v2 : Value) (w : World), LstI B w v1 o → LstI B w v2 cs → B ≤ w.heap.size → Calls Try.prog 44 #[v1, v2] w fun e w' => e = .returned (.tuple #[.int .i64 r0, .bool r1]) ∧ Below w.heap.size w w') ∧
    (∀ (B : Nat) (v1 v2 : Value) (w : World), LstI B w v1 o → LstI B w v2 cs → B ≤ w.heap.size → Calls Try.prog 45 #[v1, v2] w fun e w' => e = .returned (.tuple #[.int .i64 r0, .bool r1]) ∧ Below w.heap.size w w') :=
  ⟨chgRes cs o, canChg cs o, fun B v1 v2 w h1 h2 _ => (specChangeCost_any B v1 v2 o cs w h1 h2).mono fun _ _ hr => hr.below, fun B v1 v2 w h1 h2 hB => implChangeCost_any B v1 v2 o cs w h1 h2 hB hw⟩
end Go.Proofs.Ytonokdbkjeoklaa
