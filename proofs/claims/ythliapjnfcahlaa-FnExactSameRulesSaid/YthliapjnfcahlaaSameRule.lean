/- Contracts: when two lists of Rules are the same. -/
import Derived.Test.YthliapjnfcahlaaAreJobs
import Derived.Test.YthliapjnfcahlaaRowRule
import Derived.Laws.StructEq
namespace Go.Proofs.Ythliapjnfcahlaa
open Go.RowKit Go.Lst

deriving instance DecidableEq for RuleD
def sameRules (xs ys : List RuleD) : Bool := decide (xs = ys)
theorem sameRules_len {xs ys : List RuleD} (h : xs.length ≠ ys.length) : sameRules xs ys = false := decide_eq_false fun e => h (by rw [e])
theorem sameRules_at {xs ys : List RuleD} {k : Nat} {x y : RuleD} (hx : xs[k]? = some x) (hy : ys[k]? = some y) (h : x ≠ y) : sameRules xs ys = false :=
  decide_eq_false fun e => h (by rw [e, hy] at hx; exact (Option.some.inj hx).symm)
theorem sameRules_all {xs ys : List RuleD} (hl : xs.length = ys.length) (h : ∀ i x y, i < xs.length → xs[i]? = some x → ys[i]? = some y → x = y) : sameRules xs ys = true :=
  decide_eq_true (List.ext_getElem? fun i => by
    by_cases hi : i < xs.length
    · have e1 : xs[i]? = some xs[i] := List.getElem?_eq_getElem _
      have e2 : ys[i]? = some (ys[i]'(by omega)) := List.getElem?_eq_getElem _
      rw [e1, e2, h i _ _ hi e1 e2]
    · rw [List.getElem?_eq_none (by omega), List.getElem?_eq_none (by omega)])
theorem neRule_0 {x y : RuleD} (h : (x.From != y.From) = true) : x ≠ y := fun e => by subst e; simp at h
theorem neRule_1 {x y : RuleD} (h : (x.To != y.To) = true) : x ≠ y := fun e => by subst e; simp at h
theorem neRule_2 {x y : RuleD} (h : (x.Least != y.Least) = true) : x ≠ y := fun e => by subst e; simp at h
theorem neRule_3 {x y : RuleD} (h : (x.Most != y.Most) = true) : x ≠ y := fun e => by subst e; simp at h
theorem eqRule_of {x y : RuleD} (h0 : (x.From != y.From) = false) (h1 : (x.To != y.To) = false) (h2 : (x.Least != y.Least) = false) (h3 : (x.Most != y.Most) = false) : x = y := by
  cases x; cases y
  simp only [bne_eq_false_iff_eq] at h0 h1 h2 h3
  subst_vars; rfl

/-- What is known of two lists of one length in a round. -/
theorem pairsRule {B : Nat} {a1 a2 : Option Addr} {w : World} {xs ys : List RuleD} {c1 c2 : Nat} (h1 : LstRule B w (.slice a1 xs.length c1) xs) (h2 : LstRule B w (.slice a2 ys.length c2) ys) (hl : xs.length = ys.length) :
    ∀ k, k < xs.length → ∃ (b1 o1 b2 o2 : Nat) (x y : RuleD), a1 = some ⟨b1, o1, none⟩ ∧ a2 = some ⟨b2, o2, none⟩ ∧ xs[k]? = some x ∧ ys[k]? = some y ∧ (w.cell? ⟨b1, o1 + k * 4, none⟩ = some (.int .i64 x.From) ∧ w.cell? ⟨b1, o1 + k * 4 + 1, none⟩ = some (.int .i64 x.To) ∧ w.cell? ⟨b1, o1 + k * 4 + 2, none⟩ = some (.int .i64 x.Least) ∧ w.cell? ⟨b1, o1 + k * 4 + 3, none⟩ = some (.int .i64 x.Most)) ∧ (w.cell? ⟨b2, o2 + k * 4, none⟩ = some (.int .i64 y.From) ∧ w.cell? ⟨b2, o2 + k * 4 + 1, none⟩ = some (.int .i64 y.To) ∧ w.cell? ⟨b2, o2 + k * 4 + 2, none⟩ = some (.int .i64 y.Least) ∧ w.cell? ⟨b2, o2 + k * 4 + 3, none⟩ = some (.int .i64 y.Most)) := fun k hk => by
  obtain ⟨a1', cap1', e1, _, _, _, hc1⟩ := h1.at_
  obtain ⟨a2', cap2', e2, _, _, _, hc2⟩ := h2.at_
  injection e1 with e1 _ _
  injection e2 with e2 _ _
  subst e1 e2
  obtain ⟨b1, o1, x, ha1, _, hx, hr1⟩ := hc1 k hk
  obtain ⟨b2, o2, y, ha2, _, hy, hr2⟩ := hc2 k (by omega)
  exact ⟨b1, o1, b2, o2, x, y, ha1, ha2, hx, hy, hr1, hr2⟩


theorem neqRowRule (x y : RuleD) (w : World) : (binOp .neq 74 (.agg #[.int .i64 x.From, .int .i64 x.To, .int .i64 x.Least, .int .i64 x.Most]) (.agg #[.int .i64 y.From, .int .i64 y.To, .int .i64 y.Least, .int .i64 y.Most])).run Try.prog w = .ok (.bool (!decide (x = y))) w := by
  have hS : Try.prog.underlying 74 = some (.struct (Try.prog.fieldsOf 74)) := by kernel_rfl
  have hp : Try.prog.stoodInHeld 74 = false := by kernel_rfl
  have u := Try.underlying2
  have hd : decide (x = y) = (x.From == y.From && x.To == y.To && x.Least == y.Least && x.Most == y.Most) := by
    cases x; cases y
    rw [Bool.eq_iff_iff]
    simp only [RuleD.mk.injEq, decide_eq_true_eq, Bool.and_eq_true, beq_iff_eq, and_assoc]
  rw [run_neq_struct, show (10000 : Nat) = 9999 + 1 from rfl, run_equalIn_agg w 9999 74 _ _ hS hp, hd]
  simp only [Program.fieldsOf, Try.underlying74]
  go_simp
  by_cases h0 : x.From = y.From <;> by_cases h1 : x.To = y.To <;> by_cases h2 : x.Least = y.Least <;> by_cases h3 : x.Most = y.Most <;> simp [h0, h1, h2, h3]
set_option maxHeartbeats 4000000 in
theorem equalRule_any (B : Nat) (v1 v2 : Value) (xs ys : List RuleD) (w : World) (h1 : LstRule B w v1 xs) (h2 : LstRule B w v2 ys) :
    Calls Try.prog 66 #[v1, v2] w (Ret (.bool (sameRules xs ys)) w) := by
  obtain ⟨a1, cap1, rfl, hl1, _, _, _⟩ := h1.at_
  obtain ⟨a2, cap2, rfl, hl2, _, _, _⟩ := h2.at_
  by_cases hl : xs.length = ys.length
  · have hX := Lib.hid (pairsRule h1 h2 hl)
    have hAll : Hid (∀ k, k = xs.length → (∀ i x y, i < k → xs[i]? = some x → ys[i]? = some y → x = y) → sameRules xs ys = true) := Lib.hid fun k hk hp => sameRules_all hl fun i x y hi => hp i x y (by omega)
    rw [← hl]
    clear h1 h2 hl hl2
    generalize xs.length = n at *
    unfold maxLen at hl1
    go_enter Try.func66, Try.ntmps66
    go_wp2
    go_loopw [13] (fun i wr => ∃ k m : Nat, k ≤ n ∧ i = .int .i64 k ∧ Hid (∀ i x y, i < k → xs[i]? = some x → ys[i]? = some y → x = y) ∧ wr = w.drewN m) (fun i _ => n - (intOf i).toNat)
    case atStart => exact ⟨0, 0, Nat.zero_le _, rfl, Lib.hid (fun i x y hi _ _ => by omega), rfl⟩
    case round =>
      obtain ⟨k, m, hk, rfl, hP, rfl⟩ := hrel
      by_cases hlt : k < n
      · obtain ⟨b1, o1, b2, o2, x, y, rfl, rfl, hx, hy, ⟨p0, p1, p2, p3⟩, ⟨q0, q1, q2, q3⟩⟩ := hX.out k hlt
        have hXx := Lib.hid hx
        have hYy := Lib.hid hy
        clear hx hy
        rw [← World.cell?_drewN (n := m)] at p0
        rw [← World.cell?_drewN (n := m)] at p1
        rw [← World.cell?_drewN (n := m)] at p2
        rw [← World.cell?_drewN (n := m)] at p3
        rw [← World.cell?_drewN (n := m)] at q0
        rw [← World.cell?_drewN (n := m)] at q1
        rw [← World.cell?_drewN (n := m)] at q2
        rw [← World.cell?_drewN (n := m)] at q3
        generalize hwo : w.drewN m = wo at *
        have hWo := Lib.hid hwo
        clear hwo
        have hne := neqRowRule x y
        cases hq : decide (x = y)
        · have hF := Lib.hid (sameRules_at hXx.out hYy.out (of_decide_eq_false hq))
          rw [hq] at hne
          clear hq
          go_wp2_with fail
          go_quiet (fail)
          go_wp2
          go_ret
          exact ⟨_, ret_bool (by rw [hF.out]), by rw [← hWo.out, World.drewN_drewN]⟩
        · have hE := Lib.hid (of_decide_eq_true hq)
          rw [hq] at hne
          clear hq
          have hP2 : Hid (∀ i x y, i < k + 1 → xs[i]? = some x → ys[i]? = some y → x = y) := Lib.hid fun i x' y' hi hx hy => by
            by_cases h1 : i < k
            · exact hP.out i x' y' h1 hx hy
            · have : i = k := by omega
              subst this
              rw [hXx.out] at hx; rw [hYy.out] at hy
              cases hx; cases hy
              exact hE.out
          go_wp2_with fail
          go_quiet (fail)
          go_wp2
          go_roundw
          case rel => exact ⟨k + 1, _, by omega, by go_num, hP2, by rw [← hWo.out, World.drewN_drewN]⟩
          case measure => simp [intOf]; omega
      · have hF := Lib.hid (hAll.out k (by omega) hP.out)
        go_wp2
        go_ret
        exact ⟨_, ret_bool (by rw [hF.out]), rfl⟩
  · have hV := Lib.hid (sameRules_len hl)
    have hne : ((xs.length : Int) != (ys.length : Int)) = true := by rw [bne_iff_ne]; omega
    have hne2 : (xs.length != ys.length) = true := by rw [bne_iff_ne]; omega
    generalize xs.length = n1 at *
    generalize ys.length = n2 at *
    unfold maxLen at hl1 hl2
    clear hl
    go_enter Try.func66, Try.ntmps66
    go_wp2
    go_ret
    exact ⟨0, ret_bool (by rw [hV.out]), rfl⟩
set_option maxHeartbeats 4000000 in
theorem specSameRules_any (B : Nat) (v1 v2 : Value) (xs ys : List RuleD) (w : World) (h1 : LstRule B w v1 xs) (h2 : LstRule B w v2 ys) :
    Calls Try.prog 27 #[v1, v2] w (Ret (.bool (sameRules xs ys)) w) := by
  obtain ⟨a1, cap1, rfl, hl1, _, _, _⟩ := h1.at_
  obtain ⟨a2, cap2, rfl, hl2, _, _, _⟩ := h2.at_
  by_cases hl : xs.length = ys.length
  · have hX := Lib.hid (pairsRule h1 h2 hl)
    have hAll : Hid (∀ k, k = xs.length → (∀ i x y, i < k → xs[i]? = some x → ys[i]? = some y → x = y) → sameRules xs ys = true) := Lib.hid fun k hk hp => sameRules_all hl fun i x y hi => hp i x y (by omega)
    rw [← hl]
    clear h1 h2 hl hl2
    generalize xs.length = n at *
    unfold maxLen at hl1
    go_enter Try.func27, Try.ntmps27
    go_wp2
    go_loopw [13] (fun i wr => ∃ k m : Nat, k ≤ n ∧ i = .int .i64 k ∧ Hid (∀ i x y, i < k → xs[i]? = some x → ys[i]? = some y → x = y) ∧ wr = w.drewN m) (fun i _ => n - (intOf i).toNat)
    case atStart => exact ⟨0, 0, Nat.zero_le _, rfl, Lib.hid (fun i x y hi _ _ => by omega), rfl⟩
    case round =>
      obtain ⟨k, m, hk, rfl, hP, rfl⟩ := hrel
      by_cases hlt : k < n
      · obtain ⟨b1, o1, b2, o2, x, y, rfl, rfl, hx, hy, ⟨p0, p1, p2, p3⟩, ⟨q0, q1, q2, q3⟩⟩ := hX.out k hlt
        have hXx := Lib.hid hx
        have hYy := Lib.hid hy
        clear hx hy
        rw [← World.cell?_drewN (n := m)] at p0
        rw [← World.cell?_drewN (n := m)] at p1
        rw [← World.cell?_drewN (n := m)] at p2
        rw [← World.cell?_drewN (n := m)] at p3
        rw [← World.cell?_drewN (n := m)] at q0
        rw [← World.cell?_drewN (n := m)] at q1
        rw [← World.cell?_drewN (n := m)] at q2
        rw [← World.cell?_drewN (n := m)] at q3
        generalize hwo : w.drewN m = wo at *
        have hWo := Lib.hid hwo
        clear hwo
        have hne := neqRowRule x y
        cases hq : decide (x = y)
        · have hF := Lib.hid (sameRules_at hXx.out hYy.out (of_decide_eq_false hq))
          rw [hq] at hne
          clear hq
          go_wp2_with fail
          go_quiet (fail)
          go_wp2
          go_ret
          exact ⟨_, ret_bool (by rw [hF.out]), by rw [← hWo.out, World.drewN_drewN]⟩
        · have hE := Lib.hid (of_decide_eq_true hq)
          rw [hq] at hne
          clear hq
          have hP2 : Hid (∀ i x y, i < k + 1 → xs[i]? = some x → ys[i]? = some y → x = y) := Lib.hid fun i x' y' hi hx hy => by
            by_cases h1 : i < k
            · exact hP.out i x' y' h1 hx hy
            · have : i = k := by omega
              subst this
              rw [hXx.out] at hx; rw [hYy.out] at hy
              cases hx; cases hy
              exact hE.out
          go_wp2_with fail
          go_quiet (fail)
          go_wp2
          go_roundw
          case rel => exact ⟨k + 1, _, by omega, by go_num, hP2, by rw [← hWo.out, World.drewN_drewN]⟩
          case measure => simp [intOf]; omega
      · have hF := Lib.hid (hAll.out k (by omega) hP.out)
        go_wp2
        go_ret
        exact ⟨_, ret_bool (by rw [hF.out]), rfl⟩
  · have hV := Lib.hid (sameRules_len hl)
    have hne : ((xs.length : Int) != (ys.length : Int)) = true := by rw [bne_iff_ne]; omega
    have hne2 : (xs.length != ys.length) = true := by rw [bne_iff_ne]; omega
    generalize xs.length = n1 at *
    generalize ys.length = n2 at *
    unfold maxLen at hl1 hl2
    clear hl
    go_enter Try.func27, Try.ntmps27
    go_wp2
    go_ret
    exact ⟨0, ret_bool (by rw [hV.out]), rfl⟩
set_option maxHeartbeats 400000 in
theorem implSameRules_any (B : Nat) (v1 v2 : Value) (xs ys : List RuleD) (w : World) (h1 : LstRule B w v1 xs) (h2 : LstRule B w v2 ys) : Calls Try.prog 28 #[v1, v2] w (Ret (.bool (sameRules xs ys)) w) := by
  have hJ := Lib.hid (equalRule_any B v1 v2 xs ys w h1 h2)
  clear h1 h2
  generalize sameRules xs ys = q at *
  go_enter Try.func28, Try.ntmps28
  go_wp2_with fail
  refine (hJ.out).mono ?_
  rintro e w' ⟨m, rfl, rfl⟩
  go_wp2_with fail
  go_ret
  exact Ret.later _ _ _
theorem sameRules_both (xs ys : List RuleD) (_ : ∀ y ∈ xs, y.wf) (_ : ∀ y ∈ ys, y.wf) : ∃ r0 : Bool,
    (∀ (B : Nat) (v1 v2 : Value) (w : World), LstRule B w v1 xs → LstRule B w v2 ys → B ≤ w.heap.size → Calls Try.prog 27 #[v1, v2] w fun e w' => e = .returned (.bool r0) ∧ Below w.heap.size w w') ∧
    (∀ (B : Nat) (v1 v2 : Value) (w : World), LstRule B w v1 xs → LstRule B w v2 ys → B ≤ w.heap.size → Calls Try.prog 28 #[v1, v2] w fun e w' => e = .returned (.bool r0) ∧ Below w.heap.size w w') :=
  ⟨sameRules xs ys, fun B v1 v2 w h1 h2 _ => (specSameRules_any B v1 v2 xs ys w h1 h2).mono fun _ _ hr => hr.below, fun B v1 v2 w h1 h2 _ => (implSameRules_any B v1 v2 xs ys w h1 h2).mono fun _ _ hr => hr.below⟩
end Go.Proofs.Ythliapjnfcahlaa
