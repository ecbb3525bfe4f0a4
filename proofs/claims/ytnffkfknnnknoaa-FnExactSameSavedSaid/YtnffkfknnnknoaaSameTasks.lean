/- Contracts: when two lists of tasks are the same. -/
import Derived.Test.YtnffkfknnnknoaaTasks
import Derived.Laws.StructEq
namespace Go.Proofs.Ytnffkfknnnknoaa
open Go.RowKit Go.Lst

theorem eqL_len {α : Type} [DecidableEq α] {xs ys : List α} (h : xs.length ≠ ys.length) : decide (xs = ys) = false := decide_eq_false fun e => h (by rw [e])
theorem eqL_at {α : Type} [DecidableEq α] {xs ys : List α} {k : Nat} {x y : α} (hx : xs[k]? = some x) (hy : ys[k]? = some y) (h : x ≠ y) : decide (xs = ys) = false :=
  decide_eq_false fun e => h (by rw [e, hy] at hx; exact (Option.some.inj hx).symm)
theorem eqL_all {α : Type} [DecidableEq α] {xs ys : List α} (hl : xs.length = ys.length) (h : ∀ i x y, i < xs.length → xs[i]? = some x → ys[i]? = some y → x = y) : decide (xs = ys) = true :=
  decide_eq_true (List.ext_getElem? fun i => by
    by_cases hi : i < xs.length
    · have e1 : xs[i]? = some xs[i] := List.getElem?_eq_getElem _
      have e2 : ys[i]? = some (ys[i]'(by omega)) := List.getElem?_eq_getElem _
      rw [e1, e2, h i _ _ hi e1 e2]
    · rw [List.getElem?_eq_none (by omega), List.getElem?_eq_none (by omega)])
theorem pairsI {B : Nat} {a1 a2 : Option Addr} {w : World} {xs ys : List Int} {c1 c2 : Nat} (h1 : LstI B w (.slice a1 xs.length c1) xs) (h2 : LstI B w (.slice a2 ys.length c2) ys) (hl : xs.length = ys.length) :
    ∀ k, k < xs.length → ∃ (b1 o1 b2 o2 : Nat) (x y : Int), a1 = some ⟨b1, o1, none⟩ ∧ a2 = some ⟨b2, o2, none⟩ ∧ xs[k]? = some x ∧ ys[k]? = some y ∧ w.cell? ⟨b1, o1 + k, none⟩ = some (.int .i64 x) ∧ w.cell? ⟨b2, o2 + k, none⟩ = some (.int .i64 y) := fun k hk => by
  obtain ⟨a1', cap1', e1, _, _, _, hc1⟩ := h1.at_
  obtain ⟨a2', cap2', e2, _, _, _, hc2⟩ := h2.at_
  injection e1 with e1 _ _
  injection e2 with e2 _ _
  subst e1 e2
  obtain ⟨b1, o1, x, ha1, _, hx, hr1⟩ := hc1 k hk
  obtain ⟨b2, o2, y, ha2, _, hy, hr2⟩ := hc2 k (by omega)
  exact ⟨b1, o1, b2, o2, x, y, ha1, ha2, hx, hy, hr1, hr2⟩

set_option maxHeartbeats 2000000 in
theorem l00Same_any (B : Nat) (v1 v2 : Value) (xs ys : List Int) (w : World) (h1 : LstI B w v1 xs) (h2 : LstI B w v2 ys) :
    Calls Try.prog 26 #[v1, v2] w (Ret (.bool (decide (xs = ys))) w) := by
  obtain ⟨a1, cap1, rfl, hl1, _, _, _⟩ := h1.at_
  obtain ⟨a2, cap2, rfl, hl2, _, _, _⟩ := h2.at_
  by_cases hl : xs.length = ys.length
  · have hX := Lib.hid (pairsI h1 h2 hl)
    have hAll : Hid (∀ k, k = xs.length → (∀ i x y, i < k → xs[i]? = some x → ys[i]? = some y → x = y) → decide (xs = ys) = true) := Lib.hid fun k hk hp => eqL_all hl fun i x y hi => hp i x y (by omega)
    have hNe : Hid (∀ (k : Nat) (x y : Int), xs[k]? = some x → ys[k]? = some y → x ≠ y → decide (xs = ys) = false) := Lib.hid fun k x y hx hy h => eqL_at hx hy h
    rw [← hl]
    clear h1 h2 hl hl2
    generalize xs.length = n at *
    generalize decide (xs = ys) = res at *
    unfold maxLen at hl1
    go_enter Try.func26, Try.ntmps26
    go_wp2_with fail
    go_loopw [5] (fun i wr => ∃ k m : Nat, k ≤ n ∧ i = .int .i64 k ∧ Hid (∀ i x y, i < k → xs[i]? = some x → ys[i]? = some y → x = y) ∧ wr = w.drewN m) (fun i _ => n - (intOf i).toNat)
    case atStart => exact ⟨0, 0, Nat.zero_le _, rfl, Lib.hid (fun i x y hi _ _ => by omega), rfl⟩
    case round =>
      obtain ⟨k, m, hk, rfl, hP, rfl⟩ := hrel
      by_cases hlt : k < n
      · obtain ⟨b1, o1, b2, o2, x, y, rfl, rfl, hx, hy, c1, c2⟩ := hX.out k hlt
        have hkI : (k : Int) < n := by omega
        have hXx := Lib.hid hx
        have hYy := Lib.hid hy
        clear hx hy
        rw [← World.cell?_drewN (n := m)] at c1
        rw [← World.cell?_drewN (n := m)] at c2
        generalize hwo : w.drewN m = wo at *
        have hWo := Lib.hid hwo
        clear hwo
        cases h0 : (x != y)
        · have hP2 : Hid (∀ i x y, i < k + 1 → xs[i]? = some x → ys[i]? = some y → x = y) := Lib.hid fun i x' y' hi hx' hy' => by
            by_cases h1 : i < k
            · exact hP.out i x' y' h1 hx' hy'
            · have : i = k := by omega
              subst this
              rw [hXx.out] at hx'
              rw [hYy.out] at hy'
              cases hx'; cases hy'
              simpa using h0
          go_wp2_with fail
          go_quiet (fail)
          go_wp2_with fail
          go_roundw
          case rel => exact ⟨k + 1, _, by omega, by go_num, hP2, by rw [← hWo.out, World.drewN_drewN]⟩
          case measure => simp [intOf]; omega
        · have hF := Lib.hid (hNe.out k x y hXx.out hYy.out (by simpa using h0))
          go_wp2_with fail
          go_quiet (fail)
          go_wp2_with fail
          go_ret
          exact ⟨_, ret_bool (by rw [hF.out]), by rw [← hWo.out, World.drewN_drewN]⟩
      · have hF := Lib.hid (hAll.out k (by omega) hP.out)
        go_wp2_with fail
        go_ret
        exact ⟨_, ret_bool (by rw [hF.out]), rfl⟩
  · have hF := Lib.hid (eqL_len hl)
    rw [hF.out]
    unfold maxLen at hl1 hl2
    have hne : ((xs.length : Int) == ys.length) = false := by simp; omega
    have hne2 : ((xs.length : Int) != ys.length) = true := by simp; omega
    generalize xs.length = n at *
    generalize ys.length = q at *
    clear h1 h2 hF
    go_enter Try.func26, Try.ntmps26
    go_wp2_with fail
    go_ret
    exact Ret.now _ _
set_option maxHeartbeats 2000000 in
theorem sliceEqI_any (B : Nat) (v1 v2 : Value) (xs ys : List Int) (w : World) (h1 : LstI B w v1 xs) (h2 : LstI B w v2 ys) :
    Calls Try.prog 30 #[v1, v2] w (Ret (.bool (decide (xs = ys))) w) := by
  obtain ⟨a1, cap1, rfl, hl1, _, _, _⟩ := h1.at_
  obtain ⟨a2, cap2, rfl, hl2, _, _, _⟩ := h2.at_
  by_cases hl : xs.length = ys.length
  · have hX := Lib.hid (pairsI h1 h2 hl)
    have hAll : Hid (∀ k, k = xs.length → (∀ i x y, i < k → xs[i]? = some x → ys[i]? = some y → x = y) → decide (xs = ys) = true) := Lib.hid fun k hk hp => eqL_all hl fun i x y hi => hp i x y (by omega)
    have hNe : Hid (∀ (k : Nat) (x y : Int), xs[k]? = some x → ys[k]? = some y → x ≠ y → decide (xs = ys) = false) := Lib.hid fun k x y hx hy h => eqL_at hx hy h
    rw [← hl]
    clear h1 h2 hl hl2
    generalize xs.length = n at *
    generalize decide (xs = ys) = res at *
    unfold maxLen at hl1
    go_enter Try.func30, Try.ntmps30
    go_wp2_with fail
    go_loopw [13] (fun i wr => ∃ k m : Nat, k ≤ n ∧ i = .int .i64 k ∧ Hid (∀ i x y, i < k → xs[i]? = some x → ys[i]? = some y → x = y) ∧ wr = w.drewN m) (fun i _ => n - (intOf i).toNat)
    case atStart => exact ⟨0, 0, Nat.zero_le _, rfl, Lib.hid (fun i x y hi _ _ => by omega), rfl⟩
    case round =>
      obtain ⟨k, m, hk, rfl, hP, rfl⟩ := hrel
      by_cases hlt : k < n
      · obtain ⟨b1, o1, b2, o2, x, y, rfl, rfl, hx, hy, c1, c2⟩ := hX.out k hlt
        have hkI : (k : Int) < n := by omega
        have hXx := Lib.hid hx
        have hYy := Lib.hid hy
        clear hx hy
        rw [← World.cell?_drewN (n := m)] at c1
        rw [← World.cell?_drewN (n := m)] at c2
        generalize hwo : w.drewN m = wo at *
        have hWo := Lib.hid hwo
        clear hwo
        cases h0 : (x != y)
        · have hP2 : Hid (∀ i x y, i < k + 1 → xs[i]? = some x → ys[i]? = some y → x = y) := Lib.hid fun i x' y' hi hx' hy' => by
            by_cases h1 : i < k
            · exact hP.out i x' y' h1 hx' hy'
            · have : i = k := by omega
              subst this
              rw [hXx.out] at hx'
              rw [hYy.out] at hy'
              cases hx'; cases hy'
              simpa using h0
          go_wp2_with fail
          go_quiet (fail)
          go_wp2_with fail
          go_roundw
          case rel => exact ⟨k + 1, _, by omega, by go_num, hP2, by rw [← hWo.out, World.drewN_drewN]⟩
          case measure => simp [intOf]; omega
        · have hF := Lib.hid (hNe.out k x y hXx.out hYy.out (by simpa using h0))
          go_wp2_with fail
          go_quiet (fail)
          go_wp2_with fail
          go_ret
          exact ⟨_, ret_bool (by rw [hF.out]), by rw [← hWo.out, World.drewN_drewN]⟩
      · have hF := Lib.hid (hAll.out k (by omega) hP.out)
        go_wp2_with fail
        go_ret
        exact ⟨_, ret_bool (by rw [hF.out]), rfl⟩
  · have hF := Lib.hid (eqL_len hl)
    rw [hF.out]
    unfold maxLen at hl1 hl2
    have hne : ((xs.length : Int) == ys.length) = false := by simp; omega
    have hne2 : ((xs.length : Int) != ys.length) = true := by simp; omega
    generalize xs.length = n at *
    generalize ys.length = q at *
    clear h1 h2 hF
    go_enter Try.func30, Try.ntmps30
    go_wp2_with fail
    go_ret
    exact Ret.now _ _
instance : DecidableEq TaskD := fun x y => decidable_of_iff (x.Time = y.Time ∧ x.Needs = y.Needs ∧ x.Before = y.Before ∧ x.Lags = y.Lags) (by cases x; cases y; simp only [TaskD.mk.injEq])
set_option maxHeartbeats 1000000 in
theorem effortOf_any (t n : Int) (vb vl : Value) (ab al : Option Addr) (n1 n2 c1 c2 : Nat) (hb : vb = .slice ab n1 c1) (hl : vl = .slice al n2 c2) (w : World) : Calls Try.prog 41 #[.agg #[.int .i64 t, .int .i64 n, vb, vl]] w fun e w' => e = .returned (.agg #[.int .i64 t, .int .i64 n]) ∧ Below w.heap.size w w' := by
  subst hb hl
  go_enter Try.func41, Try.ntmps41
  go_wp2
  refine bodyPost_ret (v := .agg #[.int .i64 t, .int .i64 n]) (by simp [results, Try.results41, go_sem]) rfl ⟨rfl, by repeat (first | exact Below.refl _ _ | refine below_alloc ?_ _)⟩
theorem eqEffort (a b c d : Int) (w : World) : (binOp .eql 62 (.agg #[.int .i64 a, .int .i64 b]) (.agg #[.int .i64 c, .int .i64 d])).run Try.prog w = .ok (.bool (decide (a = c) && decide (b = d))) w := by
  have hS : Try.prog.underlying 62 = some (.struct (Try.prog.fieldsOf 62)) := by kernel_rfl
  have hp : Try.prog.stoodInHeld 62 = false := by kernel_rfl
  have u := Try.underlying2
  rw [run_eql_struct, show (10000 : Nat) = 9999 + 1 from rfl, run_equalIn_agg w 9999 62 _ _ hS hp]
  simp only [Program.fieldsOf, Try.underlying62]
  go_simp
  by_cases h0 : a = c <;> by_cases h1 : b = d <;> simp [h0, h1]
theorem taskEq (x y : TaskD) : decide (x = y) = (decide (x.Time = y.Time) && decide (x.Needs = y.Needs) && decide (x.Before = y.Before) && decide (x.Lags = y.Lags)) := by
  cases x; cases y
  rw [Bool.eq_iff_iff]
  simp only [TaskD.mk.injEq, decide_eq_true_eq, Bool.and_eq_true, and_assoc]
end Go.Proofs.Ytnffkfknnnknoaa
