/- Contracts: lists of numbers compared, by the model's loop and by slices.Equal. -/
import Derived.Test.YtpolhjkjgbfdhaaInts
import Derived.Test.YtpolhjkjgbfdhaaNear
import Derived.Test.YtpolhjkjgbfdhaaAreJobs
import Derived.LoopTactic
import Derived.Outline
import Derived.Laws.StructEq
import Derived.BigQuiet
namespace Go.Proofs.Ytpolhjkjgbfdhaa
open Go.RowKit Go.Lst
theorem eqL_lenE {α : Type} [DecidableEq α] {xs ys : List α} (h : xs.length ≠ ys.length) : decide (xs = ys) = false := decide_eq_false fun e => h (by rw [e])
theorem eqL_atE {α : Type} [DecidableEq α] {xs ys : List α} {k : Nat} {x y : α} (hx : xs[k]? = some x) (hy : ys[k]? = some y) (h : x ≠ y) : decide (xs = ys) = false :=
  decide_eq_false fun e => h (by rw [e, hy] at hx; exact (Option.some.inj hx).symm)
theorem eqL_allE {α : Type} [DecidableEq α] {xs ys : List α} (hl : xs.length = ys.length) (h : ∀ i x y, i < xs.length → xs[i]? = some x → ys[i]? = some y → x = y) : decide (xs = ys) = true :=
  decide_eq_true (List.ext_getElem? fun i => by
    by_cases hi : i < xs.length
    · have e1 : xs[i]? = some xs[i] := List.getElem?_eq_getElem _
      have e2 : ys[i]? = some (ys[i]'(by omega)) := List.getElem?_eq_getElem _
      rw [e1, e2, h i _ _ hi e1 e2]
    · rw [List.getElem?_eq_none (by omega), List.getElem?_eq_none (by omega)])
theorem pairsIE {B : Nat} {a1 a2 : Option Addr} {w : World} {xs ys : List Int} {c1 c2 : Nat} (h1 : LstI B w (.slice a1 xs.length c1) xs) (h2 : LstI B w (.slice a2 ys.length c2) ys) (hl : xs.length = ys.length) :
    ∀ k, k < xs.length → ∃ (b1 o1 b2 o2 : Nat) (x y : Int), a1 = some ⟨b1, o1, none⟩ ∧ a2 = some ⟨b2, o2, none⟩ ∧ xs[k]? = some x ∧ ys[k]? = some y ∧ w.cell? ⟨b1, o1 + k, none⟩ = some (.int .i64 x) ∧ w.cell? ⟨b2, o2 + k, none⟩ = some (.int .i64 y) := fun k hk => by
  obtain ⟨a1', cap1', e1, _, _, _, hc1⟩ := h1.at_
  obtain ⟨a2', cap2', e2, _, _, _, hc2⟩ := h2.at_
  injection e1 with e1 _ _
  injection e2 with e2 _ _
  subst e1 e2
  obtain ⟨b1, o1, x, ha1, _, hx, hr1⟩ := hc1 k hk
  obtain ⟨b2, o2, y, ha2, _, hy, hr2⟩ := hc2 k (by omega)
  exact ⟨b1, o1, b2, o2, x, y, ha1, ha2, hx, hy, hr1, hr2⟩

set_option maxHeartbeats 2000000 in
theorem l08Equal_any (B : Nat) (v1 v2 : Value) (xs ys : List Int) (w : World) (h1 : LstI B w v1 xs) (h2 : LstI B w v2 ys) :
    Calls Try.prog 44 #[v1, v2] w (Ret (.bool (decide (xs = ys))) w) := by
  obtain ⟨a1, cap1, rfl, hl1, _, _, _⟩ := h1.at_
  obtain ⟨a2, cap2, rfl, hl2, _, _, _⟩ := h2.at_
  by_cases hl : xs.length = ys.length
  · have hX := Lib.hid (pairsIE h1 h2 hl)
    have hAll : Hid (∀ k, k = xs.length → (∀ i x y, i < k → xs[i]? = some x → ys[i]? = some y → x = y) → decide (xs = ys) = true) := Lib.hid fun k hk hp => eqL_allE hl fun i x y hi => hp i x y (by omega)
    have hNe : Hid (∀ (k : Nat) (x y : Int), xs[k]? = some x → ys[k]? = some y → x ≠ y → decide (xs = ys) = false) := Lib.hid fun k x y hx hy h => eqL_atE hx hy h
    rw [← hl]
    clear h1 h2 hl hl2
    generalize xs.length = n at *
    generalize decide (xs = ys) = res at *
    unfold maxLen at hl1
    go_enter Try.func44, Try.ntmps44
    go_wp2_with fail
    go_loopw [5] (fun i wr => ∃ k m : Nat, k ≤ n ∧ i = .int .i64 k ∧ Hid (∀ i x y, i < k → xs[i]? = some x → ys[i]? = some y → x = y) ∧ wr = w.drewN m) (fun i _ => n - (intOf i).toNat)
    case atStart => exact ⟨0, 0, Nat.zero_le _, rfl, Lib.hid (fun i x y hi _ _ => by omega), rfl⟩
    case round =>
      obtain ⟨k, m, hk, rfl, hP, rfl⟩ := hrel
      by_cases hlt : k < n
      · obtain ⟨b1, o1, b2, o2, x, y, rfl, rfl, hx, hy, c1, c2⟩ := hX.out k hlt
        have hkI : (k : Int) < n := by omega
        have hXx := Lib.hid hx
        have hYy := Lib.hid hy
        clear hx hy
        rw [← World.cell?_drewN (n := m)] at c1
        rw [← World.cell?_drewN (n := m)] at c2
        generalize hwo : w.drewN m = wo at *
        have hWo := Lib.hid hwo
        clear hwo
        cases h0 : (x != y)
        · have hP2 : Hid (∀ i x y, i < k + 1 → xs[i]? = some x → ys[i]? = some y → x = y) := Lib.hid fun i x' y' hi hx' hy' => by
            by_cases h1 : i < k
            · exact hP.out i x' y' h1 hx' hy'
            · have : i = k := by omega
              subst this
              rw [hXx.out] at hx'
              rw [hYy.out] at hy'
              cases hx'; cases hy'
              simpa using h0
          go_wp2_with fail
          go_quiet (fail)
          go_wp2_with fail
          go_roundw
          case rel => exact ⟨k + 1, _, by omega, by go_num, hP2, by rw [← hWo.out, World.drewN_drewN]⟩
          case measure => simp [intOf]; omega
        · have hF := Lib.hid (hNe.out k x y hXx.out hYy.out (by simpa using h0))
          go_wp2_with fail
          go_quiet (fail)
          go_wp2_with fail
          go_ret
          exact ⟨_, ret_bool (by rw [hF.out]), by rw [← hWo.out, World.drewN_drewN]⟩
      · have hF := Lib.hid (hAll.out k (by omega) hP.out)
        go_wp2_with fail
        go_ret
        exact ⟨_, ret_bool (by rw [hF.out]), rfl⟩
  · have hF := Lib.hid (eqL_lenE hl)
    rw [hF.out]
    unfold maxLen at hl1 hl2
    have hne : ((xs.length : Int) == ys.length) = false := by simp; omega
    have hne2 : ((xs.length : Int) != ys.length) = true := by simp; omega
    generalize xs.length = n at *
    generalize ys.length = q at *
    clear h1 h2 hF
    go_enter Try.func44, Try.ntmps44
    go_wp2_with fail
    go_ret
    exact Ret.now _ _
set_option maxHeartbeats 2000000 in
theorem equalI_any (B : Nat) (v1 v2 : Value) (xs ys : List Int) (w : World) (h1 : LstI B w v1 xs) (h2 : LstI B w v2 ys) :
    Calls Try.prog 47 #[v1, v2] w (Ret (.bool (decide (xs = ys))) w) := by
  obtain ⟨a1, cap1, rfl, hl1, _, _, _⟩ := h1.at_
  obtain ⟨a2, cap2, rfl, hl2, _, _, _⟩ := h2.at_
  by_cases hl : xs.length = ys.length
  · have hX := Lib.hid (pairsIE h1 h2 hl)
    have hAll : Hid (∀ k, k = xs.length → (∀ i x y, i < k → xs[i]? = some x → ys[i]? = some y → x = y) → decide (xs = ys) = true) := Lib.hid fun k hk hp => eqL_allE hl fun i x y hi => hp i x y (by omega)
    have hNe : Hid (∀ (k : Nat) (x y : Int), xs[k]? = some x → ys[k]? = some y → x ≠ y → decide (xs = ys) = false) := Lib.hid fun k x y hx hy h => eqL_atE hx hy h
    rw [← hl]
    clear h1 h2 hl hl2
    generalize xs.length = n at *
    generalize decide (xs = ys) = res at *
    unfold maxLen at hl1
    go_enter Try.func47, Try.ntmps47
    go_wp2_with fail
    go_loopw [13] (fun i wr => ∃ k m : Nat, k ≤ n ∧ i = .int .i64 k ∧ Hid (∀ i x y, i < k → xs[i]? = some x → ys[i]? = some y → x = y) ∧ wr = w.drewN m) (fun i _ => n - (intOf i).toNat)
    case atStart => exact ⟨0, 0, Nat.zero_le _, rfl, Lib.hid (fun i x y hi _ _ => by omega), rfl⟩
    case round =>
      obtain ⟨k, m, hk, rfl, hP, rfl⟩ := hrel
      by_cases hlt : k < n
      · obtain ⟨b1, o1, b2, o2, x, y, rfl, rfl, hx, hy, c1, c2⟩ := hX.out k hlt
        have hkI : (k : Int) < n := by omega
        have hXx := Lib.hid hx
        have hYy := Lib.hid hy
        clear hx hy
        rw [← World.cell?_drewN (n := m)] at c1
        rw [← World.cell?_drewN (n := m)] at c2
        generalize hwo : w.drewN m = wo at *
        have hWo := Lib.hid hwo
        clear hwo
        cases h0 : (x != y)
        · have hP2 : Hid (∀ i x y, i < k + 1 → xs[i]? = some x → ys[i]? = some y → x = y) := Lib.hid fun i x' y' hi hx' hy' => by
            by_cases h1 : i < k
            · exact hP.out i x' y' h1 hx' hy'
            · have : i = k := by omega
              subst this
              rw [hXx.out] at hx'
              rw [hYy.out] at hy'
              cases hx'; cases hy'
              simpa using h0
          go_wp2_with fail
          go_quiet (fail)
          go_wp2_with fail
          go_roundw
          case rel => exact ⟨k + 1, _, by omega, by go_num, hP2, by rw [← hWo.out, World.drewN_drewN]⟩
          case measure => simp [intOf]; omega
        · have hF := Lib.hid (hNe.out k x y hXx.out hYy.out (by simpa using h0))
          go_wp2_with fail
          go_quiet (fail)
          go_wp2_with fail
          go_ret
          exact ⟨_, ret_bool (by rw [hF.out]), by rw [← hWo.out, World.drewN_drewN]⟩
      · have hF := Lib.hid (hAll.out k (by omega) hP.out)
        go_wp2_with fail
        go_ret
        exact ⟨_, ret_bool (by rw [hF.out]), rfl⟩
  · have hF := Lib.hid (eqL_lenE hl)
    rw [hF.out]
    unfold maxLen at hl1 hl2
    have hne : ((xs.length : Int) == ys.length) = false := by simp; omega
    have hne2 : ((xs.length : Int) != ys.length) = true := by simp; omega
    generalize xs.length = n at *
    generalize ys.length = q at *
    clear h1 h2 hF
    go_enter Try.func47, Try.ntmps47
    go_wp2_with fail
    go_ret
    exact Ret.now _ _
end Go.Proofs.Ytpolhjkjgbfdhaa
