/- Contracts: when two lists of Jobs are the same. -/
import Derived.Test.YtpolhjkjgbfdhaaAreJobs
import Derived.Laws.StructEq
namespace Go.Proofs.Ytpolhjkjgbfdhaa
open Go.RowKit Go.Lst

deriving instance DecidableEq for JobD
def sameJobs (xs ys : List JobD) : Bool := decide (xs = ys)
theorem sameJobs_len {xs ys : List JobD} (h : xs.length ≠ ys.length) : sameJobs xs ys = false := decide_eq_false fun e => h (by rw [e])
theorem sameJobs_at {xs ys : List JobD} {k : Nat} {x y : JobD} (hx : xs[k]? = some x) (hy : ys[k]? = some y) (h : x ≠ y) : sameJobs xs ys = false :=
  decide_eq_false fun e => h (by rw [e, hy] at hx; exact (Option.some.inj hx).symm)
theorem sameJobs_all {xs ys : List JobD} (hl : xs.length = ys.length) (h : ∀ i x y, i < xs.length → xs[i]? = some x → ys[i]? = some y → x = y) : sameJobs xs ys = true :=
  decide_eq_true (List.ext_getElem? fun i => by
    by_cases hi : i < xs.length
    · have e1 : xs[i]? = some xs[i] := List.getElem?_eq_getElem _
      have e2 : ys[i]? = some (ys[i]'(by omega)) := List.getElem?_eq_getElem _
      rw [e1, e2, h i _ _ hi e1 e2]
    · rw [List.getElem?_eq_none (by omega), List.getElem?_eq_none (by omega)])
theorem neJob_0 {x y : JobD} (h : (x.Time != y.Time) = true) : x ≠ y := fun e => by subst e; simp at h
theorem neJob_1 {x y : JobD} (h : (x.Release != y.Release) = true) : x ≠ y := fun e => by subst e; simp at h
theorem neJob_2 {x y : JobD} (h : (x.Due != y.Due) = true) : x ≠ y := fun e => by subst e; simp at h
theorem neJob_3 {x y : JobD} (h : (x.Weight != y.Weight) = true) : x ≠ y := fun e => by subst e; simp at h
theorem eqJob_of {x y : JobD} (h0 : (x.Time != y.Time) = false) (h1 : (x.Release != y.Release) = false) (h2 : (x.Due != y.Due) = false) (h3 : (x.Weight != y.Weight) = false) : x = y := by
  cases x; cases y
  simp only [bne_eq_false_iff_eq] at h0 h1 h2 h3
  subst_vars; rfl

/-- What is known of two lists of one length in a round. -/
theorem pairsJob {B : Nat} {a1 a2 : Option Addr} {w : World} {xs ys : List JobD} {c1 c2 : Nat} (h1 : LstJob B w (.slice a1 xs.length c1) xs) (h2 : LstJob B w (.slice a2 ys.length c2) ys) (hl : xs.length = ys.length) :
    ∀ k, k < xs.length → ∃ (b1 o1 b2 o2 : Nat) (x y : JobD), a1 = some ⟨b1, o1, none⟩ ∧ a2 = some ⟨b2, o2, none⟩ ∧ xs[k]? = some x ∧ ys[k]? = some y ∧ (w.cell? ⟨b1, o1 + k * 4, none⟩ = some (.int .i64 x.Time) ∧ w.cell? ⟨b1, o1 + k * 4 + 1, none⟩ = some (.int .i64 x.Release) ∧ w.cell? ⟨b1, o1 + k * 4 + 2, none⟩ = some (.int .i64 x.Due) ∧ w.cell? ⟨b1, o1 + k * 4 + 3, none⟩ = some (.int .i64 x.Weight)) ∧ (w.cell? ⟨b2, o2 + k * 4, none⟩ = some (.int .i64 y.Time) ∧ w.cell? ⟨b2, o2 + k * 4 + 1, none⟩ = some (.int .i64 y.Release) ∧ w.cell? ⟨b2, o2 + k * 4 + 2, none⟩ = some (.int .i64 y.Due) ∧ w.cell? ⟨b2, o2 + k * 4 + 3, none⟩ = some (.int .i64 y.Weight)) := fun k hk => by
  obtain ⟨a1', cap1', e1, _, _, _, hc1⟩ := h1.at_
  obtain ⟨a2', cap2', e2, _, _, _, hc2⟩ := h2.at_
  injection e1 with e1 _ _
  injection e2 with e2 _ _
  subst e1 e2
  obtain ⟨b1, o1, x, ha1, _, hx, hr1⟩ := hc1 k hk
  obtain ⟨b2, o2, y, ha2, _, hy, hr2⟩ := hc2 k (by omega)
  exact ⟨b1, o1, b2, o2, x, y, ha1, ha2, hx, hy, hr1, hr2⟩

set_option maxHeartbeats 4000000 in
theorem l02Same_any (B : Nat) (v1 v2 : Value) (xs ys : List JobD) (w : World) (h1 : LstJob B w v1 xs) (h2 : LstJob B w v2 ys) :
    Calls Try.prog 42 #[v1, v2] w (Ret (.bool (sameJobs xs ys)) w) := by
  obtain ⟨a1, cap1, rfl, hl1, _, _, _⟩ := h1.at_
  obtain ⟨a2, cap2, rfl, hl2, _, _, _⟩ := h2.at_
  by_cases hl : xs.length = ys.length
  · have hX := Lib.hid (pairsJob h1 h2 hl)
    have hAll : Hid (∀ k, k = xs.length → (∀ i x y, i < k → xs[i]? = some x → ys[i]? = some y → x = y) → sameJobs xs ys = true) := Lib.hid fun k hk hp => sameJobs_all hl fun i x y hi => hp i x y (by omega)
    rw [← hl]
    clear h1 h2 hl hl2
    generalize xs.length = n at *
    unfold maxLen at hl1
    go_enter Try.func42, Try.ntmps42
    go_wp2
    go_loopw [5] (fun i wr => ∃ k m : Nat, k ≤ n ∧ i = .int .i64 k ∧ Hid (∀ i x y, i < k → xs[i]? = some x → ys[i]? = some y → x = y) ∧ wr = w.drewN m) (fun i _ => n - (intOf i).toNat)
    case atStart => exact ⟨0, 0, Nat.zero_le _, rfl, Lib.hid (fun i x y hi _ _ => by omega), rfl⟩
    case round =>
      obtain ⟨k, m, hk, rfl, hP, rfl⟩ := hrel
      by_cases hlt : k < n
      · obtain ⟨b1, o1, b2, o2, x, y, rfl, rfl, hx, hy, ⟨p0, p1, p2, p3⟩, ⟨q0, q1, q2, q3⟩⟩ := hX.out k hlt
        have hXx := Lib.hid hx
        have hYy := Lib.hid hy
        clear hx hy
        rw [← World.cell?_drewN (n := m)] at p0
        rw [← World.cell?_drewN (n := m)] at p1
        rw [← World.cell?_drewN (n := m)] at p2
        rw [← World.cell?_drewN (n := m)] at p3
        rw [← World.cell?_drewN (n := m)] at q0
        rw [← World.cell?_drewN (n := m)] at q1
        rw [← World.cell?_drewN (n := m)] at q2
        rw [← World.cell?_drewN (n := m)] at q3
        generalize hwo : w.drewN m = wo at *
        have hWo := Lib.hid hwo
        clear hwo
        cases h0 : (x.Time != y.Time)
        case true =>
          have hF := Lib.hid (sameJobs_at hXx.out hYy.out (neJob_0 h0))
          go_wp2_with fail
          go_quiet (fail)
          go_wp2
          go_ret
          exact ⟨_, ret_bool (by rw [hF.out]), by rw [← hWo.out, World.drewN_drewN]⟩
        case false =>
          cases h1 : (x.Release != y.Release)
          case true =>
            have hF := Lib.hid (sameJobs_at hXx.out hYy.out (neJob_1 h1))
            go_wp2_with fail
            go_quiet (fail)
            go_wp2
            go_ret
            exact ⟨_, ret_bool (by rw [hF.out]), by rw [← hWo.out, World.drewN_drewN]⟩
          case false =>
            cases h2 : (x.Due != y.Due)
            case true =>
              have hF := Lib.hid (sameJobs_at hXx.out hYy.out (neJob_2 h2))
              go_wp2_with fail
              go_quiet (fail)
              go_wp2
              go_ret
              exact ⟨_, ret_bool (by rw [hF.out]), by rw [← hWo.out, World.drewN_drewN]⟩
            case false =>
              cases h3 : (x.Weight != y.Weight)
              case true =>
                have hF := Lib.hid (sameJobs_at hXx.out hYy.out (neJob_3 h3))
                go_wp2_with fail
                go_quiet (fail)
                go_wp2
                go_ret
                exact ⟨_, ret_bool (by rw [hF.out]), by rw [← hWo.out, World.drewN_drewN]⟩
              case false =>
                have hE := Lib.hid (eqJob_of h0 h1 h2 h3)
                have hP2 : Hid (∀ i x y, i < k + 1 → xs[i]? = some x → ys[i]? = some y → x = y) := Lib.hid fun i x' y' hi hx hy => by
                  by_cases h1 : i < k
                  · exact hP.out i x' y' h1 hx hy
                  · have : i = k := by omega
                    subst this
                    rw [hXx.out] at hx; rw [hYy.out] at hy
                    cases hx; cases hy
                    exact hE.out
                go_wp2_with fail
                go_quiet (fail)
                go_wp2
                go_roundw
                case rel => exact ⟨k + 1, _, by omega, by go_num, hP2, by rw [← hWo.out, World.drewN_drewN]⟩
                case measure => simp [intOf]; omega
      · have hF := Lib.hid (hAll.out k (by omega) hP.out)
        go_wp2
        go_ret
        exact ⟨_, ret_bool (by rw [hF.out]), rfl⟩
  · have hV := Lib.hid (sameJobs_len hl)
    have hne : ((xs.length : Int) != (ys.length : Int)) = true := by rw [bne_iff_ne]; omega
    have hne2 : (xs.length != ys.length) = true := by rw [bne_iff_ne]; omega
    generalize xs.length = n1 at *
    generalize ys.length = n2 at *
    unfold maxLen at hl1 hl2
    clear hl
    go_enter Try.func42, Try.ntmps42
    go_wp2
    go_ret
    exact ⟨0, ret_bool (by rw [hV.out]), rfl⟩

theorem neqRowJob (x y : JobD) (w : World) : (binOp .neq 65 (.agg #[.int .i64 x.Time, .int .i64 x.Release, .int .i64 x.Due, .int .i64 x.Weight]) (.agg #[.int .i64 y.Time, .int .i64 y.Release, .int .i64 y.Due, .int .i64 y.Weight])).run Try.prog w = .ok (.bool (!decide (x = y))) w := by
  have hS : Try.prog.underlying 65 = some (.struct (Try.prog.fieldsOf 65)) := by kernel_rfl
  have hp : Try.prog.stoodInHeld 65 = false := by kernel_rfl
  have u := Try.underlying2
  have hd : decide (x = y) = (x.Time == y.Time && x.Release == y.Release && x.Due == y.Due && x.Weight == y.Weight) := by
    cases x; cases y
    rw [Bool.eq_iff_iff]
    simp only [JobD.mk.injEq, decide_eq_true_eq, Bool.and_eq_true, beq_iff_eq, and_assoc]
  rw [run_neq_struct, show (10000 : Nat) = 9999 + 1 from rfl, run_equalIn_agg w 9999 65 _ _ hS hp, hd]
  simp only [Program.fieldsOf, Try.underlying65]
  go_simp
  by_cases h0 : x.Time = y.Time <;> by_cases h1 : x.Release = y.Release <;> by_cases h2 : x.Due = y.Due <;> by_cases h3 : x.Weight = y.Weight <;> simp [h0, h1, h2, h3]
set_option maxHeartbeats 4000000 in
theorem equalJob_any (B : Nat) (v1 v2 : Value) (xs ys : List JobD) (w : World) (h1 : LstJob B w v1 xs) (h2 : LstJob B w v2 ys) :
    Calls Try.prog 72 #[v1, v2] w (Ret (.bool (sameJobs xs ys)) w) := by
  obtain ⟨a1, cap1, rfl, hl1, _, _, _⟩ := h1.at_
  obtain ⟨a2, cap2, rfl, hl2, _, _, _⟩ := h2.at_
  by_cases hl : xs.length = ys.length
  · have hX := Lib.hid (pairsJob h1 h2 hl)
    have hAll : Hid (∀ k, k = xs.length → (∀ i x y, i < k → xs[i]? = some x → ys[i]? = some y → x = y) → sameJobs xs ys = true) := Lib.hid fun k hk hp => sameJobs_all hl fun i x y hi => hp i x y (by omega)
    rw [← hl]
    clear h1 h2 hl hl2
    generalize xs.length = n at *
    unfold maxLen at hl1
    go_enter Try.func72, Try.ntmps72
    go_wp2
    go_loopw [13] (fun i wr => ∃ k m : Nat, k ≤ n ∧ i = .int .i64 k ∧ Hid (∀ i x y, i < k → xs[i]? = some x → ys[i]? = some y → x = y) ∧ wr = w.drewN m) (fun i _ => n - (intOf i).toNat)
    case atStart => exact ⟨0, 0, Nat.zero_le _, rfl, Lib.hid (fun i x y hi _ _ => by omega), rfl⟩
    case round =>
      obtain ⟨k, m, hk, rfl, hP, rfl⟩ := hrel
      by_cases hlt : k < n
      · obtain ⟨b1, o1, b2, o2, x, y, rfl, rfl, hx, hy, ⟨p0, p1, p2, p3⟩, ⟨q0, q1, q2, q3⟩⟩ := hX.out k hlt
        have hXx := Lib.hid hx
        have hYy := Lib.hid hy
        clear hx hy
        rw [← World.cell?_drewN (n := m)] at p0
        rw [← World.cell?_drewN (n := m)] at p1
        rw [← World.cell?_drewN (n := m)] at p2
        rw [← World.cell?_drewN (n := m)] at p3
        rw [← World.cell?_drewN (n := m)] at q0
        rw [← World.cell?_drewN (n := m)] at q1
        rw [← World.cell?_drewN (n := m)] at q2
        rw [← World.cell?_drewN (n := m)] at q3
        generalize hwo : w.drewN m = wo at *
        have hWo := Lib.hid hwo
        clear hwo
        have hne := neqRowJob x y
        cases hq : decide (x = y)
        · have hF := Lib.hid (sameJobs_at hXx.out hYy.out (of_decide_eq_false hq))
          rw [hq] at hne
          clear hq
          go_wp2_with fail
          go_quiet (fail)
          go_wp2
          go_ret
          exact ⟨_, ret_bool (by rw [hF.out]), by rw [← hWo.out, World.drewN_drewN]⟩
        · have hE := Lib.hid (of_decide_eq_true hq)
          rw [hq] at hne
          clear hq
          have hP2 : Hid (∀ i x y, i < k + 1 → xs[i]? = some x → ys[i]? = some y → x = y) := Lib.hid fun i x' y' hi hx hy => by
            by_cases h1 : i < k
            · exact hP.out i x' y' h1 hx hy
            · have : i = k := by omega
              subst this
              rw [hXx.out] at hx; rw [hYy.out] at hy
              cases hx; cases hy
              exact hE.out
          go_wp2_with fail
          go_quiet (fail)
          go_wp2
          go_roundw
          case rel => exact ⟨k + 1, _, by omega, by go_num, hP2, by rw [← hWo.out, World.drewN_drewN]⟩
          case measure => simp [intOf]; omega
      · have hF := Lib.hid (hAll.out k (by omega) hP.out)
        go_wp2
        go_ret
        exact ⟨_, ret_bool (by rw [hF.out]), rfl⟩
  · have hV := Lib.hid (sameJobs_len hl)
    have hne : ((xs.length : Int) != (ys.length : Int)) = true := by rw [bne_iff_ne]; omega
    have hne2 : (xs.length != ys.length) = true := by rw [bne_iff_ne]; omega
    generalize xs.length = n1 at *
    generalize ys.length = n2 at *
    unfold maxLen at hl1 hl2
    clear hl
    go_enter Try.func72, Try.ntmps72
    go_wp2
    go_ret
    exact ⟨0, ret_bool (by rw [hV.out]), rfl⟩
set_option maxHeartbeats 400000 in
theorem implSameJobs_any (B : Nat) (v1 v2 : Value) (xs ys : List JobD) (w : World) (h1 : LstJob B w v1 xs) (h2 : LstJob B w v2 ys) : Calls Try.prog 45 #[v1, v2] w (Ret (.bool (sameJobs xs ys)) w) := by
  have hJ := Lib.hid (equalJob_any B v1 v2 xs ys w h1 h2)
  clear h1 h2
  generalize sameJobs xs ys = q at *
  go_enter Try.func45, Try.ntmps45
  go_wp2_with fail
  refine (hJ.out).mono ?_
  rintro e w' ⟨m, rfl, rfl⟩
  go_wp2_with fail
  go_ret
  exact Ret.later _ _ _
end Go.Proofs.Ytpolhjkjgbfdhaa
