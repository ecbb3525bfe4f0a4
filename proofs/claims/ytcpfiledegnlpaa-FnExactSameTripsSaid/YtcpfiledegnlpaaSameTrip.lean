/- Contracts: when two lists of Trips are the same. -/
import Derived.Test.YtcpfiledegnlpaaAreJobs
import Derived.Test.YtcpfiledegnlpaaRowTrip
import Derived.Laws.StructEq
namespace Go.Proofs.Ytcpfiledegnlpaa
open Go.RowKit Go.Lst

deriving instance DecidableEq for TripD
def sameTrips (xs ys : List TripD) : Bool := decide (xs = ys)
theorem sameTrips_len {xs ys : List TripD} (h : xs.length ≠ ys.length) : sameTrips xs ys = false := decide_eq_false fun e => h (by rw [e])
theorem sameTrips_at {xs ys : List TripD} {k : Nat} {x y : TripD} (hx : xs[k]? = some x) (hy : ys[k]? = some y) (h : x ≠ y) : sameTrips xs ys = false :=
  decide_eq_false fun e => h (by rw [e, hy] at hx; exact (Option.some.inj hx).symm)
theorem sameTrips_all {xs ys : List TripD} (hl : xs.length = ys.length) (h : ∀ i x y, i < xs.length → xs[i]? = some x → ys[i]? = some y → x = y) : sameTrips xs ys = true :=
  decide_eq_true (List.ext_getElem? fun i => by
    by_cases hi : i < xs.length
    · have e1 : xs[i]? = some xs[i] := List.getElem?_eq_getElem _
      have e2 : ys[i]? = some (ys[i]'(by omega)) := List.getElem?_eq_getElem _
      rw [e1, e2, h i _ _ hi e1 e2]
    · rw [List.getElem?_eq_none (by omega), List.getElem?_eq_none (by omega)])
theorem neTrip_0 {x y : TripD} (h : (x.Start != y.Start) = true) : x ≠ y := fun e => by subst e; simp at h
theorem neTrip_1 {x y : TripD} (h : (x.End != y.End) = true) : x ≠ y := fun e => by subst e; simp at h
theorem neTrip_2 {x y : TripD} (h : (x.From != y.From) = true) : x ≠ y := fun e => by subst e; simp at h
theorem neTrip_3 {x y : TripD} (h : (x.To != y.To) = true) : x ≠ y := fun e => by subst e; simp at h
theorem eqTrip_of {x y : TripD} (h0 : (x.Start != y.Start) = false) (h1 : (x.End != y.End) = false) (h2 : (x.From != y.From) = false) (h3 : (x.To != y.To) = false) : x = y := by
  cases x; cases y
  simp only [bne_eq_false_iff_eq] at h0 h1 h2 h3
  subst_vars; rfl

/-- What is known of two lists of one length in a round. -/
theorem pairsTrip {B : Nat} {a1 a2 : Option Addr} {w : World} {xs ys : List TripD} {c1 c2 : Nat} (h1 : LstTrip B w (.slice a1 xs.length c1) xs) (h2 : LstTrip B w (.slice a2 ys.length c2) ys) (hl : xs.length = ys.length) :
    ∀ k, k < xs.length → ∃ (b1 o1 b2 o2 : Nat) (x y : TripD), a1 = some ⟨b1, o1, none⟩ ∧ a2 = some ⟨b2, o2, none⟩ ∧ xs[k]? = some x ∧ ys[k]? = some y ∧ (w.cell? ⟨b1, o1 + k * 4, none⟩ = some (.int .i64 x.Start) ∧ w.cell? ⟨b1, o1 + k * 4 + 1, none⟩ = some (.int .i64 x.End) ∧ w.cell? ⟨b1, o1 + k * 4 + 2, none⟩ = some (.int .i64 x.From) ∧ w.cell? ⟨b1, o1 + k * 4 + 3, none⟩ = some (.int .i64 x.To)) ∧ (w.cell? ⟨b2, o2 + k * 4, none⟩ = some (.int .i64 y.Start) ∧ w.cell? ⟨b2, o2 + k * 4 + 1, none⟩ = some (.int .i64 y.End) ∧ w.cell? ⟨b2, o2 + k * 4 + 2, none⟩ = some (.int .i64 y.From) ∧ w.cell? ⟨b2, o2 + k * 4 + 3, none⟩ = some (.int .i64 y.To)) := fun k hk => by
  obtain ⟨a1', cap1', e1, _, _, _, hc1⟩ := h1.at_
  obtain ⟨a2', cap2', e2, _, _, _, hc2⟩ := h2.at_
  injection e1 with e1 _ _
  injection e2 with e2 _ _
  subst e1 e2
  obtain ⟨b1, o1, x, ha1, _, hx, hr1⟩ := hc1 k hk
  obtain ⟨b2, o2, y, ha2, _, hy, hr2⟩ := hc2 k (by omega)
  exact ⟨b1, o1, b2, o2, x, y, ha1, ha2, hx, hy, hr1, hr2⟩

set_option maxHeartbeats 4000000 in
theorem SameTrips_any (B : Nat) (v1 v2 : Value) (xs ys : List TripD) (w : World) (h1 : LstTrip B w v1 xs) (h2 : LstTrip B w v2 ys) :
    Calls Try.prog 19 #[v1, v2] w (Ret (.bool (sameTrips xs ys)) w) := by
  obtain ⟨a1, cap1, rfl, hl1, _, _, _⟩ := h1.at_
  obtain ⟨a2, cap2, rfl, hl2, _, _, _⟩ := h2.at_
  by_cases hl : xs.length = ys.length
  · have hX := Lib.hid (pairsTrip h1 h2 hl)
    have hAll : Hid (∀ k, k = xs.length → (∀ i x y, i < k → xs[i]? = some x → ys[i]? = some y → x = y) → sameTrips xs ys = true) := Lib.hid fun k hk hp => sameTrips_all hl fun i x y hi => hp i x y (by omega)
    rw [← hl]
    clear h1 h2 hl hl2
    generalize xs.length = n at *
    unfold maxLen at hl1
    go_enter Try.func19, Try.ntmps19
    go_wp2
    go_loopw [5] (fun i wr => ∃ k m : Nat, k ≤ n ∧ i = .int .i64 k ∧ Hid (∀ i x y, i < k → xs[i]? = some x → ys[i]? = some y → x = y) ∧ wr = w.drewN m) (fun i _ => n - (intOf i).toNat)
    case atStart => exact ⟨0, 0, Nat.zero_le _, rfl, Lib.hid (fun i x y hi _ _ => by omega), rfl⟩
    case round =>
      obtain ⟨k, m, hk, rfl, hP, rfl⟩ := hrel
      by_cases hlt : k < n
      · obtain ⟨b1, o1, b2, o2, x, y, rfl, rfl, hx, hy, ⟨p0, p1, p2, p3⟩, ⟨q0, q1, q2, q3⟩⟩ := hX.out k hlt
        have hXx := Lib.hid hx
        have hYy := Lib.hid hy
        clear hx hy
        rw [← World.cell?_drewN (n := m)] at p0
        rw [← World.cell?_drewN (n := m)] at p1
        rw [← World.cell?_drewN (n := m)] at p2
        rw [← World.cell?_drewN (n := m)] at p3
        rw [← World.cell?_drewN (n := m)] at q0
        rw [← World.cell?_drewN (n := m)] at q1
        rw [← World.cell?_drewN (n := m)] at q2
        rw [← World.cell?_drewN (n := m)] at q3
        generalize hwo : w.drewN m = wo at *
        have hWo := Lib.hid hwo
        clear hwo
        cases h0 : (x.Start != y.Start)
        case true =>
          have hF := Lib.hid (sameTrips_at hXx.out hYy.out (neTrip_0 h0))
          go_wp2_with fail
          go_quiet (fail)
          go_wp2
          go_ret
          exact ⟨_, ret_bool (by rw [hF.out]), by rw [← hWo.out, World.drewN_drewN]⟩
        case false =>
          cases h1 : (x.End != y.End)
          case true =>
            have hF := Lib.hid (sameTrips_at hXx.out hYy.out (neTrip_1 h1))
            go_wp2_with fail
            go_quiet (fail)
            go_wp2
            go_ret
            exact ⟨_, ret_bool (by rw [hF.out]), by rw [← hWo.out, World.drewN_drewN]⟩
          case false =>
            cases h2 : (x.From != y.From)
            case true =>
              have hF := Lib.hid (sameTrips_at hXx.out hYy.out (neTrip_2 h2))
              go_wp2_with fail
              go_quiet (fail)
              go_wp2
              go_ret
              exact ⟨_, ret_bool (by rw [hF.out]), by rw [← hWo.out, World.drewN_drewN]⟩
            case false =>
              cases h3 : (x.To != y.To)
              case true =>
                have hF := Lib.hid (sameTrips_at hXx.out hYy.out (neTrip_3 h3))
                go_wp2_with fail
                go_quiet (fail)
                go_wp2
                go_ret
                exact ⟨_, ret_bool (by rw [hF.out]), by rw [← hWo.out, World.drewN_drewN]⟩
              case false =>
                have hE := Lib.hid (eqTrip_of h0 h1 h2 h3)
                have hP2 : Hid (∀ i x y, i < k + 1 → xs[i]? = some x → ys[i]? = some y → x = y) := Lib.hid fun i x' y' hi hx hy => by
                  by_cases h1 : i < k
                  · exact hP.out i x' y' h1 hx hy
                  · have : i = k := by omega
                    subst this
                    rw [hXx.out] at hx; rw [hYy.out] at hy
                    cases hx; cases hy
                    exact hE.out
                go_wp2_with fail
                go_quiet (fail)
                go_wp2
                go_roundw
                case rel => exact ⟨k + 1, _, by omega, by go_num, hP2, by rw [← hWo.out, World.drewN_drewN]⟩
                case measure => simp [intOf]; omega
      · have hF := Lib.hid (hAll.out k (by omega) hP.out)
        go_wp2
        go_ret
        exact ⟨_, ret_bool (by rw [hF.out]), rfl⟩
  · have hV := Lib.hid (sameTrips_len hl)
    have hne : ((xs.length : Int) != (ys.length : Int)) = true := by rw [bne_iff_ne]; omega
    have hne2 : (xs.length != ys.length) = true := by rw [bne_iff_ne]; omega
    generalize xs.length = n1 at *
    generalize ys.length = n2 at *
    unfold maxLen at hl1 hl2
    clear hl
    go_enter Try.func19, Try.ntmps19
    go_wp2
    go_ret
    exact ⟨0, ret_bool (by rw [hV.out]), rfl⟩

theorem neqRowTrip (x y : TripD) (w : World) : (binOp .neq 68 (.agg #[.int .i64 x.Start, .int .i64 x.End, .int .i64 x.From, .int .i64 x.To]) (.agg #[.int .i64 y.Start, .int .i64 y.End, .int .i64 y.From, .int .i64 y.To])).run Try.prog w = .ok (.bool (!decide (x = y))) w := by
  have hS : Try.prog.underlying 68 = some (.struct (Try.prog.fieldsOf 68)) := by kernel_rfl
  have hp : Try.prog.stoodInHeld 68 = false := by kernel_rfl
  have u := Try.underlying2
  have hd : decide (x = y) = (x.Start == y.Start && x.End == y.End && x.From == y.From && x.To == y.To) := by
    cases x; cases y
    rw [Bool.eq_iff_iff]
    simp only [TripD.mk.injEq, decide_eq_true_eq, Bool.and_eq_true, beq_iff_eq, and_assoc]
  rw [run_neq_struct, show (10000 : Nat) = 9999 + 1 from rfl, run_equalIn_agg w 9999 68 _ _ hS hp, hd]
  simp only [Program.fieldsOf, Try.underlying68]
  go_simp
  by_cases h0 : x.Start = y.Start <;> by_cases h1 : x.End = y.End <;> by_cases h2 : x.From = y.From <;> by_cases h3 : x.To = y.To <;> simp [h0, h1, h2, h3]
set_option maxHeartbeats 4000000 in
theorem equalTrip_any (B : Nat) (v1 v2 : Value) (xs ys : List TripD) (w : World) (h1 : LstTrip B w v1 xs) (h2 : LstTrip B w v2 ys) :
    Calls Try.prog 58 #[v1, v2] w (Ret (.bool (sameTrips xs ys)) w) := by
  obtain ⟨a1, cap1, rfl, hl1, _, _, _⟩ := h1.at_
  obtain ⟨a2, cap2, rfl, hl2, _, _, _⟩ := h2.at_
  by_cases hl : xs.length = ys.length
  · have hX := Lib.hid (pairsTrip h1 h2 hl)
    have hAll : Hid (∀ k, k = xs.length → (∀ i x y, i < k → xs[i]? = some x → ys[i]? = some y → x = y) → sameTrips xs ys = true) := Lib.hid fun k hk hp => sameTrips_all hl fun i x y hi => hp i x y (by omega)
    rw [← hl]
    clear h1 h2 hl hl2
    generalize xs.length = n at *
    unfold maxLen at hl1
    go_enter Try.func58, Try.ntmps58
    go_wp2
    go_loopw [13] (fun i wr => ∃ k m : Nat, k ≤ n ∧ i = .int .i64 k ∧ Hid (∀ i x y, i < k → xs[i]? = some x → ys[i]? = some y → x = y) ∧ wr = w.drewN m) (fun i _ => n - (intOf i).toNat)
    case atStart => exact ⟨0, 0, Nat.zero_le _, rfl, Lib.hid (fun i x y hi _ _ => by omega), rfl⟩
    case round =>
      obtain ⟨k, m, hk, rfl, hP, rfl⟩ := hrel
      by_cases hlt : k < n
      · obtain ⟨b1, o1, b2, o2, x, y, rfl, rfl, hx, hy, ⟨p0, p1, p2, p3⟩, ⟨q0, q1, q2, q3⟩⟩ := hX.out k hlt
        have hXx := Lib.hid hx
        have hYy := Lib.hid hy
        clear hx hy
        rw [← World.cell?_drewN (n := m)] at p0
        rw [← World.cell?_drewN (n := m)] at p1
        rw [← World.cell?_drewN (n := m)] at p2
        rw [← World.cell?_drewN (n := m)] at p3
        rw [← World.cell?_drewN (n := m)] at q0
        rw [← World.cell?_drewN (n := m)] at q1
        rw [← World.cell?_drewN (n := m)] at q2
        rw [← World.cell?_drewN (n := m)] at q3
        generalize hwo : w.drewN m = wo at *
        have hWo := Lib.hid hwo
        clear hwo
        have hne := neqRowTrip x y
        cases hq : decide (x = y)
        · have hF := Lib.hid (sameTrips_at hXx.out hYy.out (of_decide_eq_false hq))
          rw [hq] at hne
          clear hq
          go_wp2_with fail
          go_quiet (fail)
          go_wp2
          go_ret
          exact ⟨_, ret_bool (by rw [hF.out]), by rw [← hWo.out, World.drewN_drewN]⟩
        · have hE := Lib.hid (of_decide_eq_true hq)
          rw [hq] at hne
          clear hq
          have hP2 : Hid (∀ i x y, i < k + 1 → xs[i]? = some x → ys[i]? = some y → x = y) := Lib.hid fun i x' y' hi hx hy => by
            by_cases h1 : i < k
            · exact hP.out i x' y' h1 hx hy
            · have : i = k := by omega
              subst this
              rw [hXx.out] at hx; rw [hYy.out] at hy
              cases hx; cases hy
              exact hE.out
          go_wp2_with fail
          go_quiet (fail)
          go_wp2
          go_roundw
          case rel => exact ⟨k + 1, _, by omega, by go_num, hP2, by rw [← hWo.out, World.drewN_drewN]⟩
          case measure => simp [intOf]; omega
      · have hF := Lib.hid (hAll.out k (by omega) hP.out)
        go_wp2
        go_ret
        exact ⟨_, ret_bool (by rw [hF.out]), rfl⟩
  · have hV := Lib.hid (sameTrips_len hl)
    have hne : ((xs.length : Int) != (ys.length : Int)) = true := by rw [bne_iff_ne]; omega
    have hne2 : (xs.length != ys.length) = true := by rw [bne_iff_ne]; omega
    generalize xs.length = n1 at *
    generalize ys.length = n2 at *
    unfold maxLen at hl1 hl2
    clear hl
    go_enter Try.func58, Try.ntmps58
    go_wp2
    go_ret
    exact ⟨0, ret_bool (by rw [hV.out]), rfl⟩
set_option maxHeartbeats 400000 in
theorem implSameTrips_any (B : Nat) (v1 v2 : Value) (xs ys : List TripD) (w : World) (h1 : LstTrip B w v1 xs) (h2 : LstTrip B w v2 ys) : Calls Try.prog 20 #[v1, v2] w (Ret (.bool (sameTrips xs ys)) w) := by
  have hJ := Lib.hid (equalTrip_any B v1 v2 xs ys w h1 h2)
  clear h1 h2
  generalize sameTrips xs ys = q at *
  go_enter Try.func20, Try.ntmps20
  go_wp2_with fail
  refine (hJ.out).mono ?_
  rintro e w' ⟨m, rfl, rfl⟩
  go_wp2_with fail
  go_ret
  exact Ret.later _ _ _
theorem sameTrips_both (xs ys : List TripD) (_ : ∀ y ∈ xs, y.wf) (_ : ∀ y ∈ ys, y.wf) : ∃ r0 : Bool,
    (∀ (B : Nat) (v1 v2 : Value) (w : World), LstTrip B w v1 xs → LstTrip B w v2 ys → B ≤ w.heap.size → Calls Try.prog 19 #[v1, v2] w fun e w' => e = .returned (.bool r0) ∧ Below w.heap.size w w') ∧
    (∀ (B : Nat) (v1 v2 : Value) (w : World), LstTrip B w v1 xs → LstTrip B w v2 ys → B ≤ w.heap.size → Calls Try.prog 20 #[v1, v2] w fun e w' => e = .returned (.bool r0) ∧ Below w.heap.size w w') :=
  ⟨sameTrips xs ys, fun B v1 v2 w h1 h2 _ => (SameTrips_any B v1 v2 xs ys w h1 h2).mono fun _ _ hr => hr.below, fun B v1 v2 w h1 h2 _ => (implSameTrips_any B v1 v2 xs ys w h1 h2).mono fun _ _ hr => hr.below⟩
end Go.Proofs.Ytcpfiledegnlpaa
