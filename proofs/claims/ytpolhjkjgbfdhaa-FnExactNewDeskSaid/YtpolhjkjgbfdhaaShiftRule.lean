/- Contracts: which rules of shifts are valid, and when two are the same. -/
import Derived.Test.YtpolhjkjgbfdhaaAggShiftRule
import Derived.Test.YtpolhjkjgbfdhaaAreJobs
namespace Go.Proofs.Ytpolhjkjgbfdhaa
open Go.RowKit Go.Lst

def okRule (x : ShiftRuleD) : Bool := inB x.Slots 1 24 && inB x.Most 0 x.Slots && inB x.Least 0 x.Most && inB x.Row 1 x.Slots && inB x.Pause 1 x.Slots
theorem okRule_of {x : ShiftRuleD} (h : okRule x = true) : (1 ≤ x.Slots ∧ x.Slots ≤ 24) ∧ (0 ≤ x.Most ∧ x.Most ≤ x.Slots) ∧ (0 ≤ x.Least ∧ x.Least ≤ x.Most) ∧ (1 ≤ x.Row ∧ x.Row ≤ x.Slots) ∧ (1 ≤ x.Pause ∧ x.Pause ≤ x.Slots) := by
  simp only [okRule, Bool.and_eq_true] at h
  exact ⟨inB_true h.1.1.1.1, inB_true h.1.1.1.2, inB_true h.1.1.2, inB_true h.1.2, inB_true h.2⟩
set_option maxHeartbeats 2000000 in
theorem l06Is_any (b o : Nat) (x : ShiftRuleD) (w : World) (h0 : w.cell? ⟨b, o, none⟩ = some (.int .i64 x.Slots)) (h1 : w.cell? ⟨b, o + 1, none⟩ = some (.int .i64 x.Least)) (h2 : w.cell? ⟨b, o + 2, none⟩ = some (.int .i64 x.Most)) (h3 : w.cell? ⟨b, o + 3, none⟩ = some (.int .i64 x.Row)) (h4 : w.cell? ⟨b, o + 4, none⟩ = some (.int .i64 x.Pause)) :
    Calls Try.prog 63 #[.pointer (some ⟨b, o, none⟩)] w (Ret (.bool (okRule x)) w) := by
  cases e0 : inB x.Slots 1 24
  case false =>
    have hF := Lib.hid (show okRule x = false by simp [okRule, e0])
    go_enter Try.func63, Try.ntmps63
    go_wp2_with fail; go_quiet ((go_at_call 51; with_reducible exact Ret.quiet (Ret.same (l00In_is _ _ _ ‹_› _)))); go_wp2
    go_ret
    exact ⟨_, ret_bool (by rw [hF.out]), by first | rfl | exact World.drewN_drewN ..⟩
  case true =>
    cases e1 : inB x.Most 0 x.Slots
    case false =>
      have hF := Lib.hid (show okRule x = false by simp [okRule, e0, e1])
      go_enter Try.func63, Try.ntmps63
      go_wp2_with fail; go_quiet ((go_at_call 51; with_reducible exact Ret.quiet (Ret.same (l00In_is _ _ _ ‹_› _)))); go_wp2
      go_ret
      exact ⟨_, ret_bool (by rw [hF.out]), by first | rfl | exact World.drewN_drewN ..⟩
    case true =>
      cases e2 : inB x.Least 0 x.Most
      case false =>
        have hF := Lib.hid (show okRule x = false by simp [okRule, e0, e1, e2])
        go_enter Try.func63, Try.ntmps63
        go_wp2_with fail; go_quiet ((go_at_call 51; with_reducible exact Ret.quiet (Ret.same (l00In_is _ _ _ ‹_› _)))); go_wp2
        go_ret
        exact ⟨_, ret_bool (by rw [hF.out]), by first | rfl | exact World.drewN_drewN ..⟩
      case true =>
        cases e3 : inB x.Row 1 x.Slots
        case false =>
          have hF := Lib.hid (show okRule x = false by simp [okRule, e0, e1, e2, e3])
          go_enter Try.func63, Try.ntmps63
          go_wp2_with fail; go_quiet ((go_at_call 51; with_reducible exact Ret.quiet (Ret.same (l00In_is _ _ _ ‹_› _)))); go_wp2
          go_ret
          exact ⟨_, ret_bool (by rw [hF.out]), by first | rfl | exact World.drewN_drewN ..⟩
        case true =>
          cases e4 : inB x.Pause 1 x.Slots
          case false =>
            have hF := Lib.hid (show okRule x = false by simp [okRule, e0, e1, e2, e3, e4])
            go_enter Try.func63, Try.ntmps63
            go_wp2_with fail; go_quiet ((go_at_call 51; with_reducible exact Ret.quiet (Ret.same (l00In_is _ _ _ ‹_› _)))); go_wp2
            go_ret
            exact ⟨_, ret_bool (by rw [hF.out]), by first | rfl | exact World.drewN_drewN ..⟩
          case true =>
            have hF := Lib.hid (show okRule x = true by simp [okRule, e0, e1, e2, e3, e4])
            go_enter Try.func63, Try.ntmps63
            go_wp2_with fail; go_quiet ((go_at_call 51; with_reducible exact Ret.quiet (Ret.same (l00In_is _ _ _ ‹_› _)))); go_wp2
            go_ret
            exact ⟨_, ret_bool (by rw [hF.out]), by first | rfl | exact World.drewN_drewN ..⟩
set_option maxHeartbeats 2000000 in
theorem validRule_any (x : ShiftRuleD) (w : World) : Calls Try.prog 37 #[x.agg] w fun e w' => e = .returned (.bool (okRule x)) ∧ Below w.heap.size w w' := by
  cases e0 : inB x.Slots 1 24
  case false =>
    have hF := Lib.hid (show okRule x = false by simp [okRule, e0])
    go_enter Try.func37, Try.ntmps37
    go_wp2_with (go_at_call 67; refine (isWithin_any _ _ _ _).mono ?_; rintro e w' ⟨rfl, rfl⟩)
    go_ret
    exact ⟨ret_bool (by rw [hF.out]), by repeat (first | exact Below.refl _ _ | refine below_alloc ?_ _ | refine below_drew ?_ _ | refine Below.setCell ?_ (Nat.le_refl _) _)⟩
  case true =>
    cases e1 : inB x.Most 0 x.Slots
    case false =>
      have hF := Lib.hid (show okRule x = false by simp [okRule, e0, e1])
      go_enter Try.func37, Try.ntmps37
      go_wp2_with (go_at_call 67; refine (isWithin_any _ _ _ _).mono ?_; rintro e w' ⟨rfl, rfl⟩)
      go_ret
      exact ⟨ret_bool (by rw [hF.out]), by repeat (first | exact Below.refl _ _ | refine below_alloc ?_ _ | refine below_drew ?_ _ | refine Below.setCell ?_ (Nat.le_refl _) _)⟩
    case true =>
      cases e2 : inB x.Least 0 x.Most
      case false =>
        have hF := Lib.hid (show okRule x = false by simp [okRule, e0, e1, e2])
        go_enter Try.func37, Try.ntmps37
        go_wp2_with (go_at_call 67; refine (isWithin_any _ _ _ _).mono ?_; rintro e w' ⟨rfl, rfl⟩)
        go_ret
        exact ⟨ret_bool (by rw [hF.out]), by repeat (first | exact Below.refl _ _ | refine below_alloc ?_ _ | refine below_drew ?_ _ | refine Below.setCell ?_ (Nat.le_refl _) _)⟩
      case true =>
        cases e3 : inB x.Row 1 x.Slots
        case false =>
          have hF := Lib.hid (show okRule x = false by simp [okRule, e0, e1, e2, e3])
          go_enter Try.func37, Try.ntmps37
          go_wp2_with (go_at_call 67; refine (isWithin_any _ _ _ _).mono ?_; rintro e w' ⟨rfl, rfl⟩)
          go_ret
          exact ⟨ret_bool (by rw [hF.out]), by repeat (first | exact Below.refl _ _ | refine below_alloc ?_ _ | refine below_drew ?_ _ | refine Below.setCell ?_ (Nat.le_refl _) _)⟩
        case true =>
          cases e4 : inB x.Pause 1 x.Slots
          case false =>
            have hF := Lib.hid (show okRule x = false by simp [okRule, e0, e1, e2, e3, e4])
            go_enter Try.func37, Try.ntmps37
            go_wp2_with (go_at_call 67; refine (isWithin_any _ _ _ _).mono ?_; rintro e w' ⟨rfl, rfl⟩)
            go_ret
            exact ⟨ret_bool (by rw [hF.out]), by repeat (first | exact Below.refl _ _ | refine below_alloc ?_ _ | refine below_drew ?_ _ | refine Below.setCell ?_ (Nat.le_refl _) _)⟩
          case true =>
            have hF := Lib.hid (show okRule x = true by simp [okRule, e0, e1, e2, e3, e4])
            go_enter Try.func37, Try.ntmps37
            go_wp2_with (go_at_call 67; refine (isWithin_any _ _ _ _).mono ?_; rintro e w' ⟨rfl, rfl⟩)
            go_ret
            exact ⟨ret_bool (by rw [hF.out]), by repeat (first | exact Below.refl _ _ | refine below_alloc ?_ _ | refine below_drew ?_ _ | refine Below.setCell ?_ (Nat.le_refl _) _)⟩
def sameRule (x y : ShiftRuleD) : Bool := x.Slots == y.Slots && x.Least == y.Least && x.Most == y.Most && x.Row == y.Row && x.Pause == y.Pause
set_option maxHeartbeats 4000000 in
theorem implSameRule_any (x y : ShiftRuleD) (w : World) : Calls Try.prog 46 #[x.agg, y.agg] w fun e w' => e = .returned (.bool (sameRule x y)) ∧ Below w.heap.size w w' := by
  unfold sameRule
  go_enter Try.func46, Try.ntmps46
  go_wp2_with fail
  all_goals
    go_ret
    exact ⟨ret_bool (by simp [*]), by repeat (first | exact Below.refl _ _ | refine below_alloc ?_ _ | refine below_drew ?_ _ | refine Below.setCell ?_ (Nat.le_refl _) _)⟩
set_option maxHeartbeats 4000000 in
theorem specSameRule_any (x y : ShiftRuleD) (w : World) : Calls Try.prog 43 #[x.agg, y.agg] w fun e w' => e = .returned (.bool (sameRule x y)) ∧ Below w.heap.size w w' := by
  unfold sameRule
  cases e0 : (x.Slots == y.Slots) <;> cases e1 : (x.Least == y.Least) <;> cases e2 : (x.Most == y.Most) <;> cases e3 : (x.Row == y.Row) <;> cases e4 : (x.Pause == y.Pause)
  all_goals
    go_enter Try.func43, Try.ntmps43
    go_wp2_with fail
    go_ret
    exact ⟨rfl, by repeat (first | exact Below.refl _ _ | refine below_alloc ?_ _ | refine below_drew ?_ _ | refine Below.setCell ?_ (Nat.le_refl _) _)⟩
end Go.Proofs.Ytpolhjkjgbfdhaa
