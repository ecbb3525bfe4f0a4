/- Contracts: which rules of shifts are valid, and when two are the same. -/
import Derived.Test.YtpolhjkjgbfdhaaDoorAggShiftRule
import Derived.Test.YtpolhjkjgbfdhaaDoorAreJobs
namespace Go.Proofs.YtpolhjkjgbfdhaaDoor
open Go.RowKit Go.Lst

def okRule (x : ShiftRuleD) : Bool := inB x.Slots 1 24 && inB x.Most 0 x.Slots && inB x.Least 0 x.Most && inB x.Row 1 x.Slots && inB x.Pause 1 x.Slots
theorem okRule_of {x : ShiftRuleD} (h : okRule x = true) : (1 ≤ x.Slots ∧ x.Slots ≤ 24) ∧ (0 ≤ x.Most ∧ x.Most ≤ x.Slots) ∧ (0 ≤ x.Least ∧ x.Least ≤ x.Most) ∧ (1 ≤ x.Row ∧ x.Row ≤ x.Slots) ∧ (1 ≤ x.Pause ∧ x.Pause ≤ x.Slots) := by
  simp only [okRule, Bool.and_eq_true] at h
  exact ⟨inB_true h.1.1.1.1, inB_true h.1.1.1.2, inB_true h.1.1.2, inB_true h.1.2, inB_true h.2⟩
set_option maxHeartbeats 2000000 in
theorem l06Is_any (b o : Nat) (x : ShiftRuleD) (w : World) (h0 : w.cell? ⟨b, o, none⟩ = some (.int .i64 x.Slots)) (h1 : w.cell? ⟨b, o + 1, none⟩ = some (.int .i64 x.Least)) (h2 : w.cell? ⟨b, o + 2, none⟩ = some (.int .i64 x.Most)) (h3 : w.cell? ⟨b, o + 3, none⟩ = some (.int .i64 x.Row)) (h4 : w.cell? ⟨b, o + 4, none⟩ = some (.int .i64 x.Pause)) :
    Calls Tryd.prog 36 #[.pointer (some ⟨b, o, none⟩)] w (Ret (.bool (okRule x)) w) := by
  cases e0 : inB x.Slots 1 24
  case false =>
    have hF := Lib.hid (show okRule x = false by simp [okRule, e0])
    go_enter Tryd.func36, Tryd.ntmps36
    go_wp2_with fail; go_quiet ((go_at_call 64; with_reducible exact Ret.quiet (Ret.same (l00In_is _ _ _ ‹_› _)))); go_wp2
    go_ret
    exact ⟨_, ret_bool (by rw [hF.out]), by first | rfl | exact World.drewN_drewN ..⟩
  case true =>
    cases e1 : inB x.Most 0 x.Slots
    case false =>
      have hF := Lib.hid (show okRule x = false by simp [okRule, e0, e1])
      go_enter Tryd.func36, Tryd.ntmps36
      go_wp2_with fail; go_quiet ((go_at_call 64; with_reducible exact Ret.quiet (Ret.same (l00In_is _ _ _ ‹_› _)))); go_wp2
      go_ret
      exact ⟨_, ret_bool (by rw [hF.out]), by first | rfl | exact World.drewN_drewN ..⟩
    case true =>
      cases e2 : inB x.Least 0 x.Most
      case false =>
        have hF := Lib.hid (show okRule x = false by simp [okRule, e0, e1, e2])
        go_enter Tryd.func36, Tryd.ntmps36
        go_wp2_with fail; go_quiet ((go_at_call 64; with_reducible exact Ret.quiet (Ret.same (l00In_is _ _ _ ‹_› _)))); go_wp2
        go_ret
        exact ⟨_, ret_bool (by rw [hF.out]), by first | rfl | exact World.drewN_drewN ..⟩
      case true =>
        cases e3 : inB x.Row 1 x.Slots
        case false =>
          have hF := Lib.hid (show okRule x = false by simp [okRule, e0, e1, e2, e3])
          go_enter Tryd.func36, Tryd.ntmps36
          go_wp2_with fail; go_quiet ((go_at_call 64; with_reducible exact Ret.quiet (Ret.same (l00In_is _ _ _ ‹_› _)))); go_wp2
          go_ret
          exact ⟨_, ret_bool (by rw [hF.out]), by first | rfl | exact World.drewN_drewN ..⟩
        case true =>
          cases e4 : inB x.Pause 1 x.Slots
          case false =>
            have hF := Lib.hid (show okRule x = false by simp [okRule, e0, e1, e2, e3, e4])
            go_enter Tryd.func36, Tryd.ntmps36
            go_wp2_with fail; go_quiet ((go_at_call 64; with_reducible exact Ret.quiet (Ret.same (l00In_is _ _ _ ‹_› _)))); go_wp2
            go_ret
            exact ⟨_, ret_bool (by rw [hF.out]), by first | rfl | exact World.drewN_drewN ..⟩
          case true =>
            have hF := Lib.hid (show okRule x = true by simp [okRule, e0, e1, e2, e3, e4])
            go_enter Tryd.func36, Tryd.ntmps36
            go_wp2_with fail; go_quiet ((go_at_call 64; with_reducible exact Ret.quiet (Ret.same (l00In_is _ _ _ ‹_› _)))); go_wp2
            go_ret
            exact ⟨_, ret_bool (by rw [hF.out]), by first | rfl | exact World.drewN_drewN ..⟩
set_option maxHeartbeats 2000000 in
theorem validRule_any (x : ShiftRuleD) (w : World) : Calls Tryd.prog 38 #[x.agg] w fun e w' => e = .returned (.bool (okRule x)) ∧ Below w.heap.size w w' := by
  cases e0 : inB x.Slots 1 24
  case false =>
    have hF := Lib.hid (show okRule x = false by simp [okRule, e0])
    go_enter Tryd.func38, Tryd.ntmps38
    go_wp2_with (go_at_call 66; refine (isWithin_any _ _ _ _).mono ?_; rintro e w' ⟨rfl, rfl⟩)
    go_ret
    exact ⟨ret_bool (by rw [hF.out]), by repeat (first | exact Below.refl _ _ | refine below_alloc ?_ _ | refine below_drew ?_ _ | refine Below.setCell ?_ (Nat.le_refl _) _)⟩
  case true =>
    cases e1 : inB x.Most 0 x.Slots
    case false =>
      have hF := Lib.hid (show okRule x = false by simp [okRule, e0, e1])
      go_enter Tryd.func38, Tryd.ntmps38
      go_wp2_with (go_at_call 66; refine (isWithin_any _ _ _ _).mono ?_; rintro e w' ⟨rfl, rfl⟩)
      go_ret
      exact ⟨ret_bool (by rw [hF.out]), by repeat (first | exact Below.refl _ _ | refine below_alloc ?_ _ | refine below_drew ?_ _ | refine Below.setCell ?_ (Nat.le_refl _) _)⟩
    case true =>
      cases e2 : inB x.Least 0 x.Most
      case false =>
        have hF := Lib.hid (show okRule x = false by simp [okRule, e0, e1, e2])
        go_enter Tryd.func38, Tryd.ntmps38
        go_wp2_with (go_at_call 66; refine (isWithin_any _ _ _ _).mono ?_; rintro e w' ⟨rfl, rfl⟩)
        go_ret
        exact ⟨ret_bool (by rw [hF.out]), by repeat (first | exact Below.refl _ _ | refine below_alloc ?_ _ | refine below_drew ?_ _ | refine Below.setCell ?_ (Nat.le_refl _) _)⟩
      case true =>
        cases e3 : inB x.Row 1 x.Slots
        case false =>
          have hF := Lib.hid (show okRule x = false by simp [okRule, e0, e1, e2, e3])
          go_enter Tryd.func38, Tryd.ntmps38
          go_wp2_with (go_at_call 66; refine (isWithin_any _ _ _ _).mono ?_; rintro e w' ⟨rfl, rfl⟩)
          go_ret
          exact ⟨ret_bool (by rw [hF.out]), by repeat (first | exact Below.refl _ _ | refine below_alloc ?_ _ | refine below_drew ?_ _ | refine Below.setCell ?_ (Nat.le_refl _) _)⟩
        case true =>
          cases e4 : inB x.Pause 1 x.Slots
          case false =>
            have hF := Lib.hid (show okRule x = false by simp [okRule, e0, e1, e2, e3, e4])
            go_enter Tryd.func38, Tryd.ntmps38
            go_wp2_with (go_at_call 66; refine (isWithin_any _ _ _ _).mono ?_; rintro e w' ⟨rfl, rfl⟩)
            go_ret
            exact ⟨ret_bool (by rw [hF.out]), by repeat (first | exact Below.refl _ _ | refine below_alloc ?_ _ | refine below_drew ?_ _ | refine Below.setCell ?_ (Nat.le_refl _) _)⟩
          case true =>
            have hF := Lib.hid (show okRule x = true by simp [okRule, e0, e1, e2, e3, e4])
            go_enter Tryd.func38, Tryd.ntmps38
            go_wp2_with (go_at_call 66; refine (isWithin_any _ _ _ _).mono ?_; rintro e w' ⟨rfl, rfl⟩)
            go_ret
            exact ⟨ret_bool (by rw [hF.out]), by repeat (first | exact Below.refl _ _ | refine below_alloc ?_ _ | refine below_drew ?_ _ | refine Below.setCell ?_ (Nat.le_refl _) _)⟩
end Go.Proofs.YtpolhjkjgbfdhaaDoor
