/- Contracts: IsShift, both builds together. -/
import Derived.Test.YtcpfiledegnlpaaShiftSpec2
namespace Go.Proofs.Ytcpfiledegnlpaa
open Go.RowKit Go.Lst

set_option maxHeartbeats 4000000 in
theorem specIsShift_any (r : ShiftRuleD) (s : ByteArray) (hs : s.size ≤ 9223372036854775807) (w : World) :
    Calls Try.prog 39 #[r.agg, .string s] w (TwoB (isShiftA r s) (okRule r) w) := by
  have hW := Whole.made w 47 (r.cells) rfl
  have hI := Lib.hid (l06Is_any w.heap.size 0 r (w.alloc (.cells (r.cells) 47)) (hW.at_ (i := 0) rfl) (hW.at_ (i := 1) rfl) (hW.at_ (i := 2) rfl) (hW.at_ (i := 3) rfl) (hW.at_ (i := 4) rfl))
  have hB := Lib.hid (below_alloc (Below.refl w.heap.size w) (.cells (r.cells) 47))
  have hWh := Lib.hid hW
  have hQ : Hid (∀ w', Below w.heap.size w w' → TwoB (isShiftA r s) (okRule r) w (.returned (.tuple #[.bool (isShiftA r s), .bool (okRule r)])) w') := Lib.hid fun w' hb => ⟨rfl, hb⟩
  generalize TwoB (isShiftA r s) (okRule r) w = Q at *
  unfold isShiftA at hQ
  cases hr : okRule r
  · rw [hr] at hQ hI
    rw [Bool.false_and] at hQ
    unfold ShiftRuleD.cells at hI hB
    clear hW hWh hr
    go_enter Try.func39, Try.ntmps39
    go_wp2_with (go_at_call 63; (with_reducible refine (hI.out).mono ?_); rintro e w2 ⟨m, rfl, rfl⟩; have hB2 := Lib.hid (below_drew hB.out m))
    first | refine hQ.out _ ?_ | (go_ret2; refine hQ.out _ ?_)
    exact hB2.out
  · have hS : Hid (∀ m, Calls Try.prog 65 #[.pointer (some ⟨w.heap.size, 0, none⟩), .string s] ((w.alloc (.cells (r.cells) 47)).drewN m) fun e w' => e = .returned (.bool (shiftB r s)) ∧ Below ((w.alloc (.cells (r.cells) 47)).drewN m).heap.size ((w.alloc (.cells (r.cells) 47)).drewN m) w') := Lib.hid fun m => by
      have hWm := hWh.out.draws m
      exact l06Shift_any 0 w.heap.size 0 r s hr hs _ hWm.size (hWm.at_ (i := 0) rfl) (hWm.at_ (i := 1) rfl) (hWm.at_ (i := 2) rfl) (hWm.at_ (i := 3) rfl) (hWm.at_ (i := 4) rfl)
    rw [hr] at hQ hI
    rw [Bool.true_and] at hQ
    generalize shiftB r s = sb at *
    unfold ShiftRuleD.cells at hI hB hS
    clear hW hWh hr
    go_enter Try.func39, Try.ntmps39
    go_wp2_with (first | (go_at_call 63; (with_reducible refine (hI.out).mono ?_); rintro e w2 ⟨m, rfl, rfl⟩; have hB2 := Lib.hid (below_drew hB.out m)) | (go_at_call 65; (with_reducible refine (hS.out _).mono ?_); rintro e w3 ⟨rfl, hb3⟩; have hB3 := Lib.hid (below_on hB2.out (Nat.le_refl _) hb3); clear hb3))
    first | refine hQ.out _ ?_ | (go_ret2; refine hQ.out _ ?_)
    exact hB3.out
theorem isShift_both (r : ShiftRuleD) (s : ByteArray) (_ : r.wf) (hs : s.size ≤ maxLen) : ∃ (r0 r1 : Bool),
    (∀ (B : Nat) (w : World), B ≤ w.heap.size → Calls Try.prog 39 #[r.agg, .string s] w fun e w' => e = .returned (.tuple #[.bool r0, .bool r1]) ∧ Below w.heap.size w w') ∧
    (∀ (B : Nat) (w : World), B ≤ w.heap.size → Calls Try.prog 40 #[r.agg, .string s] w fun e w' => e = .returned (.tuple #[.bool r0, .bool r1]) ∧ Below w.heap.size w w') := by
  unfold maxLen at hs
  exact ⟨isShiftA r s, okRule r, fun _ w _ => specIsShift_any r s (by omega) w, fun _ w _ => implIsShift_any r s (by omega) w⟩
end Go.Proofs.Ytcpfiledegnlpaa
