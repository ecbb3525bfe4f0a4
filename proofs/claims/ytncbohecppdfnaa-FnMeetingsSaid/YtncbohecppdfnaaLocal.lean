/- Contracts: the day and the minute in a zone. -/
import Derived.Test.YtncbohecppdfnaaAreJobs
import Derived.Test.YtncbohecppdfnaaEvents
import Derived.Test.YtncbohecppdfnaaPost
namespace Go.Proofs.Ytncbohecppdfnaa
open Go.RowKit Go.Lst

def locOk (m z : Int) : Bool := inB m (-1000000) 1000000 && inB z (-720) 840
def locM (m z : Int) : Int := remG (m + z) 1440
def locD (m z : Int) : Int := (m + z) / 1440
theorem day_eq (x : Int) : (x - remG x 1440).tdiv 1440 = x / 1440 := by
  unfold remG
  have e : x - x % 1440 = 1440 * (x / 1440) := by omega
  rw [e, Int.mul_tdiv_cancel_left _ (by omega)]
def LocPost (d m : Int) (ok : Bool) (w : World) (e : Ending) (w' : World) : Prop := e = .returned (.tuple #[.int .i64 d, .int .i64 m, .bool ok]) ∧ Below w.heap.size w w'
/-- What LocalTime returns. -/
def LocIs (m z : Int) : World → Ending → World → Prop := LocPost (if locOk m z then locD m z else 0) (if locOk m z then locM m z else 0) (locOk m z)
theorem loc_no {m z : Int} {w w' : World} (h : locOk m z = false) (hb : Below w.heap.size w w') : LocIs m z w (.returned (.tuple #[.int .i64 0, .int .i64 0, .bool false])) w' := by
  unfold LocIs LocPost
  rw [h]
  exact ⟨rfl, hb⟩
theorem loc_yes {m z d r : Int} {w w' : World} (h : locOk m z = true) (hd : d = locD m z) (hr : r = locM m z) (hb : Below w.heap.size w w') : LocIs m z w (.returned (.tuple #[.int .i64 d, .int .i64 r, .bool true])) w' := by
  unfold LocIs LocPost
  rw [h, hd, hr]
  exact ⟨rfl, hb⟩

set_option maxHeartbeats 1000000 in
set_option maxRecDepth 100000 in
theorem areZones_any (B : Nat) (v : Value) (zs : List Int) (w : World) (h : Lst B w v (zs.map (Value.int .i64))) : Calls Try.prog 39 #[v] w fun e w' => e = .returned (.bool (allIn zs (-720) 840)) ∧ w = w' := by
  have hA := Lib.hid (areWithin_any B v zs (-720) 840 w h)
  obtain ⟨a, cap, rfl, _⟩ := h
  rw [List.length_map] at hA ⊢
  generalize zs.length = n at *
  generalize allIn zs (-720) 840 = q at *
  go_enter Try.func39, Try.ntmps39
  go_wp2_with (go_at_call 47; (with_reducible refine hA.out.mono ?_); rintro e w' ⟨rfl, rfl⟩)
  go_ret
  exact ⟨rfl, rfl⟩
set_option maxHeartbeats 1000000 in
theorem remainderP_any (x p : Int) (w : World) (h1 : 1 ≤ p) (h2 : p ≤ 100000) : Calls Try.prog 40 #[.int .i64 x, .int .i64 p] w fun e w' => e = .returned (.int .i64 (remG x p)) ∧ w = w' := by
  have a1 := tmod_in (x := x) h1
  have a2 := tmod_in (x := x.tmod p + p) h1
  have hp0 : ¬ p = 0 := by omega
  have hpb : (p == 0) = false := by simpa using hp0
  have hw1 : IntKind.i64.wrap (x.tmod p) = x.tmod p := IntWalk.i64_in _ (by omega)
  have hw2 : IntKind.i64.wrap (x.tmod p + p) = x.tmod p + p := IntWalk.i64_in _ (by omega)
  have hw3 : IntKind.i64.wrap ((x.tmod p + p).tmod p) = (x.tmod p + p).tmod p := IntWalk.i64_in _ (by omega)
  go_enter Try.func40, Try.ntmps40
  go_wp2_with fail
  go_ret
  exact ⟨ret_int (by first | exact tm_eq | exact tm_eq2 h1), rfl⟩
theorem remainder_any (x : Int) (w : World) : Calls Try.prog 40 #[.int .i64 x, .int .i64 1440] w fun e w' => e = .returned (.int .i64 (remG x 1440)) ∧ w = w' :=
  remainderP_any x 1440 w (by omega) (by omega)
theorem lst_one {w : World} {x : Int} : Lst (w.heap.size + 1) (w.alloc (.cells #[.int .i64 x] 2)) (.slice (some ⟨w.heap.size, 0, none⟩) 1 1) ([x].map (Value.int .i64)) :=
  lst_lit (w := w) (t := 2) [x] rfl (by simp)
set_option maxHeartbeats 2000000 in
set_option maxRecDepth 100000 in
theorem implLocalTime_any (m z : Int) (w : World) : Calls Try.prog 10 #[.int .i64 m, .int .i64 z] w (LocIs m z w) := by
  have hNo : Hid (∀ w', locOk m z = false → Below w.heap.size w w' → LocIs m z w (.returned (.tuple #[.int .i64 0, .int .i64 0, .bool false])) w') := Lib.hid fun w' h hb => loc_no h hb
  have hYes : Hid (∀ d r w', locOk m z = true → d = locD m z → r = locM m z → Below w.heap.size w w' → LocIs m z w (.returned (.tuple #[.int .i64 d, .int .i64 r, .bool true])) w') := Lib.hid fun d r w' h hd hr hb => loc_yes h hd hr hb
  generalize LocIs m z w = Q at *
  have hb0 := Lib.hid (Below.refl w.heap.size w)
  have hb1 := Lib.hid (below_alloc (Below.refl w.heap.size w) (.cells #[.int .i64 z] 2))
  have hZ := Lib.hid (areZones_any (w.heap.size + 1) (.slice (some ⟨w.heap.size, 0, none⟩) 1 1) [z] _ (lst_one (w := w) (x := z)))
  have hZq : Hid (allIn [z] (-720) 840 = inB z (-720) 840) := Lib.hid (by simp [allIn])
  rw [hZq.out] at hZ
  cases h1 : inB m (-1000000) 1000000
  · have hF := Lib.hid (hNo.out _ (by unfold locOk; rw [h1]; rfl) hb0.out)
    clear hNo hYes
    go_enter Try.func10, Try.ntmps10
    go_wp2_with (go_at_call 38; (with_reducible refine (isWithin_any _ _ _ _).mono ?_); rintro e' w' ⟨rfl, rfl⟩; rw [h1])
    go_ret3
    exact hF.out
  · cases h2 : inB z (-720) 840
    · have hF := Lib.hid (hNo.out _ (by unfold locOk; rw [h1, h2]; rfl) hb1.out)
      rw [h2] at hZ
      clear hNo hYes
      go_enter Try.func10, Try.ntmps10
      go_wp2_with (first | (go_at_call 38; (with_reducible refine (isWithin_any _ _ _ _).mono ?_); rintro e' w' ⟨rfl, rfl⟩; rw [h1]) | (go_at_call 39; (with_reducible refine hZ.out.mono ?_); rintro e' w' ⟨rfl, rfl⟩))
      go_ret3
      exact hF.out
    · rw [h2] at hZ
      obtain ⟨a1, a2⟩ := inB_true h1
      obtain ⟨b1, b2⟩ := inB_true h2
      have hR := Lib.hid (fun w' => remainder_any (m + z) w')
      have hr := remG_in (x := m + z) (show (1 : Int) ≤ 1440 by omega)
      have hd := day_eq (m + z)
      have hw1 : IntKind.i64.wrap (m + z) = m + z := IntWalk.i64_in _ (by omega)
      have hw2 : IntKind.i64.wrap (m + z - remG (m + z) 1440) = m + z - remG (m + z) 1440 := IntWalk.i64_in _ (by omega)
      have hF : Hid (∀ d, d = (m + z - remG (m + z) 1440).tdiv 1440 → Q (.returned (.tuple #[.int .i64 d, .int .i64 (remG (m + z) 1440), .bool true])) (w.alloc (.cells #[.int .i64 z] 2))) := Lib.hid fun d hdd => hYes.out _ _ _ (by unfold locOk; rw [h1, h2]; rfl) (by rw [hdd, hd]; rfl) rfl hb1.out
      have hw3 : IntKind.i64.wrap ((m + z - remG (m + z) 1440).tdiv 1440) = (m + z - remG (m + z) 1440).tdiv 1440 := IntWalk.i64_in _ (by rw [hd]; omega)
      clear hNo hYes hd
      go_enter Try.func10, Try.ntmps10
      go_wp2_with (first | (go_at_call 38; (with_reducible refine (isWithin_any _ _ _ _).mono ?_); rintro e' w' ⟨rfl, rfl⟩; rw [h1]) | (go_at_call 39; (with_reducible refine hZ.out.mono ?_); rintro e' w' ⟨rfl, rfl⟩) | (go_at_call 40; (with_reducible refine (hR.out _).mono ?_); rintro e' w' ⟨rfl, rfl⟩))
      go_ret3
      exact hF.out _ rfl
set_option maxRecDepth 100000 in
theorem l07Zone_any (z : Int) (w : World) : Calls Try.prog 44 #[.int .i64 z] w fun e w' => e = .returned (.bool (inB z (-720) 840)) ∧ w = w' := by
  generalize hq : inB z (-720) 840 = q
  go_enter Try.func44, Try.ntmps44
  go_wp2_with (go_at_call 43; (with_reducible refine (l00In_is _ _ _ hq _).mono ?_); rintro e' w' ⟨rfl, rfl⟩)
  go_ret
  exact ⟨rfl, rfl⟩
end Go.Proofs.Ytncbohecppdfnaa
