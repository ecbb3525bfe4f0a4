/- The text of a list of numbers: the model's and the program's, alike. Conditions: the table of powers of ten lies as the library's text lays it (the program's side). -/
import Derived.Test.YtefheedhjgkmoaaDoorListText
namespace Go.Proofs.YtefheedhjgkmoaaDoor
open Go.RowKit Go.Lst Go

set_option maxHeartbeats 1000000 in
theorem listText_any (B : Nat) (v : Value) (xs : List Int) (w : World) (h : LstI B w v xs) (hB : B ≤ w.heap.size) (hT : Tab10 w) :
    Calls Tryd.prog 13 #[v] w fun e w' => e = .returned (.tuple #[.string (listR xs), .bool (okList xs)]) ∧ Below w.heap.size w w' := by
  have hI := Lib.hid (itemsText_any B v xs w h hB hT)
  clear h hB hT
  generalize listR xs = s at *
  generalize okList xs = q at *
  go_enter Tryd.func13, Tryd.ntmps13
  go_wp2_with fail
  refine hI.out.mono ?_
  rintro e w' ⟨rfl, hb⟩
  have hB := Lib.hid hb
  clear hb
  go_wp2_with fail
  first | exact ⟨rfl, hB.out⟩ | (go_ret2; exact ⟨rfl, hB.out⟩)
theorem all_take {xs : List Int} {k : Nat} {x : Int} (h : (xs.take k).all okVal = true) (hx : xs[k]? = some x) (hq : okVal x = true) : (xs.take (k + 1)).all okVal = true := by
  rw [List.take_add_one, hx, List.all_append, h]; simp [hq]
theorem all_stop {xs : List Int} {k : Nat} {x : Int} (hx : xs[k]? = some x) (hq : okVal x = false) : okList xs = false := by
  have : xs.all okVal = false := by
    rw [List.all_eq_false]
    exact ⟨x, List.mem_of_getElem? hx, by simp [hq]⟩
  unfold okList; rw [this]; simp
set_option maxHeartbeats 2000000 in
set_option maxRecDepth 100000 in
theorem l01List_any (B : Nat) (v : Value) (xs : List Int) (w : World) (h : LstI B w v xs) :
    Calls Tryd.prog 24 #[v] w fun e w' => e = .returned (.bool (okList xs)) ∧ w = w' := by
  obtain ⟨a, cap, rfl, hl, _, _, hc⟩ := h.at_
  have hC := Lib.hid hc
  have hSt := Lib.hid (fun k x (hx : xs[k]? = some x) (hq : okVal x = false) => all_stop hx hq)
  have hTk := Lib.hid (fun k x (h : (xs.take k).all okVal = true) (hx : xs[k]? = some x) (hq : okVal x = true) => all_take h hx hq)
  have hEnd : Hid (∀ k, k = xs.length → (xs.take k).all okVal = true → okList xs = decide (xs.length ≤ 64)) := Lib.hid fun k hk ha => by
    rw [List.take_of_length_le (by omega)] at ha
    unfold okList; rw [ha, Bool.and_true]
  have h0 : Hid ((xs.take 0).all okVal = true) := Lib.hid rfl
  generalize okList xs = Q at *
  generalize hlen : xs.length = n at *
  clear h hc hlen
  unfold maxLen at hl
  go_enter Tryd.func24, Tryd.ntmps24
  go_wp2_with fail
  go_loopw [3] (fun iv wr => w = wr ∧ ∃ (k : Nat), k ≤ n ∧ iv = .int .i64 k ∧ Hid ((xs.take k).all okVal = true)) (fun iv _ => n - (intOf iv).toNat)
  case atStart => exact ⟨rfl, 0, Nat.zero_le _, rfl, h0⟩
  case round =>
    obtain ⟨rfl, k, hk, rfl, hA⟩ := hrel
    by_cases hlt : k < n
    · obtain ⟨b, o, x, rfl, hbB, hx, hcx⟩ := hC.out k hlt
      have hxx := Lib.hid hx
      clear hx
      cases hq : okVal x
      · have hIn := Lib.hid (fun w' => l00In_is x (-1000000000000000) 1000000000000000 hq w')
        have hS := Lib.hid (hSt.out k x hxx.out hq)
        go_wp2_with (first | (go_at_call 31; (with_reducible refine (hIn.out _).mono ?_); rintro e w' ⟨rfl, rfl⟩))
        go_ret
        exact ⟨by rw [hS.out]; rfl, rfl⟩
      · have hIn := Lib.hid (fun w' => l00In_is x (-1000000000000000) 1000000000000000 hq w')
        have hS := Lib.hid (hTk.out k x hA.out hxx.out hq)
        go_wp2_with (first | (go_at_call 31; (with_reducible refine (hIn.out _).mono ?_); rintro e w' ⟨rfl, rfl⟩))
        go_roundw
        case rel => exact ⟨trivial, k + 1, by omega, by go_num, hS⟩
        case measure => simp [intOf]; omega
    · obtain rfl : k = n := by omega
      have hS := Lib.hid (hEnd.out k rfl hA.out)
      have hd : decide ((k : Int) ≤ 64) = decide (k ≤ 64) := by
        by_cases h : k ≤ 64
        · rw [decide_eq_true h]; exact decide_eq_true (by omega)
        · rw [decide_eq_false h]; exact decide_eq_false (by omega)
      go_wp2_with fail
      go_ret
      exact ⟨ret_bool (by first | (rw [hS.out]; exact hd) | rw [hS.out]), rfl⟩
set_option maxHeartbeats 2000000 in
set_option maxRecDepth 100000 in
theorem specListText_any (B : Nat) (v : Value) (xs : List Int) (w : World) (h : LstI B w v xs) (hB : B ≤ w.heap.size) :
    Calls Tryd.prog 11 #[v] w fun e w' => e = .returned (.tuple #[.string (listR xs), .bool (okList xs)]) ∧ Below w.heap.size w w' := by
  have hI := Lib.hid (l01List_any B v xs w h)
  cases hq : okList xs
  · have hr : listR xs = ⟨#[]⟩ := by unfold listR; rw [hq]; rfl
    rw [hr]
    rw [hq] at hI
    clear hq hr h hB
    go_enter Tryd.func11, Tryd.ntmps11
    go_wp2_with (first | (go_at_call 24; (with_reducible refine hI.out.mono ?_); rintro e w' ⟨rfl, rfl⟩))
    first | exact ⟨rfl, Below.refl _ _⟩ | (go_ret2; exact ⟨rfl, Below.refl _ _⟩)
  · have hr : listR xs = listB xs := by unfold listR; rw [hq]; rfl
    have hw : xs.length ≤ 64 ∧ xs.all okVal = true := by
      unfold okList at hq
      simpa using hq
    have hT := Lib.hid (l01Text_any B v xs w h (fun y hy => okVal_wide (List.all_eq_true.1 hw.2 y hy)) (by omega) hB)
    rw [hr]
    rw [hq] at hI
    clear hq hr hw h hB
    generalize listB xs = s at *
    go_enter Tryd.func11, Tryd.ntmps11
    go_wp2_with (first | (go_at_call 24; (with_reducible refine hI.out.mono ?_); rintro e w' ⟨rfl, rfl⟩) | (go_at_call 25; (with_reducible refine hT.out.mono ?_); rintro e w1 ⟨rfl, hb⟩; have hB := Lib.hid hb; clear hb))
    first | exact ⟨rfl, hB.out⟩ | (go_ret2; exact ⟨rfl, hB.out⟩)
theorem listText_both (xs : List Int) (_ : ∀ y ∈ xs, (Lit.int .i64 y).wf = true) : ∃ (r0 : ByteArray) (r1 : Bool),
    (∀ (B : Nat) (v : Value) (w : World), LstI B w v xs → B ≤ w.heap.size → Calls Tryd.prog 11 #[v] w fun e w' => e = .returned (.tuple #[.string r0, .bool r1]) ∧ Below w.heap.size w w') ∧
    (∀ (B : Nat) (v : Value) (w : World), Tab10 w → LstI B w v xs → B ≤ w.heap.size → Calls Tryd.prog 13 #[v] w fun e w' => e = .returned (.tuple #[.string r0, .bool r1]) ∧ Below w.heap.size w w') :=
  ⟨listR xs, okList xs, fun B v w h hB => specListText_any B v xs w h hB, fun B v w hT h hB => listText_any B v xs w h hB hT⟩
end Go.Proofs.YtefheedhjgkmoaaDoor
