/- Contract: the journal of lines, the model's. No condition. -/
import Derived.Test.YtpolhjkjgbfdhaaDoorJournal
import Derived.Deep.RegionHeld3
import Derived.Laws.Concat
namespace Go.Proofs.YtpolhjkjgbfdhaaDoor
open Go.RowKit Go.Lst Go

theorem stJ_top {xs : List ByteArray} (ht : totJ xs xs.length ≤ 16000) {k : Nat} (hk : k ≤ xs.length) : (stJ xs k).2.size ≤ 128000 := by
  have h1 := stJ_mono xs k (xs.length - k)
  rw [show k + (xs.length - k) = xs.length by omega] at h1
  have h2 := (stJ_tot xs xs.length).2
  omega
theorem ret_str {s t : ByteArray} (h : s = t) : Ending.returned (.string s) = .returned (.string t) := by rw [h]
set_option maxHeartbeats 4000000 in
set_option maxRecDepth 100000 in
theorem l08Journal_any (B : Nat) (v : Value) (xs : List ByteArray) (w : World) (h : LstS B w v xs) (hB : B ≤ w.heap.size) (hxs : ∀ x ∈ xs, x.size ≤ 1048576) (ht : totJ xs xs.length ≤ 16000) :
    Calls Tryd.prog 48 #[v] w fun e w' => e = .returned (.string (stJ xs xs.length).2) ∧ Below w.heap.size w w' := by
  obtain ⟨a, cap, rfl, hl, hc⟩ := lstS_at h
  have hC := Lib.hid hc
  have hSz := Lib.hid (fun k x (hx : xs[k]? = some x) => hxs x (List.mem_of_getElem? hx))
  have hBl := Lib.hid (show ∀ (w' : World) (b o : Nat) (x : ByteArray), Below w.heap.size w w' → b < B → w.cell? ⟨b, o, none⟩ = some (.string x) → w'.cell? ⟨b, o, none⟩ = some (.string x) from fun w' b o x hb hlt hx => by rw [hb.cell (p := ⟨b, o, none⟩) (Nat.lt_of_lt_of_le hlt hB)]; exact hx)
  have hTop := Lib.hid (fun k (hk : k ≤ xs.length) => stJ_top ht hk)
  have hSt := Lib.hid (fun k x (hx : xs[k]? = some x) => stJ_succ hx)
  have hCb := Lib.hid (fun k => stJ_chk xs k)
  have hB' := Lib.hid hB
  have h0 : (stJ xs 0).1 = 0 ∧ (stJ xs 0).2 = ⟨#[]⟩ := ⟨rfl, rfl⟩
  generalize hF : stJ xs = F at *
  generalize hlen : xs.length = n at *
  clear h hc hlen ht hF
  unfold maxLen at hl
  go_enter Tryd.func48, Tryd.ntmps48
  go_wp2_with fail
  go_loopw [3, 4, 5] (fun sv cv iv wr => ∃ (k : Nat), k ≤ n ∧ iv = .int .i64 k ∧ cv = .int .i64 (F k).1 ∧ sv = .string (F k).2 ∧ Hid (Below w.heap.size w wr)) (fun _ _ iv _ => n - (intOf iv).toNat)
  case atStart => exact ⟨0, Nat.zero_le _, rfl, by rw [h0.1], by rw [h0.2], Lib.hid (Below.refl _ _)⟩
  case round =>
    clear h0
    obtain ⟨k, hk, rfl, rfl, rfl, hBw⟩ := hrel
    by_cases hlt : k < n
    · obtain ⟨b, o, x, rfl, hbB, hx, hcx⟩ := hC.out k hlt
      have hcx1 := hBl.out wr b (o + k) x hBw.out hbB hcx
      have hxz := hSz.out k x hx
      obtain ⟨hc0, hc1⟩ := hCb.out k
      have hbw : b < wr.heap.size := World.block_lt_of_cell? wr _ hcx1
      have hCk := Lib.hid (l01Check_any (F k).1 hc0 hc1 x (by unfold maxLen; omega) wr)
      obtain ⟨hd0, hd1⟩ := chk_bound x.data.toList (F k).1 hc0 hc1
      have hDc := Lib.hid (fun w' => l01Dec_any (chk (F k).1 x.data.toList) (by omega) (by omega) w')
      have hds := (decS_size (chk (F k).1 x.data.toList) (by omega) (by omega)).2
      have hN := Lib.hid (hSt.out k x hx)
      have hsk := hTop.out k hk
      unfold stepJ at hN
      clear hx hcx
      generalize chk (F k).1 x.data.toList = c' at *
      have hN1 : Hid ((F (k + 1)).1 = c') := Lib.hid (by rw [hN.out])
      have hN2 : Hid ((F (k + 1)).2 = (F k).2 ++ entB c' x) := Lib.hid (by rw [hN.out])
      unfold entB at hN2
      clear hN
      generalize decS c' = t at *
      generalize hS : (F k).2 = sk at *
      generalize hFc : (F k).1 = c0 at *
      clear hS hFc
      have hz1 : (t ++ (⟨#[32]⟩ : ByteArray)).size ≤ 21 := by rw [ByteArray.size_append]; show t.size + 1 ≤ 21; omega
      have hz2 : (t ++ (⟨#[32]⟩ : ByteArray) ++ x).size ≤ 1048600 := by rw [ByteArray.size_append]; omega
      have hz3 : (t ++ (⟨#[32]⟩ : ByteArray) ++ x ++ (⟨#[10]⟩ : ByteArray)).size ≤ 1048601 := by
        rw [ByteArray.size_append]
        have e2 : (⟨#[10]⟩ : ByteArray).size = 1 := rfl
        omega
      have hA1 : ∀ W : World, (Op.stringOp .add t ⟨#[32]⟩).run Tryd.prog W = .ok (.string (t ++ ⟨#[32]⟩)) W := fun W => run_string_add_sum W _ _ (by show t.size + 1 ≤ _; omega)
      have hA2 : ∀ W : World, (Op.stringOp .add (t ++ ⟨#[32]⟩) x).run Tryd.prog W = .ok (.string (t ++ ⟨#[32]⟩ ++ x)) W := fun W => run_string_add_sum W _ _ (by omega)
      have hA3 : ∀ W : World, (Op.stringOp .add (t ++ ⟨#[32]⟩ ++ x) ⟨#[10]⟩).run Tryd.prog W = .ok (.string (t ++ ⟨#[32]⟩ ++ x ++ ⟨#[10]⟩)) W := fun W => run_string_add_sum W _ _ (by show (t ++ (⟨#[32]⟩ : ByteArray) ++ x).size + 1 ≤ _; omega)
      have hA4 : ∀ W : World, (Op.stringOp .add sk (t ++ ⟨#[32]⟩ ++ x ++ ⟨#[10]⟩)).run Tryd.prog W = .ok (.string (sk ++ (t ++ ⟨#[32]⟩ ++ x ++ ⟨#[10]⟩))) W := fun W => run_string_add_sum W _ _ (by omega)
      have hS0 : Hid (∀ w' : World, Below wr.heap.size wr w' → w'.cell? ⟨b, o + k, none⟩ = some (.string x) ∧ Below wr.heap.size wr w') := Lib.hid fun w' hb => ⟨by rw [hb.cell (p := ⟨b, o + k, none⟩) hbw]; exact hcx1, hb⟩
      have hR0 := Below.refl wr.heap.size wr
      go_wp2_with fail
      refine hCk.out.mono ?_
      rintro e wq ⟨rfl, rfl⟩
      go_wp2_with fail
      go_region_held3 (fun w' => w'.cell? ⟨b, o + k, none⟩ = some (.string x) ∧ Below wr.heap.size wr w') ((first | exact hS0.out _ hR0 | exact hS0.out _ hR0.drew | exact hS0.out _ hB8.out | exact hS0.out _ hB8.out.drew)) ((go_at_call 75; refine (hDc.out _).mono ?_; rintro e w8 ⟨rfl, b8⟩; have hB8 : Hid (Below wr.heap.size wr w8) := Lib.hid (by first | exact below_on hR0 (Nat.le_refl _) b8 | exact below_on hR0.drew (Nat.le_refl _) b8 | exact below_on hR0.drew.drew (Nat.le_refl _) b8); clear b8))
      all_goals
        have hB9 := Lib.hid (below_on hBw.out (Nat.le_refl _) hB8.out)
        clear hS0 hR0 hCk hDc hB8 hA1 hA2 hA3 hA4
        go_wp2_with fail
        go_roundw
        case rel => exact ⟨k + 1, by omega, by go_num, by rw [hN1.out], by rw [hN2.out], by first | exact hB9 | exact Lib.hid hB9.out.drew⟩
        case measure => simp [intOf] <;> omega
    · obtain rfl : k = n := by omega
      go_wp2_with fail
      go_ret
      exact ⟨rfl, hBw.out⟩
end Go.Proofs.YtpolhjkjgbfdhaaDoor
