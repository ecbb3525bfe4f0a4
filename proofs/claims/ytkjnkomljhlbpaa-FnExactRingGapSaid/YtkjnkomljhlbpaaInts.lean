/- Contracts of the law's own functions on lists of int64: copied, compared, marked, and looked at again. -/
import Derived.Test.YtkjnkomljhlbpaaCopyI
import Derived.Test.YtkjnkomljhlbpaaOwn
import Derived.Deep.QuietTactic
import Derived.BigQuiet
import Derived.Deep.RegionWith
namespace Go.Proofs.Ytkjnkomljhlbpaa
open Go.RowKit Go.Lst

theorem Ret.same {P : Program} {f : FuncId} {args : Array Value} {w : World} {v : Value} (h : Calls P f args w fun e w' => e = .returned v ∧ w = w') : Calls P f args w (Ret v w) :=
  h.mono fun _ _ ⟨he, hw⟩ => ⟨0, he, by rw [← hw]; rfl⟩
theorem Ret.below {v : Value} {w w' : World} {e : Ending} (h : Ret v w e w') : e = .returned v ∧ Below w.heap.size w w' := by
  obtain ⟨m, he, hw⟩ := h
  exact ⟨he, by rw [hw]; exact below_drawn w m⟩

theorem copiedI (B : Nat) (v : Value) (xs : List Int) (w : World) (h : LstI B w v xs) (hB : B ≤ w.heap.size) (hlen : xs.length ≤ 1048576) :
    Calls Try.prog 7 #[v] w fun e w' => ∃ v', e = .returned v' ∧ Own w.heap.size w'.heap.size w' v' 2 1 xs.length (xs.map (Value.int .i64)) ∧ Below w.heap.size w w' :=
  (toInt64S_any B v xs w h.lst hB hlen).mono fun _ _ ⟨v', he, ho, hb, _⟩ => ⟨v', he, Own.new ho (by unfold maxLen; omega), hb⟩

set_option maxHeartbeats 1000000 in
theorem eqInt64S_yes (B : Nat) (v1 v2 : Value) (xs : List Int) (w : World) (h1 : LstI B w v1 xs) (h2 : LstI B w v2 xs) :
    Calls Try.prog 11 #[v1, v2] w (Ret (.bool true) w) := by
  obtain ⟨a1, cap1, rfl, hl1, hc1⟩ := h1.lst
  obtain ⟨a2, cap2, rfl, hl2, hc2⟩ := h2.lst
  rw [List.length_map] at hl1 ⊢
  have hne1 : 0 < xs.length → xs.map (Value.int .i64) ≠ [] := fun h h0 => by simp at h0; rw [h0] at h; simp at h
  have hX : Hid (∀ k, k < xs.length → ∃ b1 o1 b2 o2 x, a1 = some ⟨b1, o1, none⟩ ∧ a2 = some ⟨b2, o2, none⟩ ∧ w.cell? ⟨b1, o1 + k, none⟩ = some (.int .i64 x) ∧ w.cell? ⟨b2, o2 + k, none⟩ = some (.int .i64 x)) := Lib.hid fun k hk => by
    obtain ⟨b1, o1, ha1, _, hb1⟩ := hc1 (hne1 (by omega))
    obtain ⟨b2, o2, ha2, _, hb2⟩ := hc2 (hne1 (by omega))
    have e1 : xs[k]? = some xs[k] := List.getElem?_eq_getElem _
    exact ⟨b1, o1, b2, o2, xs[k], ha1, ha2, hb1 k _ (by rw [List.getElem?_map, e1]; rfl), hb2 k _ (by rw [List.getElem?_map, e1]; rfl)⟩
  clear hc1 hc2 hne1 hl2
  generalize xs.length = n at *
  unfold maxLen at hl1
  go_enter Try.func11, Try.ntmps11
  go_wp2
  go_loopw [5] (fun i wr => ∃ k m : Nat, k ≤ n ∧ i = .int .i64 k ∧ wr = w.drewN m) (fun i _ => n - (intOf i).toNat)
  case atStart => exact ⟨0, 0, Nat.zero_le _, rfl, rfl⟩
  case round =>
    obtain ⟨k, m, hk, rfl, rfl⟩ := hrel
    by_cases hlt : k < n
    · obtain ⟨b1, o1, b2, o2, x, rfl, rfl, hcell1, hcell2⟩ := hX.out k hlt
      rw [← World.cell?_drewN (n := m)] at hcell1 hcell2
      generalize hwo : w.drewN m = wo at *
      have hWo := Lib.hid hwo
      clear hwo
      go_wp2_with fail
      go_quiet (fail)
      go_wp2
      go_roundw
      case rel => exact ⟨k + 1, _, by omega, by go_num, by rw [← hWo.out, World.drewN_drewN]⟩
      case measure => simp [intOf]; omega
    · go_wp2
      go_ret
      exact Ret.later _ _ _

/-- The numbers from k on, as many as n. -/
def marksFrom (k : Int) : Nat → List Int
  | 0 => []
  | n + 1 => marksFrom k n ++ [k + n]
theorem marksFrom_length (k : Int) (n : Nat) : (marksFrom k n).length = n := by
  induction n with
  | zero => rfl
  | succ n ih => simp [marksFrom, ih]
theorem marksFrom_get (k : Int) (n i : Nat) (h : i < n) : (marksFrom k n)[i]? = some (k + i) := by
  induction n with
  | zero => omega
  | succ n ih =>
    unfold marksFrom
    by_cases h1 : i < n
    · rw [List.getElem?_append_left (by rw [marksFrom_length]; exact h1)]
      exact ih h1
    · have : i = n := by omega
      subst this
      rw [List.getElem?_append_right (by rw [marksFrom_length]; exact Nat.le_refl _), marksFrom_length, Nat.sub_self]
      rfl
theorem marks_step (f : Int → Value) (k0 : Int) (k n : Nat) (cs : List Value) (hl : cs.length = n) (hk : k < n) :
    ((marksFrom k0 k).map f ++ cs.drop k).set k (f (k0 + k)) = (marksFrom k0 (k + 1)).map f ++ cs.drop (k + 1) := by
  have hm : ((marksFrom k0 k).map f).length = k := by rw [List.length_map, marksFrom_length]
  rw [List.set_append_right _ _ (by omega), hm, Nat.sub_self, List.drop_eq_getElem_cons (by omega), List.set_cons_zero]
  simp [marksFrom]


end Go.Proofs.Ytkjnkomljhlbpaa
