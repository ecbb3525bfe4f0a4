/- Contracts: whether a list has a number. No condition. -/
import Derived.Test.YtkjnkomljhlbpaaAreJobs
namespace Go.Proofs.Ytkjnkomljhlbpaa
open Go.RowKit Go.Lst

set_option maxHeartbeats 1000000 in
theorem l00Has_any (B : Nat) (v : Value) (xs : List Int) (x : Int) (w : World) (h : Lst B w v (xs.map (Value.int .i64))) :
    Calls Try.prog 15 #[v, .int .i64 x] w (Ret (.bool (xs.contains x)) w) := by
  obtain ⟨a, cap, rfl, hl, hc⟩ := h
  rw [List.length_map] at hl ⊢
  have hX : Hid (∀ k, k < xs.length → ∃ b o y, a = some ⟨b, o, none⟩ ∧ w.cell? ⟨b, o + k, none⟩ = some (.int .i64 y) ∧ xs[k]? = some y) := Lib.hid fun k hk => by
    obtain ⟨b, o, ha, _, hb⟩ := hc (by intro h0; simp at h0; rw [h0] at hk; simp at hk)
    have e1 : xs[k]? = some xs[k] := List.getElem?_eq_getElem _
    exact ⟨b, o, xs[k], ha, hb k _ (by rw [List.getElem?_map, e1]; rfl), e1⟩
  clear hc
  have hN : Hid (∀ k, k = xs.length → (∀ i y, i < k → xs[i]? = some y → y ≠ x) → xs.contains x = false) := Lib.hid fun k hk hp => by
    rw [List.contains_eq_mem, decide_eq_false_iff_not]
    intro hm
    obtain ⟨i, hi, he⟩ := List.mem_iff_getElem.1 hm
    exact hp i _ (by omega) (List.getElem?_eq_getElem hi) he
  have hM : Hid (∀ i : Nat, xs[i]? = some x → xs.contains x = true) := Lib.hid fun i hi => by
    rw [List.contains_eq_mem, decide_eq_true_eq]
    exact List.mem_of_getElem? hi
  generalize xs.contains x = q at *
  generalize xs.length = n at *
  unfold maxLen at hl
  go_enter Try.func15, Try.ntmps15
  go_wp2
  go_loopw [5] (fun i wr => ∃ k : Nat, k ≤ n ∧ i = .int .i64 k ∧ Hid (∀ i y, i < k → xs[i]? = some y → y ≠ x) ∧ wr = w) (fun i _ => n - (intOf i).toNat)
  case atStart => exact ⟨0, Nat.zero_le _, rfl, Lib.hid (fun i x hi _ => by omega), rfl⟩
  case round =>
    obtain ⟨k, hk, rfl, hP, rfl⟩ := hrel
    by_cases hlt : k < n
    · obtain ⟨b, o, y, rfl, hcell, hy⟩ := hX.out k hlt
      have hYy := Lib.hid hy
      clear hy
      cases hq : (y == x)
      · have hP2 : Hid (∀ i z, i < k + 1 → xs[i]? = some z → z ≠ x) := Lib.hid fun i z hi hz => by
          by_cases h1 : i < k
          · exact hP.out i z h1 hz
          · have : i = k := by omega
            subst this
            rw [hYy.out] at hz
            cases hz
            exact beq_eq_false_iff_ne.1 hq
        go_wp2
        go_roundw
        case rel => exact ⟨k + 1, by omega, by go_num, hP2, by trivial⟩
        case measure => simp [intOf]; omega
      · have hF := Lib.hid (hM.out k (by rw [← beq_iff_eq.1 hq]; exact hYy.out))
        go_wp2
        go_ret
        exact ⟨0, ret_bool (by rw [hF.out]), rfl⟩
    · have hF := Lib.hid (hN.out k (by omega) hP.out)
      go_wp2
      go_ret
      exact ⟨0, ret_bool (by rw [hF.out]), rfl⟩
end Go.Proofs.Ytkjnkomljhlbpaa
