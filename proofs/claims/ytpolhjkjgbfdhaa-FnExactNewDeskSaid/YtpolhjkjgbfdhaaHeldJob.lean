/- A law looks at its own marks in a list of jobs again. -/
import Derived.Test.YtpolhjkjgbfdhaaRowJob
namespace Go.Proofs.Ytpolhjkjgbfdhaa
open Go.RowKit Go.Lst

set_option maxHeartbeats 2000000 in
set_option maxRecDepth 100000 in
theorem heldJobS_any (B : Nat) (v : Value) (n : Nat) (k0 : Int) (w : World) (h : LstK 4 B w v n ((marksFrom k0 (n * 4)).map (Value.int .i64))) (h0 : 0 ≤ k0) (hk0 : k0 ≤ 1099511627776) (hn : n ≤ 1099511627776) :
    Calls Try.prog 49 #[v, .int .i64 k0] w (Ret (.int .i64 (k0 + n * 4)) w) := by
  obtain ⟨a, cap, rfl, hl, _, _, _, hc⟩ := h
  have hX : Hid (∀ k, k < n → ∃ b o, a = some ⟨b, o, none⟩ ∧ w.cell? ⟨b, o + k * 4, none⟩ = some (.int .i64 (k0 + k * 4)) ∧ w.cell? ⟨b, o + k * 4 + 1, none⟩ = some (.int .i64 (k0 + k * 4 + 1)) ∧ w.cell? ⟨b, o + k * 4 + 2, none⟩ = some (.int .i64 (k0 + k * 4 + 1 + 1)) ∧ w.cell? ⟨b, o + k * 4 + 3, none⟩ = some (.int .i64 (k0 + k * 4 + 1 + 1 + 1))) := Lib.hid fun k hk => by
    obtain ⟨b, o, ha, _, hb⟩ := hc (by omega)
    have g : ∀ j, j < 4 → w.cell? ⟨b, o + (k * 4 + j), none⟩ = some (.int .i64 (k0 + ((k * 4 + j : Nat) : Int))) := fun j hj => hb (k * 4 + j) _ (by rw [List.getElem?_map, marksFrom_get _ _ _ (by omega)]; rfl)
    have g0 := g 0 (by omega)
    have g1 := g 1 (by omega)
    have g2 := g 2 (by omega)
    have g3 := g 3 (by omega)
    refine ⟨b, o, ha, ?_, ?_, ?_, ?_⟩
    · rw [show o + k * 4 = o + (k * 4 + 0) by omega, g0]; congr 2
    · rw [show o + k * 4 + 1 = o + (k * 4 + 1) by omega, g1]; congr 2; omega
    · rw [show o + k * 4 + 2 = o + (k * 4 + 2) by omega, g2]; congr 2; omega
    · rw [show o + k * 4 + 3 = o + (k * 4 + 3) by omega, g3]; congr 2; omega
  clear hc
  unfold maxLen at hl
  go_enter Try.func49, Try.ntmps49
  go_wp2
  go_loopw [1, 5] (fun kk i wr => ∃ k m : Nat, k ≤ n ∧ i = .int .i64 k ∧ kk = .int .i64 (k0 + k * 4) ∧ wr = w.drewN m) (fun _ i _ => n - (intOf i).toNat)
  case atStart => exact ⟨0, 0, Nat.zero_le _, rfl, by simp, rfl⟩
  case round =>
    obtain ⟨k, m, hk, rfl, rfl, rfl⟩ := hrel
    by_cases hlt : k < n
    · obtain ⟨b, o, rfl, c0, c1, c2, c3⟩ := hX.out k hlt
      rw [← World.cell?_drewN (n := m)] at c0
      rw [← World.cell?_drewN (n := m)] at c1
      rw [← World.cell?_drewN (n := m)] at c2
      rw [← World.cell?_drewN (n := m)] at c3
      generalize hwo : w.drewN m = wo at *
      have hWo := Lib.hid hwo
      clear hwo
      go_wp2_with fail
      all_goals go_roundw
      case rel => exact ⟨k + 1, _, by omega, by go_num, by simp; omega, hWo.out.symm⟩
      case measure => simp [intOf]; omega
    · have hkn := Lib.hid (show k = n by omega)
      go_wp2
      go_ret
      exact ⟨_, by rw [hkn.out]; rfl, rfl⟩
end Go.Proofs.Ytpolhjkjgbfdhaa
