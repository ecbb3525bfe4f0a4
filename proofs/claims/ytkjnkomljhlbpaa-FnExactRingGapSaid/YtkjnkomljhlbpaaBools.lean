/- Lists of bool: a word for them, and contracts of the law's own functions on them: compared, marked, and looked at again. -/
import Derived.Test.YtkjnkomljhlbpaaInts
import Derived.IntWalk
namespace Go.Lst
open Go.RowKit
/-- The slice v holds the truths xs. -/
def LstB (B : Nat) (w : World) (v : Value) (xs : List Bool) : Prop := LstK 1 B w v xs.length (xs.map Value.bool)
theorem Own.lstB {A B B' e : Nat} {w : World} {v : Value} {xs : List Bool} (h : Own A B w v e 1 xs.length (xs.map Value.bool)) (hB : B ≤ B') : LstB B' w v xs := h.lstK hB
theorem LstB.lst {B : Nat} {w : World} {v : Value} {xs : List Bool} (h : LstB B w v xs) : Lst B w v (xs.map Value.bool) := LstK.lst h
end Go.Lst
namespace Go.Proofs.Ytkjnkomljhlbpaa
open Go.RowKit Go.Lst

def markB (z : Int) : Value := .bool (z % 3 == 0)
set_option maxHeartbeats 1000000 in
theorem eqBoolS_yes (B : Nat) (v1 v2 : Value) (xs : List Bool) (w : World) (h1 : LstB B w v1 xs) (h2 : LstB B w v2 xs) :
    Calls Try.prog 12 #[v1, v2] w (Ret (.bool true) w) := by
  obtain ⟨a1, cap1, rfl, hl1, hc1⟩ := h1.lst
  obtain ⟨a2, cap2, rfl, hl2, hc2⟩ := h2.lst
  rw [List.length_map] at hl1 ⊢
  have hne1 : 0 < xs.length → xs.map Value.bool ≠ [] := fun h h0 => by simp at h0; rw [h0] at h; simp at h
  have hX : Hid (∀ k, k < xs.length → ∃ b1 o1 b2 o2 x, a1 = some ⟨b1, o1, none⟩ ∧ a2 = some ⟨b2, o2, none⟩ ∧ w.cell? ⟨b1, o1 + k, none⟩ = some (.bool x) ∧ w.cell? ⟨b2, o2 + k, none⟩ = some (.bool x)) := Lib.hid fun k hk => by
    obtain ⟨b1, o1, ha1, _, hb1⟩ := hc1 (hne1 (by omega))
    obtain ⟨b2, o2, ha2, _, hb2⟩ := hc2 (hne1 (by omega))
    have e1 : xs[k]? = some xs[k] := List.getElem?_eq_getElem _
    exact ⟨b1, o1, b2, o2, xs[k], ha1, ha2, hb1 k _ (by rw [List.getElem?_map, e1]; rfl), hb2 k _ (by rw [List.getElem?_map, e1]; rfl)⟩
  clear hc1 hc2 hne1 hl2
  generalize xs.length = n at *
  unfold maxLen at hl1
  go_enter Try.func12, Try.ntmps12
  go_wp2
  go_loopw [5] (fun i wr => ∃ k m : Nat, k ≤ n ∧ i = .int .i64 k ∧ wr = w.drewN m) (fun i _ => n - (intOf i).toNat)
  case atStart => exact ⟨0, 0, Nat.zero_le _, rfl, rfl⟩
  case round =>
    obtain ⟨k, m, hk, rfl, rfl⟩ := hrel
    by_cases hlt : k < n
    · obtain ⟨b1, o1, b2, o2, x, rfl, rfl, hcell1, hcell2⟩ := hX.out k hlt
      rw [← World.cell?_drewN (n := m)] at hcell1 hcell2
      generalize hwo : w.drewN m = wo at *
      have hWo := Lib.hid hwo
      clear hwo
      go_wp2_with fail
      go_quiet (fail)
      go_wp2
      go_roundw
      case rel => exact ⟨k + 1, _, by omega, by go_num, by rw [← hWo.out, World.drewN_drewN]⟩
      case measure => simp [intOf]; omega
    · go_wp2
      go_ret
      exact Ret.later _ _ _
end Go.Proofs.Ytkjnkomljhlbpaa
