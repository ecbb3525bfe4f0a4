/- Contracts of the sums of lists of float32, for every list: from left to right, up to which not-a-number it is. -/
import Derived.Test.YthliapjnfcahlabEqF
namespace Go.Proofs.Ythliapjnfcahlab
open Go.RowKit Go.Lst FloatKit

/-- The call returns a number that is this one, or a not-a-number as this one is. -/
def RetF (F : Nat) (w : World) (e : Ending) (w' : World) : Prop := ∃ r n, e = .returned (.float .f32 r) ∧ Eqv Ieee.single r F ∧ w' = w.drewN n
def RetF2 (F : Nat) (ok : Bool) (w : World) (e : Ending) (w' : World) : Prop := ∃ r n, e = .returned (.tuple #[.float .f32 r, .bool ok]) ∧ Eqv Ieee.single r F ∧ w' = w.drewN n

def sumF (xs : List Nat) : Nat := xs.foldl (fun s x => fop .add .f32 s x) 0

theorem sumF_snoc (xs : List Nat) (k x : Nat) (h : xs[k]? = some x) : sumF (xs.take (k + 1)) = fop .add .f32 (sumF (xs.take k)) x := by
  unfold sumF
  rw [List.take_add_one, h, List.foldl_append]
  rfl

set_option maxHeartbeats 1000000 in
theorem sumNumbers_any (B : Nat) (v : Value) (xs : List Nat) (w : World) (h : Lst B w v (xs.map (Value.float .f32))) (h256 : xs.length ≤ 256) :
    Calls Try.prog 56 #[v] w (RetF2 (sumF xs) true w) := by
  obtain ⟨a, cap, rfl, hl, hc⟩ := h
  rw [List.length_map] at hl ⊢
  have hX : Hid (∀ k, k < xs.length → ∃ b o x, a = some ⟨b, o, none⟩ ∧ w.cell? ⟨b, o + k, none⟩ = some (.float .f32 x) ∧ xs[k]? = some x) := Lib.hid fun k hk => by
    obtain ⟨b, o, ha, _, hb⟩ := hc (by intro h0; simp at h0; rw [h0] at hk; simp at hk)
    have e1 : xs[k]? = some xs[k] := List.getElem?_eq_getElem _
    exact ⟨b, o, xs[k], ha, hb k _ (by rw [List.getElem?_map, e1]; rfl), e1⟩
  have hAll : Hid (xs.take xs.length = xs) := Lib.hid (List.take_length ..)
  clear hc
  generalize xs.length = n at *
  unfold maxLen at hl
  go_enter Try.func56, Try.ntmps56
  go_wp2
  go_loopw [4, 12] (fun t i wr => ∃ k m r : Nat, k ≤ n ∧ i = .int .i64 k ∧ t = .float .f32 r ∧ Hid (Eqv Ieee.single r (sumF (xs.take k))) ∧ wr = w.drewN m) (fun _ i _ => n - (intOf i).toNat)
  case atStart => exact ⟨0, 0, 0, Nat.zero_le _, rfl, rfl, .inl rfl, rfl⟩
  case round =>
    obtain ⟨k, m, r, hk, rfl, rfl, hE, rfl⟩ := hrel
    by_cases hlt : k < n
    · obtain ⟨b, o, x, rfl, hcell, hx⟩ := hX.out k hlt
      have hS := Lib.hid (sumF_snoc xs k x hx)
      clear hx
      go_wp2_with (refine wpList_farith rfl _ _ _ _ _ rfl _ _ _ rfl rfl (by rfl) ?_; intro r2 j hr hlt2; have hE2 := Lib.hid (hr.trans (.inl (fop_eqv .add .f32 hE.out (Eqv.refl _ x)))); clear hr hlt2)
      go_roundw
      case rel => exact ⟨k + 1, _, r2, by omega, by go_num, rfl, by show Eqv _ _ _; rw [hS.out]; exact hE2.out, rfl⟩
      case measure => simp [intOf]; omega
    · have hkn : k = n := by omega
      have hE3 : Hid (Eqv Ieee.single r (sumF xs)) := by
        have := hE.out
        rw [hkn, hAll.out] at this
        exact this
      clear hkn
      go_wp2
      go_ret2
      exact ⟨_, _, rfl, hE3.out, rfl⟩

end Go.Proofs.Ythliapjnfcahlab
