/- Contract of the law's own comparison of two lists of float32: lists that hold the same numbers, up to which not-a-number it is, are called equal. -/
import Derived.Test.YtfidppepchobeaaDoorCopyF
import Derived.Deep.QuietTactic
import Derived.BigQuiet
import Derived.Deep.RegionWith
namespace Go.Proofs.YtfidppepchobeaaDoor
open Go.RowKit Go.Lst FloatKit

theorem drewN_mk (w : World) (n : Nat) : ∃ m, w.drewN n = w.drewN m := ⟨n, rfl⟩

set_option maxHeartbeats 1000000 in
theorem eqFloat32S_yes (B : Nat) (v1 v2 : Value) (xs ys : List Nat) (w : World) (h1 : Lst B w v1 (xs.map (Value.float .f32))) (h2 : Lst B w v2 (ys.map (Value.float .f32)))
    (hlen : xs.length = ys.length) (he : ∀ (i x y : Nat), xs[i]? = some x → ys[i]? = some y → Eqv Ieee.single x y) :
    Calls Tryd.prog 8 #[v1, v2] w (Ret (.bool true) w) := by
  obtain ⟨a1, cap1, rfl, hl1, hc1⟩ := h1
  obtain ⟨a2, cap2, rfl, hl2, hc2⟩ := h2
  rw [List.length_map] at hl1 hl2 ⊢
  rw [List.length_map]
  rw [← hlen]
  have hne1 : 0 < xs.length → xs.map (Value.float .f32) ≠ [] := fun h h0 => by simp at h0; rw [h0] at h; simp at h
  have hne2 : 0 < xs.length → ys.map (Value.float .f32) ≠ [] := fun h h0 => by simp at h0; rw [hlen, h0] at h; simp at h
  have hX : Hid (∀ k, k < xs.length → ∃ b1 o1 b2 o2 x y, a1 = some ⟨b1, o1, none⟩ ∧ a2 = some ⟨b2, o2, none⟩ ∧ w.cell? ⟨b1, o1 + k, none⟩ = some (.float .f32 x) ∧ w.cell? ⟨b2, o2 + k, none⟩ = some (.float .f32 y) ∧ Eqv Ieee.single x y) := Lib.hid fun k hk => by
    obtain ⟨b1, o1, ha1, _, hb1⟩ := hc1 (hne1 (by omega))
    obtain ⟨b2, o2, ha2, _, hb2⟩ := hc2 (hne2 (by omega))
    have e1 : xs[k]? = some xs[k] := List.getElem?_eq_getElem _
    have e2 : ys[k]? = some (ys[k]'(by omega)) := List.getElem?_eq_getElem _
    exact ⟨b1, o1, b2, o2, xs[k], ys[k]'(by omega), ha1, ha2, hb1 k _ (by rw [List.getElem?_map, e1]; rfl), hb2 k _ (by rw [List.getElem?_map, e2]; rfl), he k _ _ e1 e2⟩
  clear hc1 hc2 hne1 hne2 he hlen hl2
  generalize xs.length = n at *
  unfold maxLen at hl1
  go_enter Tryd.func8, Tryd.ntmps8
  go_wp2
  go_loopw [5] (fun i wr => ∃ k m : Nat, k ≤ n ∧ i = .int .i64 k ∧ wr = w.drewN m) (fun i _ => n - (intOf i).toNat)
  case atStart => exact ⟨0, 0, Nat.zero_le _, rfl, rfl⟩
  case round =>
    obtain ⟨k, m, hk, rfl, rfl⟩ := hrel
    by_cases hlt : k < n
    · obtain ⟨b1, o1, b2, o2, x, y, rfl, rfl, hcell1, hcell2, hxy⟩ := hX.out k hlt
      rw [← World.cell?_drewN (n := m)] at hcell1 hcell2
      generalize hwo : w.drewN m = wo at *
      have hWo := Lib.hid hwo
      clear hwo
      cases hn : isNaN Ieee.single y
      · obtain rfl := hxy.eq hn
        have hcv := run_widen_num (P := Tryd.prog) 33 37 u32_some Tryd.underlying37 x hn
        clear hxy hn
        go_wp2_with fail
        go_quiet ((go_at_call 17; exact Ret.quiet (sameFloat_eqv _ _ (Eqv.refl _ _) _)))
        go_wp2
        go_roundw
        case rel => exact ⟨k + 1, _, by omega, by go_num, by rw [← hWo.out, World.drewN_drewN]⟩
        case measure => simp [intOf]; omega
      · have hcx := run_widen_nan (P := Tryd.prog) 33 37 u32_some Tryd.underlying37 x (by rw [hxy.nan, hn])
        have hcy := run_widen_nan (P := Tryd.prog) 33 37 u32_some Tryd.underlying37 y hn
        clear hxy hn
        go_wp2_with fail
        go_region_with (go_at_call 17; refine (sameFloat_eqv _ _ (.inr ⟨nanAt_nan _ _, nanAt_nan _ _⟩) _).mono ?_; rintro e w' ⟨q, rfl, rfl⟩)
        all_goals clear hcx hcy
        all_goals go_wp2
        all_goals go_roundw
        all_goals first | exact ⟨k + 1, _, by omega, by go_num, by rw [← hWo.out]; simp only [World.drewN_drewN]; rfl⟩ | (simp [intOf]; omega)
    · go_wp2
      go_ret
      exact Ret.later _ _ _
theorem lst_step {w w' : World} {v : Value} {cs : List Value} (h : Lst w.heap.size w v cs) (hb : Below w.heap.size w w') : Lst w'.heap.size w' v cs := (h.below hb (Nat.le_refl _)).mono hb.size
theorem below_drewN (w : World) (n : Nat) : Below w.heap.size w (w.drewN n) := Lst.Below.drewN (Below.refl _ _) n
theorem below_on {B : Nat} {w w' w'' : World} (h : Below B w w') (hB : B ≤ w.heap.size) (hb : Below w'.heap.size w' w'') : Below B w w'' := h.trans (hb.mono (Nat.le_trans hB h.size))

/-- What is known of a copy: the world below is as it was, and the slice holds the cells. -/
def Copied (B : Nat) (cs : List Value) (w : World) (v' : Value) (w' : World) : Prop := Below w.heap.size w w' ∧ Lst w'.heap.size w' v' cs ∧ B ≤ w'.heap.size

theorem copied (B : Nat) (v : Value) (xs : List Nat) (w : World) (h : Lst B w v (xs.map (Value.float .f32))) (hB : B ≤ w.heap.size) (hlen : xs.length ≤ 1048576) :
    Calls Tryd.prog 6 #[v] w fun e w' => ∃ v', e = .returned v' ∧ Copied B (xs.map (Value.float .f32)) w v' w' :=
  (toFloat32S_any B v xs w h hB hlen).mono fun _ w' ⟨v', he, ho, hb, hs⟩ => ⟨v', he, hb, Lst.own ho (by unfold maxLen; omega), by omega⟩

end Go.Proofs.YtfidppepchobeaaDoor
