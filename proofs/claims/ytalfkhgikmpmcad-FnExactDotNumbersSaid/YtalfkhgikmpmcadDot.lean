/- Contracts of the sums of products of two lists of float32, for every two lists: from left to right, each product rounded on its own. -/
import Derived.Test.YtalfkhgikmpmcadSum
import Derived.RegionTactic
namespace Go.Proofs.Ytalfkhgikmpmcad
open Go.RowKit Go.Lst FloatKit

def dotF : List Nat → List Nat → Nat → Nat
  | x :: xs, y :: ys, s => dotF xs ys (fop .add .f32 s (fop .mul .f32 x y))
  | _, _, s => s

theorem dotF_snoc : ∀ (xs ys : List Nat) (k x y s : Nat), xs[k]? = some x → ys[k]? = some y → dotF (xs.take (k + 1)) (ys.take (k + 1)) s = fop .add .f32 (dotF (xs.take k) (ys.take k) s) (fop .mul .f32 x y)
  | [], _, _, _, _, _, h, _ => by simp at h
  | _ :: _, [], _, _, _, _, _, h => by simp at h
  | a :: xs, b :: ys, 0, x, y, s, h1, h2 => by
    simp at h1 h2
    subst h1; subst h2
    simp [dotF]
  | a :: xs, b :: ys, k + 1, x, y, s, h1, h2 => by
    simp only [List.getElem?_cons_succ] at h1 h2
    simp only [List.take_succ_cons, dotF]
    exact dotF_snoc xs ys k x y _ h1 h2

set_option maxHeartbeats 1000000 in
theorem l01Dot_any (B : Nat) (v1 v2 : Value) (xs ys : List Nat) (w : World) (h1 : Lst B w v1 (xs.map (Value.float .f32))) (h2 : Lst B w v2 (ys.map (Value.float .f32))) (hlen : xs.length = ys.length) :
    Calls Try.prog 41 #[v1, v2] w (RetF (dotF xs ys 0) w) := by
  obtain ⟨a1, cap1, rfl, hl1, hc1⟩ := h1
  obtain ⟨a2, cap2, rfl, hl2, hc2⟩ := h2
  rw [List.length_map] at hl1 hl2 ⊢
  rw [List.length_map]
  rw [← hlen]
  have hne1 : 0 < xs.length → xs.map (Value.float .f32) ≠ [] := fun h h0 => by simp at h0; rw [h0] at h; simp at h
  have hne2 : 0 < xs.length → ys.map (Value.float .f32) ≠ [] := fun h h0 => by simp at h0; rw [hlen, h0] at h; simp at h
  have hX : Hid (∀ k, k < xs.length → ∃ b1 o1 b2 o2 x y, a1 = some ⟨b1, o1, none⟩ ∧ a2 = some ⟨b2, o2, none⟩ ∧ w.cell? ⟨b1, o1 + k, none⟩ = some (.float .f32 x) ∧ w.cell? ⟨b2, o2 + k, none⟩ = some (.float .f32 y) ∧ xs[k]? = some x ∧ ys[k]? = some y) := Lib.hid fun k hk => by
    obtain ⟨b1, o1, ha1, _, hb1⟩ := hc1 (hne1 (by omega))
    obtain ⟨b2, o2, ha2, _, hb2⟩ := hc2 (hne2 (by omega))
    have e1 : xs[k]? = some xs[k] := List.getElem?_eq_getElem _
    have e2 : ys[k]? = some (ys[k]'(by omega)) := List.getElem?_eq_getElem _
    exact ⟨b1, o1, b2, o2, xs[k], ys[k]'(by omega), ha1, ha2, hb1 k _ (by rw [List.getElem?_map, e1]; rfl), hb2 k _ (by rw [List.getElem?_map, e2]; rfl), e1, e2⟩
  have hAll : Hid (xs.take xs.length = xs ∧ ys.take xs.length = ys) := Lib.hid ⟨List.take_length .., by rw [hlen]; exact List.take_length ..⟩
  clear hc1 hc2 hne1 hne2 hlen hl2
  generalize xs.length = n at *
  unfold maxLen at hl1
  go_enter Try.func41, Try.ntmps41
  go_wp2
  go_loopw [5, 6] (fun t i wr => ∃ k m r : Nat, k ≤ n ∧ i = .int .i64 k ∧ t = .float .f32 r ∧ Hid (Eqv Ieee.single r (dotF (xs.take k) (ys.take k) 0)) ∧ wr = w.drewN m) (fun _ i _ => n - (intOf i).toNat)
  case atStart => exact ⟨0, 0, 0, Nat.zero_le _, rfl, rfl, .inl (by simp [dotF]), rfl⟩
  case round =>
    obtain ⟨k, m, r, hk, rfl, rfl, hE, rfl⟩ := hrel
    by_cases hlt : k < n
    · obtain ⟨b1, o1, b2, o2, x, y, rfl, rfl, hcell1, hcell2, hx, hy⟩ := hX.out k hlt
      have hS := Lib.hid (dotF_snoc xs ys k x y 0 hx hy)
      have hid32 := run_same (P := Try.prog) 22 .f32 Try.underlying22
      clear hx hy
      rw [← World.cell?_drewN (n := m)] at hcell1 hcell2
      generalize hwo : w.drewN m = wo at *
      have hWo := Lib.hid hwo
      clear hwo
      cases hm : floatBits .mul .f32 x y with
      | some p =>
        have hcm := run_fop_some (P := Try.prog) 22 .f32 x y p hm
        have hp := Lib.hid (fop_some hm)
        clear hm
        cases ha : floatBits .add .f32 r p with
        | some q =>
          have hca := run_fop_some (P := Try.prog) 22 .f32 r p q ha
          have hE2 : Hid (Eqv Ieee.single q (dotF (xs.take (k + 1)) (ys.take (k + 1)) 0)) := by
            show Eqv _ _ _
            rw [hS.out, hp.out, ← fop_eqv .add .f32 hE.out (Eqv.refl _ p), fop_some ha]; exact Eqv.refl _ _
          clear ha hE
          go_wp2_with fail
          go_quiet (fail)
          clear hcm hca
          go_wp2
          go_roundw
          case rel => exact ⟨k + 1, _, q, by omega, by go_num, rfl, hE2, by rw [← hWo.out, World.drewN_drewN]⟩
          case measure => simp [intOf]; omega
        | none =>
          have hca := run_fop_none (P := Try.prog) (op := .add) rfl 22 .f32 r p ha
          have hE2 : Hid (∀ W, Eqv Ieee.single (nanOp .f32 r p W) (dotF (xs.take (k + 1)) (ys.take (k + 1)) 0)) := by
            intro W
            rw [hS.out, hp.out, ← fop_eqv .add .f32 hE.out (Eqv.refl _ p)]; exact .inr ⟨nanOp_nan .f32 r p W, fop_none ha⟩
          clear ha hE
          go_wp2_with fail
          go_region
          all_goals clear hcm hca
          all_goals go_wp2
          all_goals go_roundw
          all_goals first | exact ⟨k + 1, _, _, by omega, by go_num, rfl, hE2.out _, by rw [← hWo.out]; simp only [World.drewN_drewN]; rfl⟩ | (simp [intOf]; omega)
      | none =>
        have hcm := run_fop_none (P := Try.prog) (op := .mul) rfl 22 .f32 x y hm
        have hca : ∀ W W', (binOp .add 22 (.float .f32 r) (.float .f32 (nanOp .f32 x y W))).run Try.prog W' = .ok (.float .f32 (nanOp .f32 r (nanOp .f32 x y W) W')) (W'.drewN 1) :=
          fun W W' => run_fop_none (P := Try.prog) (op := .add) rfl 22 .f32 r _ (floatBits_nan_right _ _ _ _ (nanOp_nan .f32 x y W)) W'
        have hE2 : Hid (∀ W W', Eqv Ieee.single (nanOp .f32 r (nanOp .f32 x y W) W') (dotF (xs.take (k + 1)) (ys.take (k + 1)) 0)) := by
          intro W W'
          rw [hS.out]
          refine .inr ⟨nanOp_nan .f32 _ _ _, ?_⟩
          exact fop_none (floatBits_nan_right _ _ _ _ (fop_none hm))
        clear hm hE
        go_wp2_with fail
        go_region
        all_goals clear hcm hca
        all_goals go_wp2
        all_goals go_roundw
        all_goals first | exact ⟨k + 1, _, _, by omega, by go_num, rfl, hE2.out _ _, by rw [← hWo.out]; simp only [World.drewN_drewN]; rfl⟩ | (simp [intOf]; omega)
    · have hkn : k = n := by omega
      have hE3 : Hid (Eqv Ieee.single r (dotF xs ys 0)) := by
        have := hE.out
        rw [hkn, hAll.out.1, hAll.out.2] at this
        exact this
      clear hkn hE
      go_wp2
      go_ret
      exact ⟨_, _, rfl, hE3.out, rfl⟩
set_option maxHeartbeats 1000000 in
theorem dotNumbers_any (B : Nat) (v1 v2 : Value) (xs ys : List Nat) (w : World) (h1 : Lst B w v1 (xs.map (Value.float .f32))) (h2 : Lst B w v2 (ys.map (Value.float .f32))) (hlen : xs.length = ys.length) (h256 : xs.length ≤ 256) :
    Calls Try.prog 22 #[v1, v2] w (RetF2 (dotF xs ys 0) true w) := by
  obtain ⟨a1, cap1, rfl, hl1, hc1⟩ := h1
  obtain ⟨a2, cap2, rfl, hl2, hc2⟩ := h2
  rw [List.length_map] at hl1 hl2 ⊢
  rw [List.length_map]
  rw [← hlen]
  have hne1 : 0 < xs.length → xs.map (Value.float .f32) ≠ [] := fun h h0 => by simp at h0; rw [h0] at h; simp at h
  have hne2 : 0 < xs.length → ys.map (Value.float .f32) ≠ [] := fun h h0 => by simp at h0; rw [hlen, h0] at h; simp at h
  have hX : Hid (∀ k, k < xs.length → ∃ b1 o1 b2 o2 x y, a1 = some ⟨b1, o1, none⟩ ∧ a2 = some ⟨b2, o2, none⟩ ∧ w.cell? ⟨b1, o1 + k, none⟩ = some (.float .f32 x) ∧ w.cell? ⟨b2, o2 + k, none⟩ = some (.float .f32 y) ∧ xs[k]? = some x ∧ ys[k]? = some y) := Lib.hid fun k hk => by
    obtain ⟨b1, o1, ha1, _, hb1⟩ := hc1 (hne1 (by omega))
    obtain ⟨b2, o2, ha2, _, hb2⟩ := hc2 (hne2 (by omega))
    have e1 : xs[k]? = some xs[k] := List.getElem?_eq_getElem _
    have e2 : ys[k]? = some (ys[k]'(by omega)) := List.getElem?_eq_getElem _
    exact ⟨b1, o1, b2, o2, xs[k], ys[k]'(by omega), ha1, ha2, hb1 k _ (by rw [List.getElem?_map, e1]; rfl), hb2 k _ (by rw [List.getElem?_map, e2]; rfl), e1, e2⟩
  have hAll : Hid (xs.take xs.length = xs ∧ ys.take xs.length = ys) := Lib.hid ⟨List.take_length .., by rw [hlen]; exact List.take_length ..⟩
  clear hc1 hc2 hne1 hne2 hlen hl2
  generalize xs.length = n at *
  unfold maxLen at hl1
  go_enter Try.func22, Try.ntmps22
  go_wp2
  go_loopw [6, 21] (fun t i wr => ∃ k m r : Nat, k ≤ n ∧ i = .int .i64 k ∧ t = .float .f32 r ∧ Hid (Eqv Ieee.single r (dotF (xs.take k) (ys.take k) 0)) ∧ wr = w.drewN m) (fun _ i _ => n - (intOf i).toNat)
  case atStart => exact ⟨0, 0, 0, Nat.zero_le _, rfl, rfl, .inl (by simp [dotF]), rfl⟩
  case round =>
    obtain ⟨k, m, r, hk, rfl, rfl, hE, rfl⟩ := hrel
    by_cases hlt : k < n
    · obtain ⟨b1, o1, b2, o2, x, y, rfl, rfl, hcell1, hcell2, hx, hy⟩ := hX.out k hlt
      have hS := Lib.hid (dotF_snoc xs ys k x y 0 hx hy)
      have hid32 := run_same (P := Try.prog) 22 .f32 Try.underlying22
      clear hx hy
      go_wp2_with (refine wpList_farith rfl _ _ _ _ _ rfl _ _ _ rfl rfl (by rfl) ?_; intro r2 j hr hlt2; have hE2 := Lib.hid hr; clear hr hlt2)
      go_roundw
      case rel => exact ⟨k + 1, _, r2, by omega, by go_num, rfl, by (show Eqv _ _ _; rw [hS.out]; exact hE2.out.trans (.inl (fop_eqv .add .f32 hE.out (Hid.out ‹Hid (Eqv FloatKind.f32.format _ (fop .mul .f32 x y))›)))), rfl⟩
      case measure => simp [intOf]; omega
    · have hkn : k = n := by omega
      have hE3 : Hid (Eqv Ieee.single r (dotF xs ys 0)) := by
        have := hE.out
        rw [hkn, hAll.out.1, hAll.out.2] at this
        exact this
      clear hkn hE
      go_wp2
      go_ret2
      exact ⟨_, _, rfl, hE3.out, rfl⟩

set_option maxHeartbeats 400000 in
theorem l01Dot_yes (B : Nat) (v1 v2 : Value) (xs ys : List Nat) (w : World) (h1 : Lst B w v1 (xs.map (Value.float .f32))) (h2 : Lst B w v2 (ys.map (Value.float .f32))) (hlen : xs.length = ys.length) (h256 : xs.length ≤ 256) :
    Calls Try.prog 21 #[v1, v2] w (RetF2 (dotF xs ys 0) true w) := by
  have hC := Lib.hid (l01Dot_any B v1 v2 xs ys w h1 h2 hlen)
  obtain ⟨a1, cap1, rfl, hl1, _⟩ := h1
  obtain ⟨a2, cap2, rfl, hl2, _⟩ := h2
  rw [List.length_map] at hl1 hl2 hC ⊢
  rw [List.length_map] at hC ⊢
  rw [← hlen] at hC ⊢
  have hF := Lib.hid (l01Few_yes a1 xs.length cap1 w h256)
  clear hlen hl2
  generalize dotF xs ys 0 = F at *
  generalize xs.length = n at *
  unfold maxLen at hl1
  clear h256
  go_enter Try.func21, Try.ntmps21
  go_wp2_with (first | (go_at_call 39; refine (hF.out).mono ?_; rintro e w' ⟨rfl, rfl⟩) | (go_at_call 41; refine (hC.out).mono ?_; rintro e w' ⟨r, m, rfl, hE, rfl⟩; have hH := Lib.hid hE; clear hE))
  go_ret2
  exact ⟨_, _, rfl, hH.out, rfl⟩

set_option maxHeartbeats 400000 in
theorem l01Dot_no (a1 a2 : Option Addr) (n1 n2 cap1 cap2 : Nat) (w : World) (h : 256 < n1 ∨ n1 ≠ n2) (hl1 : n1 ≤ maxLen) (_ : n2 ≤ maxLen) :
    Calls Try.prog 21 #[.slice a1 n1 cap1, .slice a2 n2 cap2] w (RetF2 0 false w) := by
  by_cases h256 : 256 < n1
  · have hF := Lib.hid (l01Few_no a1 n1 cap1 w h256 hl1)
    unfold maxLen at hl1
    clear h h256
    go_enter Try.func21, Try.ntmps21
    go_wp2_with (go_at_call 39; refine (hF.out).mono ?_; rintro e w' ⟨rfl, rfl⟩)
    go_ret2
    exact ⟨_, 0, rfl, Eqv.refl _ _, rfl⟩
  · have hne : ((n1 : Int) != (n2 : Int)) = true := by rw [bne_iff_ne]; omega
    have hne2 : (n1 != n2) = true := by rw [bne_iff_ne]; omega
    have hF := Lib.hid (l01Few_yes a1 n1 cap1 w (by omega))
    unfold maxLen at hl1
    clear h h256
    go_enter Try.func21, Try.ntmps21
    go_wp2_with (go_at_call 39; refine (hF.out).mono ?_; rintro e w' ⟨rfl, rfl⟩)
    go_ret2
    exact ⟨_, 0, rfl, Eqv.refl _ _, rfl⟩

set_option maxHeartbeats 400000 in
theorem dotNumbers_no (a1 a2 : Option Addr) (n1 n2 cap1 cap2 : Nat) (w : World) (h : 256 < n1 ∨ n1 ≠ n2) (hl1 : n1 ≤ maxLen) (hl2 : n2 ≤ maxLen) :
    Calls Try.prog 22 #[.slice a1 n1 cap1, .slice a2 n2 cap2] w (RetF2 0 false w) := by
  unfold maxLen at hl1 hl2
  by_cases hne0 : n1 = n2
  · subst hne0
    have h256 : 256 < n1 := by omega
    clear h
    go_enter Try.func22, Try.ntmps22
    go_wp2
    go_ret2
    exact ⟨_, 0, rfl, Eqv.refl _ _, rfl⟩
  · have hne : ((n1 : Int) != (n2 : Int)) = true := by rw [bne_iff_ne]; omega
    have hne2 : (n1 != n2) = true := by rw [bne_iff_ne]; omega
    clear h hne0
    go_enter Try.func22, Try.ntmps22
    go_wp2
    go_ret2
    exact ⟨_, 0, rfl, Eqv.refl _ _, rfl⟩

/-- What DotNumbers returns. -/
def dotOf (xs ys : List Nat) : Nat × Bool := if xs.length = ys.length ∧ xs.length ≤ 256 then (dotF xs ys 0, true) else (0, false)

theorem dotNumbers_all (B : Nat) (v1 v2 : Value) (xs ys : List Nat) (w : World) (h1 : Lst B w v1 (xs.map (Value.float .f32))) (h2 : Lst B w v2 (ys.map (Value.float .f32))) :
    Calls Try.prog 22 #[v1, v2] w (RetF2 (dotOf xs ys).1 (dotOf xs ys).2 w) ∧ Calls Try.prog 21 #[v1, v2] w (RetF2 (dotOf xs ys).1 (dotOf xs ys).2 w) := by
  by_cases h : xs.length = ys.length ∧ xs.length ≤ 256
  · rw [show dotOf xs ys = _ from if_pos h]
    exact ⟨dotNumbers_any B v1 v2 xs ys w h1 h2 h.1 h.2, l01Dot_yes B v1 v2 xs ys w h1 h2 h.1 h.2⟩
  · rw [show dotOf xs ys = _ from if_neg h]
    obtain ⟨a1, cap1, rfl, hl1, _⟩ := h1
    obtain ⟨a2, cap2, rfl, hl2, _⟩ := h2
    rw [List.length_map] at hl1 hl2 ⊢
    rw [List.length_map]
    exact ⟨dotNumbers_no a1 a2 _ _ cap1 cap2 w (by omega) hl1 hl2, l01Dot_no a1 a2 _ _ cap1 cap2 w (by omega) hl1 hl2⟩
end Go.Proofs.Ytalfkhgikmpmcad
