/- Contracts of the law's own functions on lists of complex64: compared, marked, and looked at again. -/
import Derived.Test.YtjpmliigepegaaaDoorEqF
import Derived.Test.YtjpmliigepegaaaDoorListF
import Derived.Test.YtjpmliigepegaaaDoorCplx
namespace Go.Proofs.YtjpmliigepegaaaDoor
open Go.RowKit Go.Lst FloatKit Go

theorem wid_all (a b : Nat) (src : TypeId) (hs : (Tryd.prog.underlying src).isSome = true) : ∃ (R I : World → Nat) (N : World → Nat), ∀ w, (convert src 32 (.complex .f32 a b)).run Tryd.prog w = .ok (.complex .f64 (R w) (I w)) (w.drewN (N w)) ∧ Wid a (R w) ∧ Wid b (I w) := by
  refine ⟨fun w => (run_widenC (P := Tryd.prog) src 32 hs Tryd.underlying32 a b w).choose, fun w => (run_widenC (P := Tryd.prog) src 32 hs Tryd.underlying32 a b w).choose_spec.choose, fun w => (run_widenC (P := Tryd.prog) src 32 hs Tryd.underlying32 a b w).choose_spec.choose_spec.choose, fun w => ?_⟩
  exact (run_widenC (P := Tryd.prog) src 32 hs Tryd.underlying32 a b w).choose_spec.choose_spec.choose_spec
def cvV (p : Nat × Nat) : Value := .complex .f32 p.1 p.2
set_option maxHeartbeats 2000000 in
theorem eqC_yes (B : Nat) (v1 v2 : Value) (xs : List (Nat × Nat)) (w : World) (h1 : Lst B w v1 (xs.map cvV)) (h2 : Lst B w v2 (xs.map cvV)) :
    Calls Tryd.prog 6 #[v1, v2] w (Ret (.bool true) w) := by
  obtain ⟨a1, cap1, rfl, hl1, hc1⟩ := h1
  obtain ⟨a2, cap2, rfl, hl2, hc2⟩ := h2
  rw [List.length_map] at hl1 hl2 ⊢
  have hne : 0 < xs.length → xs.map cvV ≠ [] := fun h h0 => by simp at h0; rw [h0] at h; simp at h
  have hX : Hid (∀ k, k < xs.length → ∃ b1 o1 b2 o2 x y, a1 = some ⟨b1, o1, none⟩ ∧ a2 = some ⟨b2, o2, none⟩ ∧ w.cell? ⟨b1, o1 + k, none⟩ = some (.complex .f32 x y) ∧ w.cell? ⟨b2, o2 + k, none⟩ = some (.complex .f32 x y)) := Lib.hid fun k hk => by
    obtain ⟨b1, o1, ha1, _, hb1⟩ := hc1 (hne (by omega))
    obtain ⟨b2, o2, ha2, _, hb2⟩ := hc2 (hne (by omega))
    have e1 : xs[k]? = some xs[k] := List.getElem?_eq_getElem _
    exact ⟨b1, o1, b2, o2, xs[k].1, xs[k].2, ha1, ha2, hb1 k _ (by rw [List.getElem?_map, e1]; rfl), hb2 k _ (by rw [List.getElem?_map, e1]; rfl)⟩
  clear hc1 hc2 hne hl2
  generalize xs.length = n at *
  unfold maxLen at hl1
  go_enter Tryd.func6, Tryd.ntmps6
  go_wp2
  go_loopw [5] (fun i wr => ∃ k m : Nat, k ≤ n ∧ i = .int .i64 k ∧ wr = w.drewN m) (fun i _ => n - (intOf i).toNat)
  case atStart => exact ⟨0, 0, Nat.zero_le _, rfl, rfl⟩
  case round =>
    obtain ⟨k, m, hk, rfl, rfl⟩ := hrel
    by_cases hlt : k < n
    · obtain ⟨b1, o1, b2, o2, x, y, rfl, rfl, hcell1, hcell2⟩ := hX.out k hlt
      rw [← World.cell?_drewN (n := m)] at hcell1 hcell2
      generalize hwo : w.drewN m = wo at *
      have hWo := Lib.hid hwo
      clear hwo
      obtain ⟨R, I, N, hw0⟩ := wid_all x y 29 c64_some
      have hcx := fun w => (hw0 w).1
      have hWd := Lib.hid (fun w => (hw0 w).2)
      clear hw0
      go_wp2_with fail
      go_region_with (go_at_call 12; refine (sameComplex_eqv _ _ _ _ (Wid.eqv (hWd.out _).1 (hWd.out _).1 (Eqv.refl _ _)) (Wid.eqv (hWd.out _).2 (hWd.out _).2 (Eqv.refl _ _)) _).mono ?_; rintro e w' ⟨q, rfl, rfl⟩)
      all_goals clear hcx
      all_goals go_wp2
      all_goals go_roundw
      all_goals first | exact ⟨k + 1, _, by omega, by go_num, by rw [← hWo.out]; simp only [World.drewN_drewN]; rfl⟩ | (simp [intOf]; omega)
    · go_wp2
      go_ret
      exact Ret.later _ _ _
def markC (z : Int) : Value := .complex .f32 (floatOfInt .f32 z) 1065353216
theorem conv_small : ∀ z : Nat, z < 300 → floatToFloatBits .f64 (floatOfInt .f64 (z : Int)) .f32 = some (floatOfInt .f32 (z : Int)) := by decide +kernel
theorem conv_one : floatToFloatBits .f64 4607182418800017408 .f32 = some 1065353216 := by decide +kernel
theorem mark_conv (z : Int) (h0 : 0 ≤ z) (hz : z < 300) (W : World) : (convert 32 29 (.complex .f64 (floatOfInt .f64 z) 4607182418800017408)).run Tryd.prog W = .ok (.complex .f32 (floatOfInt .f32 z) 1065353216) W := by
  have h := conv_small z.toNat (by omega)
  rw [show ((z.toNat : Nat) : Int) = z by omega] at h
  exact run_convert_complex W 32 29 .f64 .f32 _ _ _ _ (by rw [Tryd.underlying32]; rfl) Tryd.underlying29 (by unfold cConvBits; rw [h, conv_one]; rfl)
theorem one_self : (FloatKind.f32.format.order 1065353216 1065353216 == some Ordering.eq) = true := by decide +kernel
theorem markC_real (z : Int) : isNaN Ieee.single (floatOfInt .f32 z) = false := nearest_real _ _ _
theorem markC_self (z : Int) : (FloatKind.f32.format.order (floatOfInt .f32 z) (floatOfInt .f32 z) == some Ordering.eq) = true := by
  show (Ieee.single.order _ _ == some Ordering.eq) = true
  rw [order_self, markC_real]; rfl
set_option maxHeartbeats 1000000 in
theorem markCx_any (A B : Nat) (v : Value) (cs : List Value) (n : Nat) (k0 : Int) (w : World) (h : Own A B w v 29 1 n cs) (h0 : 0 ≤ k0) (hk : k0 + n ≤ 300) :
    Calls Tryd.prog 7 #[v, .int .i64 k0] w fun e w' => e = .returned (.int .i64 (k0 + n)) ∧ Own A B w' v 29 1 n ((marksFrom k0 n).map markC) ∧ w.grownBy w' v.ownBlock := by
  obtain ⟨hrow, hm, hB⟩ := h
  rcases hrow.2 with ⟨rfl, rfl⟩ | ⟨g, cap, cur, rfl, hAg, hg, hnc, hcap, hcs, htk⟩
  · have hpost : Own A B w (.slice none 0 0) 29 1 0 ((marksFrom k0 0).map markC) := ⟨⟨rfl, .inl ⟨rfl, rfl⟩⟩, Nat.zero_le _, fun g hg => by cases hg⟩
    have hP := Lib.hid hpost
    clear hpost hrow hB
    go_enter Tryd.func7, Tryd.ntmps7
    go_wp2
    go_loopw [1, 5] (fun kk i wr => kk = .int .i64 k0 ∧ i = .int .i64 0 ∧ wr = w) (fun _ _ _ => 0)
    case atStart => exact ⟨rfl, rfl, rfl⟩
    case round =>
      obtain ⟨rfl, rfl, rfl⟩ := hrel
      go_wp2
      go_ret
      exact ⟨by simp, hP.out, ⟨rfl, rfl, rfl, Nat.le_refl _, fun _ _ _ => rfl⟩⟩
  · have hO : w.ownsRow A 29 1 (.slice (some ⟨g, 0, none⟩) n cap) n ((marksFrom k0 0).map markC ++ cs.drop 0) := by simpa [marksFrom] using hrow
    have hlen : cs.length = n := by have := hrow.1; omega
    have hBB := Lib.hid hB
    have hH := Lib.hid hO
    have hL := Lib.hid hlen
    have hM := Lib.hid hm
    clear hrow hB hO hlen hg hcs htk hAg hm
    unfold maxLen at hcap
    go_enter Tryd.func7, Tryd.ntmps7
    go_wp2
    go_loopw [1, 5] (fun kk i wr => ∃ k : Nat, k ≤ n ∧ i = .int .i64 k ∧ kk = .int .i64 (k0 + k) ∧ Hid (wr.ownsRow A 29 1 (.slice (some ⟨g, 0, none⟩) n cap) n ((marksFrom k0 k).map markC ++ cs.drop k)) ∧ Hid (w.grownBy wr (some g))) (fun _ i _ => n - (intOf i).toNat)
    case atStart => exact ⟨0, Nat.zero_le _, rfl, by simp, hH, Lib.hid (grown_refl _ _)⟩
    case round =>
      obtain ⟨k, hk, rfl, rfl, hO1, hG1⟩ := hrel
      by_cases hlt : k < n
      · obtain ⟨u0, hdst⟩ : ∃ u, wr.cell? ⟨g, k, none⟩ = some u := by
          have h1 := hO1.out.cellAt k (by omega)
          have h2 := hO1.out.1
          rw [Nat.mul_one] at h2
          rw [h1]
          exact ⟨_, List.getElem?_eq_getElem (by omega)⟩
        have hfr : wr.frozen? ⟨g, k, none⟩ = false := hO1.out.frozenAt k
        have hst := hO1.out.stored k (markC (k0 + k))
        rw [marks_step _ _ _ _ _ hL.out hlt] at hst
        have hO2 := Lib.hid hst.1
        have hG2 := Lib.hid (grown_on hG1.out hst.2)
        have hmc := mark_conv (k0 + k) (by omega) (by omega)
        unfold markC at hO2
        clear hst hO1 hG1
        go_wp2
        go_roundw
        case rel => exact ⟨k + 1, by omega, by go_num, by simp; omega, hO2, hG2⟩
        case measure => simp [intOf]; omega
      · have hkn : k = n := by omega
        have hO3 : wr.ownsRow A 29 1 (.slice (some ⟨g, 0, none⟩) n cap) n ((marksFrom k0 n).map markC) := by
          have h1 := hO1.out
          rw [hkn, List.drop_of_length_le (by have := hL.out; omega), List.append_nil] at h1
          exact h1
        have hO4 := Lib.hid hO3
        have hkn2 := Lib.hid hkn
        clear hO3 hkn hO1
        go_wp2
        go_ret
        exact ⟨by rw [hkn2.out]; rfl, ⟨hO4.out, hM.out, hBB.out⟩, hG1.out⟩
set_option maxHeartbeats 1000000 in
theorem heldCx_any (B : Nat) (v : Value) (n : Nat) (k0 : Int) (w : World) (h : Lst B w v ((marksFrom k0 n).map markC)) (h0 : 0 ≤ k0) (hk : k0 + n ≤ 300) :
    Calls Tryd.prog 8 #[v, .int .i64 k0] w (Ret (.int .i64 (k0 + n)) w) := by
  obtain ⟨a, cap, rfl, hl, hc⟩ := h
  rw [List.length_map, marksFrom_length] at hl ⊢
  have hX : Hid (∀ k, k < n → ∃ b o, a = some ⟨b, o, none⟩ ∧ w.cell? ⟨b, o + k, none⟩ = some (.complex .f32 (floatOfInt .f32 (k0 + k)) 1065353216)) := Lib.hid fun k hk => by
    obtain ⟨b, o, ha, _, hb⟩ := hc (by intro h0; have := congrArg List.length h0; rw [List.length_map, marksFrom_length] at this; simp at this; omega)
    exact ⟨b, o, ha, hb k _ (by rw [List.getElem?_map, marksFrom_get _ _ _ hk]; rfl)⟩
  clear hc
  unfold maxLen at hl
  go_enter Tryd.func8, Tryd.ntmps8
  go_wp2
  go_loopw [1, 5] (fun kk i wr => ∃ k m : Nat, k ≤ n ∧ i = .int .i64 k ∧ kk = .int .i64 (k0 + k) ∧ wr = w.drewN m) (fun _ i _ => n - (intOf i).toNat)
  case atStart => exact ⟨0, 0, Nat.zero_le _, rfl, by simp, rfl⟩
  case round =>
    obtain ⟨k, m, hk, rfl, rfl, rfl⟩ := hrel
    by_cases hlt : k < n
    · obtain ⟨b, o, rfl, hcell⟩ := hX.out k hlt
      rw [← World.cell?_drewN (n := m)] at hcell
      have hself := markC_self (k0 + k)
      have hone := one_self
      have hmc := mark_conv (k0 + k) (by omega) (by omega)
      generalize hwo : w.drewN m = wo at *
      have hWo := Lib.hid hwo
      clear hwo
      go_wp2_with fail
      all_goals go_roundw
      case rel => exact ⟨k + 1, _, by omega, by go_num, by simp; omega, hWo.out.symm⟩
      case measure => simp [intOf]; omega
    · have hkn := Lib.hid (show k = n by omega)
      go_wp2
      go_ret
      exact ⟨_, by rw [hkn.out]; rfl, rfl⟩
end Go.Proofs.YtjpmliigepegaaaDoor
