/- Contracts of the law's own functions on lists of float32: copied, marked, and looked at again. -/
import Derived.Test.YtfidppepchobeaaDoorInts
import Derived.Test.YtfidppepchobeaaDoorFloatSub
namespace Go.Proofs.YtfidppepchobeaaDoor
open Go.RowKit Go.Lst FloatKit

theorem copiedF (B : Nat) (v : Value) (xs : List Nat) (w : World) (h : Lst B w v (xs.map (Value.float .f32))) (hB : B ≤ w.heap.size) (hlen : xs.length ≤ 1048576) :
    Calls Tryd.prog 6 #[v] w fun e w' => ∃ v', e = .returned v' ∧ Own w.heap.size w'.heap.size w' v' 33 1 xs.length (xs.map (Value.float .f32)) ∧ Below w.heap.size w w' :=
  (toFloat32S_any B v xs w h hB hlen).mono fun _ _ ⟨v', he, ho, hb, _⟩ => ⟨v', he, Own.new ho (by unfold maxLen; omega), hb⟩
theorem eqF_yes (B : Nat) (v1 v2 : Value) (xs : List Nat) (w : World) (h1 : Lst B w v1 (xs.map (Value.float .f32))) (h2 : Lst B w v2 (xs.map (Value.float .f32))) :
    Calls Tryd.prog 8 #[v1, v2] w (Ret (.bool true) w) :=
  eqFloat32S_yes B v1 v2 xs xs w h1 h2 rfl fun i x y hx hy => .inl (by rw [hx] at hy; exact Option.some.inj hy)
def markV (z : Int) : Value := .float .f32 (floatOfInt .f32 z)
theorem mark_real (z : Int) : isNaN Ieee.single (floatOfInt .f32 z) = false := nearest_real _ _ _
theorem mark_self (z : Int) : (FloatKind.f32.format.order (floatOfInt .f32 z) (floatOfInt .f32 z) == some Ordering.eq) = true := by
  show (Ieee.single.order _ _ == some Ordering.eq) = true
  rw [order_self, mark_real]; rfl
set_option maxHeartbeats 1000000 in
theorem markF_any (A B : Nat) (v : Value) (cs : List Value) (n : Nat) (k0 : Int) (w : World) (h : Own A B w v 33 1 n cs) (h0 : 0 ≤ k0) (hk0 : k0 ≤ 1099511627776) (hn : n ≤ 1099511627776) :
    Calls Tryd.prog 11 #[v, .int .i64 k0] w fun e w' => e = .returned (.int .i64 (k0 + n)) ∧ Own A B w' v 33 1 n ((marksFrom k0 n).map markV) ∧ w.grownBy w' v.ownBlock := by
  obtain ⟨hrow, hm, hB⟩ := h
  rcases hrow.2 with ⟨rfl, rfl⟩ | ⟨g, cap, cur, rfl, hAg, hg, hnc, hcap, hcs, htk⟩
  · have hpost : Own A B w (.slice none 0 0) 33 1 0 ((marksFrom k0 0).map markV) := ⟨⟨rfl, .inl ⟨rfl, rfl⟩⟩, Nat.zero_le _, fun g hg => by cases hg⟩
    have hP := Lib.hid hpost
    clear hpost hrow hB
    go_enter Tryd.func11, Tryd.ntmps11
    go_wp2
    go_loopw [1, 5] (fun kk i wr => kk = .int .i64 k0 ∧ i = .int .i64 0 ∧ wr = w) (fun _ _ _ => 0)
    case atStart => exact ⟨rfl, rfl, rfl⟩
    case round =>
      obtain ⟨rfl, rfl, rfl⟩ := hrel
      go_wp2
      go_ret
      exact ⟨by simp, hP.out, ⟨rfl, rfl, rfl, Nat.le_refl _, fun _ _ _ => rfl⟩⟩
  · have hO : w.ownsRow A 33 1 (.slice (some ⟨g, 0, none⟩) n cap) n ((marksFrom k0 0).map markV ++ cs.drop 0) := by simpa [marksFrom] using hrow
    have hlen : cs.length = n := by have := hrow.1; omega
    have hBB := Lib.hid hB
    have hH := Lib.hid hO
    have hL := Lib.hid hlen
    have hM := Lib.hid hm
    clear hrow hB hO hlen hg hcs htk hAg hm
    unfold maxLen at hcap
    go_enter Tryd.func11, Tryd.ntmps11
    go_wp2
    go_loopw [1, 5] (fun kk i wr => ∃ k : Nat, k ≤ n ∧ i = .int .i64 k ∧ kk = .int .i64 (k0 + k) ∧ Hid (wr.ownsRow A 33 1 (.slice (some ⟨g, 0, none⟩) n cap) n ((marksFrom k0 k).map markV ++ cs.drop k)) ∧ Hid (w.grownBy wr (some g))) (fun _ i _ => n - (intOf i).toNat)
    case atStart => exact ⟨0, Nat.zero_le _, rfl, by simp, hH, Lib.hid (grown_refl _ _)⟩
    case round =>
      obtain ⟨k, hk, rfl, rfl, hO1, hG1⟩ := hrel
      by_cases hlt : k < n
      · obtain ⟨u0, hdst⟩ : ∃ u, wr.cell? ⟨g, k, none⟩ = some u := by
          have h1 := hO1.out.cellAt k (by omega)
          have h2 := hO1.out.1
          rw [Nat.mul_one] at h2
          rw [h1]
          exact ⟨_, List.getElem?_eq_getElem (by omega)⟩
        have hfr : wr.frozen? ⟨g, k, none⟩ = false := hO1.out.frozenAt k
        have hst := hO1.out.stored k (markV (k0 + k))
        rw [marks_step _ _ _ _ _ hL.out hlt] at hst
        have hO2 := Lib.hid hst.1
        have hG2 := Lib.hid (grown_on hG1.out hst.2)
        clear hst hO1 hG1
        go_wp2
        go_roundw
        case rel => exact ⟨k + 1, by omega, by go_num, by simp; omega, hO2, hG2⟩
        case measure => simp [intOf]; omega
      · have hkn : k = n := by omega
        have hO3 : wr.ownsRow A 33 1 (.slice (some ⟨g, 0, none⟩) n cap) n ((marksFrom k0 n).map markV) := by
          have h1 := hO1.out
          rw [hkn, List.drop_of_length_le (by have := hL.out; omega), List.append_nil] at h1
          exact h1
        have hO4 := Lib.hid hO3
        have hkn2 := Lib.hid hkn
        clear hO3 hkn hO1
        go_wp2
        go_ret
        exact ⟨by rw [hkn2.out]; rfl, ⟨hO4.out, hM.out, hBB.out⟩, hG1.out⟩
set_option maxHeartbeats 1000000 in
theorem heldF_any (B : Nat) (v : Value) (n : Nat) (k0 : Int) (w : World) (h : Lst B w v ((marksFrom k0 n).map markV)) (h0 : 0 ≤ k0) (hk0 : k0 ≤ 1099511627776) (hn : n ≤ 1099511627776) :
    Calls Tryd.prog 12 #[v, .int .i64 k0] w (Ret (.int .i64 (k0 + n)) w) := by
  obtain ⟨a, cap, rfl, hl, hc⟩ := h
  rw [List.length_map, marksFrom_length] at hl ⊢
  have hX : Hid (∀ k, k < n → ∃ b o, a = some ⟨b, o, none⟩ ∧ w.cell? ⟨b, o + k, none⟩ = some (.float .f32 (floatOfInt .f32 (k0 + k)))) := Lib.hid fun k hk => by
    obtain ⟨b, o, ha, _, hb⟩ := hc (by intro h0; have := congrArg List.length h0; rw [List.length_map, marksFrom_length] at this; simp at this; omega)
    exact ⟨b, o, ha, hb k _ (by rw [List.getElem?_map, marksFrom_get _ _ _ hk]; rfl)⟩
  clear hc
  unfold maxLen at hl
  go_enter Tryd.func12, Tryd.ntmps12
  go_wp2
  go_loopw [1, 5] (fun kk i wr => ∃ k m : Nat, k ≤ n ∧ i = .int .i64 k ∧ kk = .int .i64 (k0 + k) ∧ wr = w.drewN m) (fun _ i _ => n - (intOf i).toNat)
  case atStart => exact ⟨0, 0, Nat.zero_le _, rfl, by simp, rfl⟩
  case round =>
    obtain ⟨k, m, hk, rfl, rfl, rfl⟩ := hrel
    by_cases hlt : k < n
    · obtain ⟨b, o, rfl, hcell⟩ := hX.out k hlt
      rw [← World.cell?_drewN (n := m)] at hcell
      have hself := mark_self (k0 + k)
      have hself2 : FloatKind.f32.format.order (floatOfInt .f32 (k0 + k)) (floatOfInt .f32 (k0 + k)) = some Ordering.eq := by simpa using hself
      have hself3 : (FloatKind.f32.format.order (floatOfInt .f32 (k0 + k)) (floatOfInt .f32 (k0 + k)) != some Ordering.eq) = false := by rw [hself2]; rfl
      generalize hwo : w.drewN m = wo at *
      have hWo := Lib.hid hwo
      clear hwo
      go_wp2_with fail
      all_goals go_roundw
      case rel => exact ⟨k + 1, _, by omega, by go_num, by simp; omega, hWo.out.symm⟩
      case measure => simp [intOf]; omega
    · have hkn := Lib.hid (show k = n by omega)
      go_wp2
      go_ret
      exact ⟨_, by rw [hkn.out]; rfl, rfl⟩
end Go.Proofs.YtfidppepchobeaaDoor
