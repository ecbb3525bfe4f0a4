/- Contracts: lists of flows, and their sums. -/
import Derived.Test.YthliapjnfcahlabAmounts
import Derived.Test.YthliapjnfcahlabFloatSub
import Derived.Test.YthliapjnfcahlabArcs
namespace Go.Proofs.Ythliapjnfcahlab
open Go.RowKit Go.Lst FloatKit

theorem badF_good {x : Nat} (h : badF x = false) : finite Ieee.single x = true ∧ NotLess x := by
  unfold badF at h
  simp only [Bool.or_eq_false_iff, Bool.not_eq_false'] at h
  refine ⟨h.1, ?_⟩
  have := h.2
  unfold ltz at this
  unfold NotLess
  intro e
  rw [e] at this
  cases this
theorem okA_sum {n : Nat} {xs : List Nat} (h : okA n xs = true) : isNaN Ieee.single (sumF xs) = false ∧ NotLess (sumF xs) := by
  unfold okA at h
  simp only [Bool.and_eq_true, Bool.not_eq_true'] at h
  refine sums_from xs 0 single_zero.1 (by unfold NotLess; decide +kernel) fun x hx => badF_good ?_
  have := List.any_eq_false.1 h.2 x hx
  simpa using this
theorem okA_one (x : Nat) : okA 1 [x] = !badF x := by simp [okA]
theorem okA_few {n : Nat} {xs : List Nat} (h : okA n xs = true) : 1 ≤ xs.length ∧ xs.length ≤ n := by
  unfold okA at h
  simp only [Bool.and_eq_true, decide_eq_true_eq] at h
  exact h.1
/-- A slice of floats that was written out. -/
theorem lst_litF {w : World} {t : TypeId} {g : Nat} (xs : List Nat) (hg : g = w.heap.size) (hm : xs.length ≤ 1048576) :
    Lst (g + 1) (w.alloc (.cells (xs.map (Value.float .f32)).toArray t)) (.slice (some ⟨g, 0, none⟩) xs.length xs.length) (xs.map (Value.float .f32)) := by
  subst hg
  refine ⟨_, xs.length, by rw [List.length_map], by rw [List.length_map]; unfold maxLen; omega, fun _ => ⟨_, 0, rfl, Nat.lt_succ_self _, fun i u hu => ?_⟩⟩
  rw [World.cell?_alloc_at _ _ _ _ rfl, Nat.zero_add]
  simpa using hu
set_option maxHeartbeats 1000000 in
set_option maxRecDepth 100000 in
theorem l02Least_any (x : Nat) (w : World) : Calls Try.prog 53 #[.float .f32 x] w (Ret (.bool (!badF x)) w) := by
  unfold badF
  cases hf : finite Ieee.single x
  · go_enter Try.func53, Try.ntmps53
    go_wp2_with (go_at_call 58; refine (l01Finite_any _ _).mono ?_; rintro e w' ⟨m, rfl, rfl⟩)
    go_ret
    exact Ret.later _ _ _
  · have hz2 : (FloatKind.f32.format.order x 0 == some Ordering.gt || FloatKind.f32.format.order x 0 == some Ordering.eq) = !ltz x := (order_total (finite_nan hf) single_zero.1).1
    generalize ltz x = lz at *
    go_enter Try.func53, Try.ntmps53
    go_wp2_with (go_at_call 58; refine (l01Finite_any _ _).mono ?_; rintro e w' ⟨m, rfl, rfl⟩)
    go_ret
    exact Ret.later _ _ _
/-- What the model's sum of flows returns. -/
def RetFl (xs : List Nat) (w : World) (e : Ending) (w' : World) : Prop := ∃ r m, e = .returned (.tuple #[.float .f32 r, .bool (okA 12 xs)]) ∧ (okA 12 xs = true → Eqv Ieee.single r (sumF xs)) ∧ r < 4294967296 ∧ w' = w.drewN m
set_option maxHeartbeats 2000000 in
set_option maxRecDepth 100000 in
theorem l05Flows_any (B : Nat) (v : Value) (xs : List Nat) (w : World) (h : Lst B w v (xs.map (Value.float .f32))) :
    Calls Try.prog 52 #[v] w (RetFl xs w) := by
  obtain ⟨a, cap, rfl, hl, hc⟩ := h
  rw [List.length_map] at hl ⊢
  have hX : Hid (∀ k, k < xs.length → ∃ b o x, a = some ⟨b, o, none⟩ ∧ w.cell? ⟨b, o + k, none⟩ = some (.float .f32 x) ∧ xs[k]? = some x) := Lib.hid fun k hk => by
    obtain ⟨b, o, ha, _, hb⟩ := hc (by intro h0; simp at h0; rw [h0] at hk; simp at hk)
    have e1 : xs[k]? = some xs[k] := List.getElem?_eq_getElem _
    exact ⟨b, o, xs[k], ha, hb k _ (by rw [List.getElem?_map, e1]; rfl), e1⟩
  have hAll : Hid (xs.take xs.length = xs) := Lib.hid (List.take_length ..)
  have hBad : Hid (∀ (k x : Nat), xs[k]? = some x → badF x = true → ∀ (w' : World) (m : Nat), w' = w.drewN m → RetFl xs w (.returned (.tuple #[.float .f32 0, .bool false])) w') := Lib.hid fun k x hx h w' m hw => by
    have e := okA_bad (n := 12) hx h
    refine ⟨0, m, by rw [e], ?_, by omega, hw⟩
    rw [e]; intro ht; cases ht
  have hGood : Hid (∀ k, k = xs.length → (∀ i x : Nat, i < k → xs[i]? = some x → badF x = false) → ∀ (r m : Nat) (b : Bool) (w' : World), b = (decide (1 ≤ k) && decide (k ≤ 12)) → Eqv Ieee.single r (sumF xs) → r < 4294967296 → w' = w.drewN m → RetFl xs w (.returned (.tuple #[.float .f32 r, .bool b])) w') := Lib.hid fun k hk h r m b w' hb hr hlt hw =>
    ⟨r, m, by rw [okA_good hk h, hb], fun _ => hr, hlt, hw⟩
  clear hc
  generalize RetFl xs w = POST at *
  generalize xs.length = n at *
  unfold maxLen at hl
  go_enter Try.func52, Try.ntmps52
  go_wp2_with fail
  go_loopw [4, 8] (fun t i wr => ∃ k m r : Nat, k ≤ n ∧ i = .int .i64 k ∧ t = .float .f32 r ∧ Hid (Eqv Ieee.single r (sumF (xs.take k))) ∧ Hid (r < 4294967296) ∧ Hid (∀ i x : Nat, i < k → xs[i]? = some x → badF x = false) ∧ wr = w.drewN m) (fun _ i _ => n - (intOf i).toNat)
  case atStart => exact ⟨0, 0, 0, Nat.zero_le _, rfl, rfl, Lib.hid (.inl rfl), Lib.hid (by omega), Lib.hid (fun i x hi => by omega), rfl⟩
  case round =>
    obtain ⟨k, m, r, hk, rfl, rfl, hE, hR, hG, rfl⟩ := hrel
    by_cases hlt : k < n
    · obtain ⟨b, o, x, rfl, hcell, hx⟩ := hX.out k hlt
      have hS := Lib.hid (sumF_snoc xs k x hx)
      have hXx := Lib.hid hx
      have hkI : (k : Int) < n := by omega
      clear hx
      have hL := Lib.hid (fun w' => l02Least_any x w')
      cases hb : badF x
      · rw [hb] at hL
        have hG2 : Hid (∀ i x : Nat, i < k + 1 → xs[i]? = some x → badF x = false) := Lib.hid fun i y hi hy => by
          by_cases h1 : i < k
          · exact hG.out i y h1 hy
          · have : i = k := by omega
            subst this
            rw [hXx.out] at hy
            cases hy
            exact hb
        go_wp2_with (first | (go_at_call 53; refine (hL.out _).mono ?_; rintro e w' ⟨m, rfl, rfl⟩) | (refine wpList_farith rfl _ _ _ _ _ rfl _ _ _ rfl rfl (by rfl) ?_; intro r2 j hr hlt2; have hE2 := Lib.hid (hr.trans (.inl (fop_eqv .add .f32 hE.out (Eqv.refl _ x)))); have hR2 := Lib.hid hlt2; clear hr hlt2))
        go_roundw
        case rel => exact ⟨k + 1, _, r2, by omega, by go_num, rfl, by show Eqv _ _ _; rw [hS.out]; exact hE2.out, hR2, hG2, by first | rfl | (simp only [World.drewN_drewN])⟩
        case measure => simp [intOf]; omega
      · rw [hb] at hL
        go_wp2_with (go_at_call 53; refine (hL.out _).mono ?_; rintro e w' ⟨m, rfl, rfl⟩)
        exact hBad.out k x hXx.out hb _ _ (by first | rfl | (simp only [World.drewN_drewN]))
    · have hkn : k = n := by omega
      have hE3 : Hid (Eqv Ieee.single r (sumF xs)) := by
        have := hE.out
        rw [hkn, hAll.out] at this
        exact Lib.hid this
      have hI : Hid (inB (n : Int) 1 12 = (decide (1 ≤ k) && decide (k ≤ 12))) := Lib.hid (by rw [hkn]; unfold inB; rw [Bool.eq_iff_iff]; simp; omega)
      go_wp2_with (go_at_call 63; refine (l05Nodes_any _ _).mono ?_; rintro e w' ⟨rfl, rfl⟩)
      exact hGood.out k hkn hG.out _ _ _ _ hI.out hE3.out hR.out rfl
end Go.Proofs.Ythliapjnfcahlab
