/- Contracts: EarlyStarts, in the model and in the program. -/
import Derived.Test.YtfnpbhplnlfnmaaEarly
import Derived.OwnWalk
import Derived.Deep.RegionWith
namespace Go.Proofs.Ytfnpbhplnlfnmaa
open Go.RowKit Go.Lst

/-- A list that the call made: an own row of numbers. -/
theorem own_lstI {w : World} {A : Nat} {v : Value} {st : List Int} {n : Nat} (h : w.ownsRow A 2 1 v n (st.map (Value.int .i64))) (hm : n ≤ maxLen) : LstI w.heap.size w v st := by
  have hl := h.1
  rw [List.length_map, Nat.mul_one] at hl
  subst hl
  exact (Own.new h hm).lstI (Nat.le_refl _)
theorem zeros_own' {w0 : World} {B g n : Nat} (h : w0.ownsRow B 2 1 (.slice (some ⟨g, 0, none⟩) n n) n (madeCells #[Value.int .i64 0] n).toList) :
    w0.ownsRow B 2 1 (.slice (some ⟨g, 0, none⟩) n n) n ((List.replicate n (0 : Int)).map (Value.int .i64)) := by
  rw [toList_madeCells_one] at h
  rw [List.map_replicate]
  exact h

set_option maxHeartbeats 4000000 in
theorem l03Early_any (B : Nat) (v : Value) (xs : List TaskD) (w : World) (h : LstTask B w v xs) (hB : B ≤ w.heap.size) (hf : Fit xs) :
    Calls Try.prog 19 #[v] w fun e w' => ∃ v', e = .returned v' ∧ Own w.heap.size w'.heap.size w' v' 2 1 xs.length ((early xs).map (Value.int .i64)) ∧ Below w.heap.size w w' := by
  obtain ⟨a, cap, rfl, hl, _, _, _⟩ := h.at_
  obtain ⟨i0, hi, hz0, hz1, hz2⟩ := info_parts infoI
  have hLs := Lib.hid h
  have hFt := Lib.hid hf
  have hX : Hid (∀ k, k < xs.length → ∃ x, xs[k]? = some x) := Lib.hid fun k hk => ⟨_, List.getElem?_eq_getElem hk⟩
  have hStep : Hid (∀ k x, xs[k]? = some x → earlyTo xs (k + 1) = (earlyTo xs k).set k (ready xs (earlyTo xs k) x)) := Lib.hid fun k x hx => by simp only [earlyTo]; rw [getD_some hx]
  have hBd : Hid (∀ k, k ≤ xs.length → Bnd (-1000000) 1000000 (earlyTo xs k)) := Lib.hid fun k hk => (earlyTo_bound hf k hk).mono (by omega) (by have := hf.most; omega)
  have hLen : Hid (∀ k, (earlyTo xs k).length = xs.length) := Lib.hid fun k => earlyTo_length xs k
  have hEnd : Hid (∀ k, k = xs.length → earlyTo xs k = early xs) := Lib.hid fun k hk => by rw [hk]; rfl
  have h0 : Hid (earlyTo xs 0 = List.replicate xs.length 0) := Lib.hid rfl
  have hm : xs.length ≤ 16 := hf.most
  clear h hf
  generalize hn : xs.length = n at *
  have hN := Lib.hid hn
  clear hn
  unfold maxLen at hl
  go_enter Try.func19, Try.ntmps19
  go_wp2_with (at_make; refine wpList_make_full _ rfl _ _ _ rfl w.heap.size _ i0 (.int .i64 0) 1 Try.underlying24 hi hz0 hz1 _ _ _ _ n rfl rfl rfl rfl ?c1 ?c2 ?c3 ?_)
  case c1 => first | (rw [hz2]; omega) | omega
  case c2 => unfold maxLen; omega
  try case c3 => exact Nat.le_refl _
  intro w0 hown0 hg0
  have hB0 := Lib.hid (show Below w.heap.size w w0 from (Below.refl _ _).grown hg0 (Nat.le_refl _) (fun k hk => by cases hk))
  have hs0 : w.heap.size < w0.heap.size := (hown0.lt _ rfl).2
  have hO := Lib.hid (zeros_own' hown0)
  rw [← h0.out] at hO
  clear hown0 hg0 hz0 hz1 hz2 hi
  go_wp2
  go_loopw [10] (fun i wr => ∃ k : Nat, k ≤ n ∧ i = .int .i64 k ∧ Hid (wr.ownsRow w.heap.size 2 1 (.slice (some ⟨w.heap.size, 0, none⟩) n n) n ((earlyTo xs k).map (Value.int .i64))) ∧ Hid (Below w.heap.size w wr) ∧ w.heap.size < wr.heap.size) (fun i _ => n - (intOf i).toNat)
  case atStart => exact ⟨0, Nat.zero_le _, rfl, hO, hB0, hs0⟩
  case round =>
    obtain ⟨k, hk, rfl, hO1, hB1, hs1⟩ := hrel
    by_cases hlt : k < n
    · obtain ⟨x, hx⟩ := hX.out k hlt
      have hQ := Lib.hid (l03Least_any wr.heap.size _ _ xs (earlyTo xs k) k x wr ((hLs.out.below hB1.out hB).mono (Nat.le_trans hB hB1.out.size)) (own_lstI hO1.out (by unfold maxLen; omega)) hFt.out hx (by rw [hLen.out, hN.out]; exact Nat.le_refl _) (hBd.out k hk))
      have hS := Lib.hid (hStep.out k x hx)
      clear hx
      have hi1 : (k : Int) < n := by omega
      go_wp2_with fail
      refine (hQ.out).mono ?_
      rintro e w1 ⟨m, rfl, rfl⟩
      have hO2 := ownsRow_drewN hO1.out m
      have hB2 := Lib.hid (show Below w.heap.size w (wr.drewN m) from Lst.Below.drewN hB1.out m)
      have hs2 : w.heap.size < (wr.drewN m).heap.size := hs1
      generalize wr.drewN m = w2 at *
      have hl2 : (earlyTo xs k).length = n := hLen.out k
      obtain ⟨u0, hdst⟩ : ∃ u, w2.cell? ⟨w.heap.size, k, none⟩ = some u := ⟨_, (hO2.cellAt k (by omega)).trans (List.getElem?_eq_getElem (by rw [List.length_map]; omega))⟩
      have hfr : w2.frozen? ⟨w.heap.size, k, none⟩ = false := hO2.frozenAt k
      have hst := hO2.stored k (.int .i64 (ready xs (earlyTo xs k) x))
      rw [← List.map_set, ← hS.out] at hst
      have hO3 := Lib.hid hst.1
      have hB3 := Lib.hid (hB2.out.setCell (p := ⟨w.heap.size, k, none⟩) (Nat.le_refl _) (.int .i64 (ready xs (earlyTo xs k) x)))
      have hs3 : w.heap.size < (w2.setCell ⟨w.heap.size, k, none⟩ (.int .i64 (ready xs (earlyTo xs k) x))).heap.size := by simpa [World.setCell] using hs2
      clear hst hO2 hl2 hQ hS hO1 hB1 hs1
      go_wp2_with fail
      go_roundw
      case rel => exact ⟨k + 1, by omega, by go_num, hO3, hB3, by first | exact hs3 | simpa using hs3⟩
      case measure => simp [intOf]; omega
    · have hkn := hEnd.out k (by omega)
      have hO3 := hO1.out
      rw [hkn] at hO3
      have hO4 := Lib.hid (Own.new hO3 (by unfold maxLen; omega))
      clear hO3 hO1 hkn
      go_wp2_with fail
      go_ret
      exact ⟨_, rfl, hO4.out, hB1.out⟩

set_option maxHeartbeats 4000000 in
theorem earliest_any (B : Nat) (v : Value) (xs : List TaskD) (w : World) (h : LstTask B w v xs) (hB : B ≤ w.heap.size) (hf : Fit xs) :
    Calls Try.prog 40 #[v] w fun e w' => ∃ v', e = .returned (.tuple #[v', .int .i64 (endOf xs (early xs))]) ∧ Own w.heap.size w'.heap.size w' v' 2 1 xs.length ((early xs).map (Value.int .i64)) ∧ Below w.heap.size w w' := by
  obtain ⟨a, cap, rfl, hl, _, _, _⟩ := h.at_
  obtain ⟨i0, hi, hz0, hz1, hz2⟩ := info_parts infoI
  have hLs := Lib.hid h
  have hFt := Lib.hid hf
  have hX : Hid (∀ k, k < xs.length → ∃ x, xs[k]? = some x) := Lib.hid fun k hk => ⟨_, List.getElem?_eq_getElem hk⟩
  have hStep : Hid (∀ k x, xs[k]? = some x → earlyTo xs (k + 1) = (earlyTo xs k).set k (ready xs (earlyTo xs k) x)) := Lib.hid fun k x hx => by simp only [earlyTo]; rw [getD_some hx]
  have hBd : Hid (∀ k, k ≤ xs.length → Bnd (-1000000) 1000000 (earlyTo xs k)) := Lib.hid fun k hk => (earlyTo_bound hf k hk).mono (by omega) (by have := hf.most; omega)
  have hLen : Hid (∀ k, (earlyTo xs k).length = xs.length) := Lib.hid fun k => earlyTo_length xs k
  have hEnd : Hid (∀ k, k = xs.length → earlyTo xs k = early xs) := Lib.hid fun k hk => by rw [hk]; rfl
  have h0 : Hid (earlyTo xs 0 = List.replicate xs.length 0) := Lib.hid rfl
  have hm : xs.length ≤ 16 := hf.most
  clear h hf
  generalize hn : xs.length = n at *
  have hN := Lib.hid hn
  clear hn
  unfold maxLen at hl
  go_enter Try.func40, Try.ntmps40
  go_wp2_with (at_make; refine wpList_make_full _ rfl _ _ _ rfl w.heap.size _ i0 (.int .i64 0) 1 Try.underlying24 hi hz0 hz1 _ _ _ _ n rfl rfl rfl rfl ?c1 ?c2 ?c3 ?_)
  case c1 => first | (rw [hz2]; omega) | omega
  case c2 => unfold maxLen; omega
  try case c3 => exact Nat.le_refl _
  intro w0 hown0 hg0
  have hB0 := Lib.hid (show Below w.heap.size w w0 from (Below.refl _ _).grown hg0 (Nat.le_refl _) (fun k hk => by cases hk))
  have hs0 : w.heap.size < w0.heap.size := (hown0.lt _ rfl).2
  have hO := Lib.hid (zeros_own' hown0)
  rw [← h0.out] at hO
  clear hown0 hg0 hz0 hz1 hz2 hi
  go_wp2_with fail
  refine (readyBy_any _ _ _ _ _ _ _).mono ?_
  rintro e w1 ⟨rfl, hb1, hsz1, k1, k2⟩
  have hO1 := Lib.hid (ownsRow_kept hO.out hb1)
  have hB1 := Lib.hid (below_on hB0.out (Nat.le_refl _) hb1)
  have hs1 : w.heap.size < w0.heap.size := hs0
  clear hB0 hO hb1
  generalize hp : w0.heap.size = p at *
  go_wp2_with fail
  have hK1 := Lib.hid k1
  have hK2 := Lib.hid k2
  clear k1 k2 hp hs1
  have hps : w.heap.size < w1.heap.size := by omega
  go_loopw [15] (fun i wr => ∃ k : Nat, k ≤ n ∧ i = .int .i64 k ∧ Hid (wr.ownsRow w.heap.size 2 1 (.slice (some ⟨w.heap.size, 0, none⟩) n n) n ((earlyTo xs k).map (Value.int .i64))) ∧ Hid (Below w.heap.size w wr) ∧ w.heap.size < wr.heap.size ∧ Hid (wr.cell? ⟨p, 0, none⟩ = some (.slice a n cap)) ∧ Hid (wr.cell? ⟨p + 1, 0, none⟩ = some (.slice (some ⟨w.heap.size, 0, none⟩) n n))) (fun i _ => n - (intOf i).toNat)
  case atStart => exact ⟨0, Nat.zero_le _, rfl, hO1, hB1, hps, hK1, hK2⟩
  case round =>
    obtain ⟨k, hk, rfl, hO1, hB1, hs1, hK1, hK2⟩ := hrel
    by_cases hlt : k < n
    · obtain ⟨x, hx⟩ := hX.out k hlt
      have hQ := Lib.hid (readyFn_any wr.heap.size _ _ _ _ xs (earlyTo xs k) k x wr ((hLs.out.below hB1.out hB).mono (Nat.le_trans hB hB1.out.size)) (own_lstI hO1.out (by unfold maxLen; omega)) hFt.out hx (by rw [hLen.out, hN.out]; exact Nat.le_refl _) (hBd.out k hk) hK1.out hK2.out)
      have hS := Lib.hid (hStep.out k x hx)
      clear hx
      have hi1 : (k : Int) < n := by omega
      go_wp2_with fail
      refine (hQ.out).mono ?_
      rintro e w2 ⟨m, rfl, rfl⟩
      have hO2 := ownsRow_drewN hO1.out m
      have hB2 := Lib.hid (show Below w.heap.size w (wr.drewN m) from Lst.Below.drewN hB1.out m)
      have hs2 : w.heap.size < (wr.drewN m).heap.size := hs1
      have hK3 := Lib.hid (show (wr.drewN m).cell? ⟨p, 0, none⟩ = _ from hK1.out)
      have hK4 := Lib.hid (show (wr.drewN m).cell? ⟨p + 1, 0, none⟩ = _ from hK2.out)
      generalize wr.drewN m = w2 at *
      have hl2 : (earlyTo xs k).length = n := hLen.out k
      obtain ⟨u0, hdst⟩ : ∃ u, w2.cell? ⟨w.heap.size, k, none⟩ = some u := ⟨_, (hO2.cellAt k (by omega)).trans (List.getElem?_eq_getElem (by rw [List.length_map]; omega))⟩
      have hfr : w2.frozen? ⟨w.heap.size, k, none⟩ = false := hO2.frozenAt k
      have hst := hO2.stored k (.int .i64 (ready xs (earlyTo xs k) x))
      rw [← List.map_set, ← hS.out] at hst
      have hO3 := Lib.hid hst.1
      have hB3 := Lib.hid (hB2.out.setCell (p := ⟨w.heap.size, k, none⟩) (Nat.le_refl _) (.int .i64 (ready xs (earlyTo xs k) x)))
      have hs3 : w.heap.size < (w2.setCell ⟨w.heap.size, k, none⟩ (.int .i64 (ready xs (earlyTo xs k) x))).heap.size := by simpa [World.setCell] using hs2
      have hK5 := Lib.hid (show (w2.setCell ⟨w.heap.size, k, none⟩ (.int .i64 (ready xs (earlyTo xs k) x))).cell? ⟨p, 0, none⟩ = _ from (World.cell?_of_block (w := w2) (Below.heap_setCell w2 ⟨w.heap.size, k, none⟩ _ p (by show p ≠ w.heap.size; omega))).trans hK3.out)
      have hK6 := Lib.hid (show (w2.setCell ⟨w.heap.size, k, none⟩ (.int .i64 (ready xs (earlyTo xs k) x))).cell? ⟨p + 1, 0, none⟩ = _ from (World.cell?_of_block (w := w2) (Below.heap_setCell w2 ⟨w.heap.size, k, none⟩ _ (p + 1) (by show p + 1 ≠ w.heap.size; omega))).trans hK4.out)
      clear hst hO2 hl2 hQ hS hO1 hB1 hs1 hK1 hK2 hK3 hK4
      go_wp2_with fail
      go_roundw
      case rel => exact ⟨k + 1, by omega, by go_num, hO3, hB3, by first | exact hs3 | simpa using hs3, hK5, hK6⟩
      case measure => simp [intOf]; omega
    · have hkn := hEnd.out k (by omega)
      have hO3 := hO1.out
      rw [hkn] at hO3
      have hE := Lib.hid (lastEnd_any wr.heap.size _ _ xs (early xs) wr ((hLs.out.below hB1.out hB).mono (Nat.le_trans hB hB1.out.size)) (own_lstI hO3 (by unfold maxLen; omega)) (Nat.le_refl _) hFt.out (by rw [early_length]; exact Nat.le_refl _) ((early_bound hFt.out).mono (by omega) (by omega)))
      have hO4 := Lib.hid (Own.new hO3 (by unfold maxLen; omega))
      clear hO3 hO1 hkn
      go_wp2_with fail
      refine (hE.out).mono ?_
      rintro e w2 ⟨rfl, hb2⟩
      have hO5 := Lib.hid ((hO4.out.below hb2 (Nat.le_refl _)).mono (Nat.le_refl _) hb2.size)
      have hB2 := Lib.hid (below_on hB1.out (Nat.le_refl _) hb2)
      clear hO4 hb2
      go_wp2_with fail
      go_ret2
      exact ⟨_, rfl, hO5.out, hB2.out⟩
end Go.Proofs.Ytfnpbhplnlfnmaa
