/- Contracts: the greatest starts of tasks, in the model and in the program. -/
import Derived.Test.YtlgojbbhjhifhaaLate
import Derived.Test.YtlgojbbhjhifhaaEarly3
namespace Go.Proofs.Ytlgojbbhjhifhaa
open Go.RowKit Go.Lst

theorem lateTo_step (xs : List TaskD) (e : Int) {k : Nat} (hk : k < xs.length) : lateTo xs e (xs.length - k) = (lateTo xs e (xs.length - (k + 1))).set k (lateAt xs (lateTo xs e (xs.length - (k + 1))) k e) := by
  rw [show xs.length - k = (xs.length - (k + 1)) + 1 by omega]
  simp only [lateTo]
  rw [show xs.length - 1 - (xs.length - (k + 1)) = k by omega]

set_option maxHeartbeats 4000000 in
theorem l03Late_any (B : Nat) (v : Value) (xs : List TaskD) (e : Int) (w : World) (h : LstTask B w v xs) (hB : B ≤ w.heap.size) (hf : Fit xs) (he0 : 0 ≤ e) (he1 : e ≤ 1000000) :
    Calls Try.prog 61 #[v, .int .i64 e] w fun r w' => ∃ v', r = .returned v' ∧ Own w.heap.size w'.heap.size w' v' 2 1 xs.length ((late xs e).map (Value.int .i64)) ∧ Below w.heap.size w w' := by
  obtain ⟨a, cap, rfl, hl, _, _, _⟩ := h.at_
  obtain ⟨i0, hi, hz0, hz1, hz2⟩ := info_parts infoI
  have hLs := Lib.hid h
  have hFt := Lib.hid hf
  have hStep : Hid (∀ k, k < xs.length → lateTo xs e (xs.length - k) = (lateTo xs e (xs.length - (k + 1))).set k (lateAt xs (lateTo xs e (xs.length - (k + 1))) k e)) := Lib.hid fun k hk => lateTo_step xs e hk
  have hBd : Hid (∀ d, d ≤ xs.length → Bnd (-1000000) 1000000 (lateTo xs e d)) := Lib.hid fun d hd => (lateTo_bound hf he0 d).mono (by have := hf.most; omega) (by omega)
  have hLen : Hid (∀ k, (lateTo xs e k).length = xs.length) := Lib.hid fun k => lateTo_length xs e k
  have hEnd : Hid (lateTo xs e (xs.length - 0) = late xs e) := Lib.hid rfl
  have h0 : Hid (lateTo xs e (xs.length - xs.length) = List.replicate xs.length 0) := Lib.hid (by rw [Nat.sub_self]; rfl)
  have hm : xs.length ≤ 16 := hf.most
  clear h hf
  generalize hn : xs.length = n at *
  have hN := Lib.hid hn
  clear hn
  unfold maxLen at hl
  go_enter Try.func61, Try.ntmps61
  go_wp2_with (at_make; refine wpList_make_full _ rfl _ _ _ rfl w.heap.size _ i0 (.int .i64 0) 1 Try.underlying30 hi hz0 hz1 _ _ _ _ n rfl rfl rfl rfl ?c1 ?c2 ?c3 ?_)
  case c1 => first | (rw [hz2]; omega) | omega
  case c2 => unfold maxLen; omega
  try case c3 => exact Nat.le_refl _
  intro w0 hown0 hg0
  have hB0 := Lib.hid (show Below w.heap.size w w0 from (Below.refl _ _).grown hg0 (Nat.le_refl _) (fun k hk => by cases hk))
  have hs0 : w.heap.size < w0.heap.size := (hown0.lt _ rfl).2
  have hO := Lib.hid (zeros_own' hown0)
  rw [← h0.out] at hO
  clear hown0 hg0 hz0 hz1 hz2 hi
  go_wp2_with fail
  go_loopw [6] (fun i wr => ∃ r : Nat, r ≤ n ∧ i = .int .i64 ((r : Int) - 1) ∧ Hid (wr.ownsRow w.heap.size 2 1 (.slice (some ⟨w.heap.size, 0, none⟩) n n) n ((lateTo xs e (n - r)).map (Value.int .i64))) ∧ Hid (Below w.heap.size w wr) ∧ w.heap.size < wr.heap.size) (fun i _ => (intOf i + 1).toNat)
  case atStart => exact ⟨n, Nat.le_refl _, rfl, hO, hB0, hs0⟩
  case round =>
    obtain ⟨r, hr, rfl, hO1, hB1, hs1⟩ := hrel
    cases r with
    | succ k =>
      rw [show ((k + 1 : Nat) : Int) - 1 = (k : Int) by omega]
      have hlt : k < n := hr
      have hQ := Lib.hid (l03Greatest_any wr.heap.size _ _ xs (lateTo xs e (n - (k + 1))) k e wr ((hLs.out.below hB1.out hB).mono (Nat.le_trans hB hB1.out.size)) (own_lstI hO1.out (by unfold maxLen; omega)) hFt.out (by rw [hN.out]; exact hlt) (by rw [hLen.out, hN.out]; exact Nat.le_refl _) (hBd.out _ (by omega)) he0 he1)
      have hS := Lib.hid (hStep.out k hlt)
      have hi1 : (k : Int) < n := by omega
      go_wp2_with fail
      refine (hQ.out).mono ?_
      rintro q w1 ⟨m, rfl, rfl⟩
      have hO2 := ownsRow_drewN hO1.out m
      have hB2 := Lib.hid (show Below w.heap.size w (wr.drewN m) from Lst.Below.drewN hB1.out m)
      have hs2 : w.heap.size < (wr.drewN m).heap.size := hs1
      generalize wr.drewN m = w2 at *
      have hl2 : (lateTo xs e (n - (k + 1))).length = n := hLen.out _
      obtain ⟨u0, hdst⟩ : ∃ u, w2.cell? ⟨w.heap.size, k, none⟩ = some u := ⟨_, (hO2.cellAt k (by omega)).trans (List.getElem?_eq_getElem (by rw [List.length_map]; omega))⟩
      have hfr : w2.frozen? ⟨w.heap.size, k, none⟩ = false := hO2.frozenAt k
      have hst := hO2.stored k (.int .i64 (lateAt xs (lateTo xs e (n - (k + 1))) k e))
      rw [← List.map_set, ← hS.out] at hst
      have hO3 := Lib.hid hst.1
      have hB3 := Lib.hid (hB2.out.setCell (p := ⟨w.heap.size, k, none⟩) (Nat.le_refl _) (.int .i64 (lateAt xs (lateTo xs e (n - (k + 1))) k e)))
      have hs3 : w.heap.size < (w2.setCell ⟨w.heap.size, k, none⟩ (.int .i64 (lateAt xs (lateTo xs e (n - (k + 1))) k e))).heap.size := by simpa [World.setCell] using hs2
      clear hst hO2 hl2 hQ hS hO1 hB1 hs1
      go_wp2_with fail
      go_roundw
      case rel => exact ⟨k, by omega, by go_num, hO3, hB3, by first | exact hs3 | simpa using hs3⟩
      case measure => first | (simp [intOf]; done) | (simp [intOf]; omega)
    | zero =>
      have hO3 := hO1.out
      rw [hEnd.out] at hO3
      have hO4 := Lib.hid (Own.new hO3 (by unfold maxLen; omega))
      clear hO3 hO1
      rw [show ((0 : Nat) : Int) - 1 = -1 by omega]
      go_wp2_with fail
      go_ret
      exact ⟨_, rfl, hO4.out, hB1.out⟩

set_option maxHeartbeats 4000000 in
theorem latest_any (B : Nat) (v : Value) (xs : List TaskD) (e : Int) (w : World) (h : LstTask B w v xs) (hB : B ≤ w.heap.size) (hf : Fit xs) (he0 : 0 ≤ e) (he1 : e ≤ 1000000) :
    Calls Try.prog 63 #[v, .int .i64 e] w fun r w' => ∃ v', r = .returned v' ∧ Own w.heap.size w'.heap.size w' v' 2 1 xs.length ((late xs e).map (Value.int .i64)) ∧ Below w.heap.size w w' := by
  obtain ⟨a, cap, rfl, hl, _, _, _⟩ := h.at_
  obtain ⟨i0, hi, hz0, hz1, hz2⟩ := info_parts infoI
  have hLs := Lib.hid h
  have hFt := Lib.hid hf
  have hStep : Hid (∀ k, k < xs.length → lateTo xs e (xs.length - k) = (lateTo xs e (xs.length - (k + 1))).set k (lateAt xs (lateTo xs e (xs.length - (k + 1))) k e)) := Lib.hid fun k hk => lateTo_step xs e hk
  have hBd : Hid (∀ d, d ≤ xs.length → Bnd (-1000000) 1000000 (lateTo xs e d)) := Lib.hid fun d hd => (lateTo_bound hf he0 d).mono (by have := hf.most; omega) (by omega)
  have hLen : Hid (∀ k, (lateTo xs e k).length = xs.length) := Lib.hid fun k => lateTo_length xs e k
  have hEnd : Hid (lateTo xs e (xs.length - 0) = late xs e) := Lib.hid rfl
  have h0 : Hid (lateTo xs e (xs.length - xs.length) = List.replicate xs.length 0) := Lib.hid (by rw [Nat.sub_self]; rfl)
  have hm : xs.length ≤ 16 := hf.most
  clear h hf
  generalize hn : xs.length = n at *
  have hN := Lib.hid hn
  clear hn
  unfold maxLen at hl
  go_enter Try.func63, Try.ntmps63
  go_wp2_with (at_make; refine wpList_make_full _ rfl _ _ _ rfl w.heap.size _ i0 (.int .i64 0) 1 Try.underlying30 hi hz0 hz1 _ _ _ _ n rfl rfl rfl rfl ?c1 ?c2 ?c3 ?_)
  case c1 => first | (rw [hz2]; omega) | omega
  case c2 => unfold maxLen; omega
  try case c3 => exact Nat.le_refl _
  intro w0 hown0 hg0
  have hB0 := Lib.hid (show Below w.heap.size w w0 from (Below.refl _ _).grown hg0 (Nat.le_refl _) (fun k hk => by cases hk))
  have hs0 : w.heap.size < w0.heap.size := (hown0.lt _ rfl).2
  have hO := Lib.hid (zeros_own' hown0)
  rw [← h0.out] at hO
  clear hown0 hg0 hz0 hz1 hz2 hi
  go_wp2_with fail
  refine (latestBy_any _ _ _ _ _ _ _ _).mono ?_
  rintro q w1 ⟨rfl, hb1, hsz1, k0, k1, k2⟩
  have hO1 := Lib.hid (ownsRow_kept hO.out hb1)
  have hB1 := Lib.hid (below_on hB0.out (Nat.le_refl _) hb1)
  clear hB0 hO hb1
  generalize hp : w0.heap.size = p at *
  have hK0 := Lib.hid k0
  have hK1 := Lib.hid k1
  have hK2 := Lib.hid k2
  clear k0 k1 k2 hp
  have hps : p + 3 ≤ w1.heap.size := by omega
  clear hsz1
  go_wp2_with fail
  go_loopw [7] (fun i wr => ∃ r : Nat, r ≤ n ∧ i = .int .i64 ((r : Int) - 1) ∧ Hid (wr.ownsRow w.heap.size 2 1 (.slice (some ⟨w.heap.size, 0, none⟩) n n) n ((lateTo xs e (n - r)).map (Value.int .i64))) ∧ Hid (Below w.heap.size w wr) ∧ p + 3 ≤ wr.heap.size ∧ Hid (wr.cell? ⟨p, 0, none⟩ = some (.slice a n cap)) ∧ Hid (wr.cell? ⟨p + 1, 0, none⟩ = some (.slice (some ⟨w.heap.size, 0, none⟩) n n)) ∧ Hid (wr.cell? ⟨p + 2, 0, none⟩ = some (.int .i64 e))) (fun i _ => (intOf i + 1).toNat)
  case atStart => exact ⟨n, Nat.le_refl _, rfl, hO1, hB1, hps, hK0, hK1, hK2⟩
  case round =>
    obtain ⟨r, hr, rfl, hO1, hB1, hs1, hK0, hK1, hK2⟩ := hrel
    cases r with
    | succ k =>
      rw [show ((k + 1 : Nat) : Int) - 1 = (k : Int) by omega]
      have hlt : k < n := hr
      have hQ := Lib.hid (latestFn_any wr.heap.size _ _ _ _ _ xs (lateTo xs e (n - (k + 1))) k e wr ((hLs.out.below hB1.out hB).mono (Nat.le_trans hB hB1.out.size)) (own_lstI hO1.out (by unfold maxLen; omega)) (Nat.le_refl _) hFt.out (by rw [hN.out]; exact hlt) (by rw [hLen.out, hN.out]; exact Nat.le_refl _) (hBd.out _ (by omega)) he0 he1 hK2.out hK0.out hK1.out (by show p + 2 < _; omega) (by show p < _; omega) (by show p + 1 < _; omega))
      have hS := Lib.hid (hStep.out k hlt)
      have hi1 : (k : Int) < n := by omega
      go_wp2_with fail
      refine (hQ.out).mono ?_
      rintro q w2 ⟨rfl, hb2⟩
      have hO2 := ownsRow_kept hO1.out hb2
      have hB2 := Lib.hid (below_on hB1.out (Nat.le_refl _) hb2)
      have hs2 : p + 3 ≤ w2.heap.size := Nat.le_trans hs1 hb2.size
      have hK3 := Lib.hid ((hb2.cell (p := ⟨p, 0, none⟩) (show p < _ by omega)).trans hK0.out)
      have hK4 := Lib.hid ((hb2.cell (p := ⟨p + 1, 0, none⟩) (show p + 1 < _ by omega)).trans hK1.out)
      have hK5 := Lib.hid ((hb2.cell (p := ⟨p + 2, 0, none⟩) (show p + 2 < _ by omega)).trans hK2.out)
      have hl2 : (lateTo xs e (n - (k + 1))).length = n := hLen.out _
      obtain ⟨u0, hdst⟩ : ∃ u, w2.cell? ⟨w.heap.size, k, none⟩ = some u := ⟨_, (hO2.cellAt k (by omega)).trans (List.getElem?_eq_getElem (by rw [List.length_map]; omega))⟩
      have hfr : w2.frozen? ⟨w.heap.size, k, none⟩ = false := hO2.frozenAt k
      have hst := hO2.stored k (.int .i64 (lateAt xs (lateTo xs e (n - (k + 1))) k e))
      rw [← List.map_set, ← hS.out] at hst
      have hO3 := Lib.hid hst.1
      have hB3 := Lib.hid (hB2.out.setCell (p := ⟨w.heap.size, k, none⟩) (Nat.le_refl _) (.int .i64 (lateAt xs (lateTo xs e (n - (k + 1))) k e)))
      have hs3 : p + 3 ≤ (w2.setCell ⟨w.heap.size, k, none⟩ (.int .i64 (lateAt xs (lateTo xs e (n - (k + 1))) k e))).heap.size := by simpa [World.setCell] using hs2
      have hK6 := Lib.hid (show (w2.setCell ⟨w.heap.size, k, none⟩ (.int .i64 (lateAt xs (lateTo xs e (n - (k + 1))) k e))).cell? ⟨p, 0, none⟩ = _ from (World.cell?_of_block (w := w2) (Below.heap_setCell w2 ⟨w.heap.size, k, none⟩ _ p (by show p ≠ w.heap.size; omega))).trans hK3.out)
      have hK7 := Lib.hid (show (w2.setCell ⟨w.heap.size, k, none⟩ (.int .i64 (lateAt xs (lateTo xs e (n - (k + 1))) k e))).cell? ⟨p + 1, 0, none⟩ = _ from (World.cell?_of_block (w := w2) (Below.heap_setCell w2 ⟨w.heap.size, k, none⟩ _ (p + 1) (by show p + 1 ≠ w.heap.size; omega))).trans hK4.out)
      have hK8 := Lib.hid (show (w2.setCell ⟨w.heap.size, k, none⟩ (.int .i64 (lateAt xs (lateTo xs e (n - (k + 1))) k e))).cell? ⟨p + 2, 0, none⟩ = _ from (World.cell?_of_block (w := w2) (Below.heap_setCell w2 ⟨w.heap.size, k, none⟩ _ (p + 2) (by show p + 2 ≠ w.heap.size; omega))).trans hK5.out)
      clear hst hO2 hl2 hQ hS hO1 hB1 hs1 hK0 hK1 hK2 hK3 hK4 hK5 hb2
      go_wp2_with fail
      go_roundw
      case rel => exact ⟨k, by omega, by go_num, hO3, hB3, by first | exact hs3 | simpa using hs3, hK6, hK7, hK8⟩
      case measure => first | (simp [intOf]; done) | (simp [intOf]; omega)
    | zero =>
      have hO3 := hO1.out
      rw [hEnd.out] at hO3
      have hO4 := Lib.hid (Own.new hO3 (by unfold maxLen; omega))
      clear hO3 hO1
      rw [show ((0 : Nat) : Int) - 1 = -1 by omega]
      go_wp2_with fail
      go_ret
      exact ⟨_, rfl, hO4.out, hB1.out⟩
end Go.Proofs.Ytlgojbbhjhifhaa
