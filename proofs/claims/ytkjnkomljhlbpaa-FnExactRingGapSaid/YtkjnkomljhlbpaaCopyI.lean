/- Contracts of the law's own functions on lists of int64: a copy of a list, cell by cell. -/
import Derived.Test.YtkjnkomljhlbpaaLst
import Derived.Test.YtkjnkomljhlbpaaBase
import Derived.LoopTactic
import Derived.OwnWalk
import Derived.Outline
namespace Go.Proofs.Ytkjnkomljhlbpaa
open Go.RowKit Go.Lst

theorem infoI : (Try.prog.info? 2).map (fun i => (i.zero, i.size, i.bytes)) = some (some (.int .i64 0), 1, 8) := by kernel_rfl

theorem copy_stepI {cs : List Value} {n k : Nat} (z u : Value) (hl : cs.length = n) (hk : k < n) (hu : cs[k]? = some u) :
    (cs.take k ++ List.replicate (n - k) z).set k u = cs.take (k + 1) ++ List.replicate (n - (k + 1)) z := by
  obtain ⟨m, hm⟩ : ∃ m, n - k = m + 1 := ⟨n - k - 1, by omega⟩
  rw [hm, show n - (k + 1) = m by omega, List.replicate_succ]
  have ht : (cs.take k).length = k := by rw [List.length_take]; omega
  rw [List.set_append_right _ _ (by omega), ht, Nat.sub_self, List.set_cons_zero, List.take_add_one, hu]
  simp

set_option maxHeartbeats 1000000 in
/-- The copy is new memory that holds the same. -/
theorem toInt64S_any (B : Nat) (v : Value) (xs : List Int) (w : World) (h : Lst B w v (xs.map (Value.int .i64))) (hB : B ≤ w.heap.size) (hlen : xs.length ≤ 1048576) :
    Calls Try.prog 7 #[v] w fun e w' => ∃ v', e = .returned v' ∧ w'.ownsRow w.heap.size 2 1 v' xs.length (xs.map (Value.int .i64)) ∧ Below w.heap.size w w' ∧ w.heap.size < w'.heap.size := by
  obtain ⟨a, cap, rfl, hl, hc⟩ := h
  obtain ⟨i0, hi, hz0, hz1, hz2⟩ := info_parts infoI
  rw [List.length_map] at hl ⊢
  have hLen : (xs.map (Value.int .i64)).length = xs.length := List.length_map ..
  generalize hn : xs.length = n at *
  unfold maxLen at hl
  have hN := Lib.hid hn
  have hL := Lib.hid hLen
  have hC := Lib.hid hc
  clear hn hLen hc
  go_enter Try.func7, Try.ntmps7
  go_wp2_with (at_make; refine wpList_make_full _ rfl _ _ _ rfl w.heap.size _ i0 (.int .i64 0) 1 Try.underlying23 hi hz0 hz1 _ _ _ _ n rfl rfl rfl rfl ?c1 ?c2 ?c3 ?_)
  case c1 => rw [hz2]; omega
  case c2 => unfold maxLen; omega
  case c3 => exact Nat.le_refl _
  intro w0 hown0 hg0
  have hb0 : Below w.heap.size w w0 := (Below.refl _ _).grown hg0 (Nat.le_refl _) (fun k hk => by cases hk)
  have hs0 : w.heap.size < w0.heap.size := (hown0.lt _ rfl).2
  have hown : w0.ownsRow w.heap.size 2 1 (.slice (some ⟨w.heap.size, 0, none⟩) n n) n ((xs.map (Value.int .i64)).take 0 ++ List.replicate (n - 0) (.int .i64 0)) := by
    rw [toList_madeCells_one] at hown0
    simpa using hown0
  clear hown0 hg0 hz0 hz1 hz2 hi
  have hB0 := Lib.hid hb0
  have hO := Lib.hid hown
  clear hb0 hown
  go_wp2
  go_loopw [4] (fun i wr => ∃ k : Nat, k ≤ n ∧ i = .int .i64 k ∧ Hid (wr.ownsRow w.heap.size 2 1 (.slice (some ⟨w.heap.size, 0, none⟩) n n) n ((xs.map (Value.int .i64)).take k ++ List.replicate (n - k) (.int .i64 0))) ∧ Hid (Below w.heap.size w wr) ∧ w.heap.size < wr.heap.size) (fun i _ => n - (intOf i).toNat)
  case atStart => exact ⟨0, Nat.zero_le _, rfl, hO, hB0, hs0⟩
  case round =>
    obtain ⟨k, hk, rfl, hO1, hB1, hs1⟩ := hrel
    by_cases hlt : k < n
    · have hne : xs.map (Value.int .i64) ≠ [] := by
        intro h0
        have := hL.out
        rw [h0] at this
        simp at this; omega
      obtain ⟨b, off, rfl, hbB, hcell⟩ := hC.out hne
      have hx : xs[k]? = some (xs[k]'(by have := hN.out; omega)) := List.getElem?_eq_getElem _
      generalize xs[k]'(by have := hN.out; omega) = x at *
      have hu : (xs.map (Value.int .i64))[k]? = some (.int .i64 x) := by rw [List.getElem?_map, hx]; rfl
      have hsrc : wr.cell? ⟨b, off + k, none⟩ = some (.int .i64 x) := by
        rw [hB1.out.cell (p := ⟨b, off + k, none⟩) (show b < w.heap.size by omega)]
        exact hcell k _ hu
      obtain ⟨u0, hdst⟩ : ∃ u, wr.cell? ⟨w.heap.size, k, none⟩ = some u := by
        have h1 := hO1.out.cellAt k (by omega)
        have h2 := hO1.out.1
        rw [Nat.mul_one] at h2
        rw [h1]
        exact ⟨_, List.getElem?_eq_getElem (by omega)⟩
      have hfr : wr.frozen? ⟨w.heap.size, k, none⟩ = false := hO1.out.frozenAt k
      have hst := hO1.out.stored k (.int .i64 x)
      rw [copy_stepI _ _ hL.out hlt hu] at hst
      have hO2 := Lib.hid hst.1
      have hB2 := Lib.hid (hB1.out.setCell (p := ⟨w.heap.size, k, none⟩) (Nat.le_refl _) (.int .i64 x))
      have hs2 : w.heap.size < (wr.setCell ⟨w.heap.size, k, none⟩ (.int .i64 x)).heap.size := by simpa [World.setCell] using hs1
      clear hst hu hx hcell hne hO1 hB1
      go_wp2
      go_roundw
      case rel => exact ⟨k + 1, by omega, by go_num, hO2, hB2, by first | exact hs2 | simpa using hs2⟩
      case measure => simp [intOf]; omega
    · have hkn : k = n := by omega
      have hO3 : wr.ownsRow w.heap.size 2 1 (.slice (some ⟨w.heap.size, 0, none⟩) n n) n (xs.map (Value.int .i64)) := by
        have h1 := hO1.out
        rw [hkn, Nat.sub_self, List.replicate_zero, List.append_nil, List.take_of_length_le (by have := hL.out; omega)] at h1
        exact h1
      have hO4 := Lib.hid hO3
      clear hO3 hkn hO1
      go_wp2
      go_ret
      exact ⟨_, rfl, hO4.out, hB1.out, hs1⟩
end Go.Proofs.Ytkjnkomljhlbpaa
