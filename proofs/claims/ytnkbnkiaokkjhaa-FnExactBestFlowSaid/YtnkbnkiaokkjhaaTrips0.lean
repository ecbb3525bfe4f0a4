/- Contracts: the first order; how a team goes on to a place (a closure with four boxes). -/
import Derived.Test.YtnkbnkiaokkjhaaPost
import Derived.Test.YtnkbnkiaokkjhaaPairs
import Derived.StillTailTactics
namespace Go.Proofs.Ytnkbnkiaokkjhaa
open Go.RowKit Go.Lst

def countL (n : Nat) : List Int := List.map (fun i : Nat => (i : Int)) (List.range n)
theorem countL_length (n : Nat) : (countL n).length = n := by simp [countL]
theorem countL_get {n k : Nat} (h : k < n) : (countL n).getD k 0 = (k : Int) := by
  unfold countL
  rw [List.getD_eq_getElem?_getD, List.getElem?_map, List.getElem?_range h]; rfl
/-- k places told, noughts behind them. -/
def countTo (n k : Nat) : List Int := List.map (fun i : Nat => if i < k then (i : Int) else 0) (List.range n)
theorem countTo_zero (n : Nat) : countTo n 0 = List.replicate n 0 := by
  unfold countTo
  refine List.ext_getElem? fun i => ?_
  rw [List.getElem?_map, List.getElem?_replicate]
  by_cases h : i < n
  · rw [List.getElem?_range h, if_pos h]; rfl
  · rw [List.getElem?_eq_none (by simpa using h), if_neg h]; rfl
theorem countTo_length (n k : Nat) : (countTo n k).length = n := by simp [countTo]
theorem countTo_set {n k : Nat} (h : k < n) : (countTo n k).set k (k : Int) = countTo n (k + 1) := by
  refine List.ext_getElem? fun i => ?_
  by_cases e : k = i
  · subst e
    rw [List.getElem?_set_self (by rw [countTo_length]; exact h)]
    unfold countTo
    rw [List.getElem?_map, List.getElem?_range h]
    simp
  · rw [List.getElem?_set_ne e]
    unfold countTo
    rw [List.getElem?_map, List.getElem?_map]
    by_cases hi : i < n
    · rw [List.getElem?_range hi]
      simp only [Option.map_some]
      by_cases h1 : i < k
      · rw [if_pos h1, if_pos (by omega)]
      · rw [if_neg h1, if_neg (by omega)]
    · rw [List.getElem?_eq_none (by simpa using hi)]; rfl
theorem countTo_all (n : Nat) : countTo n n = countL n := by
  unfold countTo countL
  refine List.map_congr_left fun i hi => ?_
  rw [if_pos (List.mem_range.1 hi)]
theorem zeros_of {w0 : World} {B g n : Nat} (h : w0.ownsRow B 2 1 (.slice (some ⟨g, 0, none⟩) n n) n (madeCells (Value.int .i64 0).cells (n * 1)).toList) :
    w0.ownsRow B 2 1 (.slice (some ⟨g, 0, none⟩) n n) n ((countTo n 0).map (Value.int .i64)) := by
  rw [Nat.mul_one, show (Value.int .i64 0).cells = #[Value.int .i64 0] from rfl] at h
  rw [countTo_zero]
  exact zeros_row h
set_option maxHeartbeats 1000000 in
theorem firstOrder_any (n : Nat) (w : World) (hn1 : 1 ≤ n) (hn : n ≤ 480) : Calls Try.prog 49 #[.int .i64 n] w fun e w' => e = .returned (.slice (some ⟨w.heap.size, 0, none⟩) n n) ∧ w'.ownsRow w.heap.size 2 1 (.slice (some ⟨w.heap.size, 0, none⟩) n n) n ((countL n).map (Value.int .i64)) ∧ Below w.heap.size w w' := by
  obtain ⟨i0, hi, hz0, hz1, hz2⟩ := info_parts infoI
  have hSt : Hid (∀ k, k < n → (countTo n k).set k (k : Int) = countTo n (k + 1)) := Lib.hid fun k h => countTo_set h
  have hAll := Lib.hid (countTo_all n)
  have hLe := Lib.hid (countTo_length n)
  go_enter Try.func49, Try.ntmps49
  go_wp2_with (at_make; refine wpList_make_full _ rfl _ _ _ rfl w.heap.size _ i0 (.int .i64 0) 1 Try.underlying24 hi hz0 hz1 _ _ _ _ n rfl rfl rfl rfl (by rw [hz2]; omega) (by unfold maxLen; omega) (Nat.le_refl _) ?_; intro w6 hown6 hg6; have hO6 := Lib.hid (zeros_of hown6); have hB6 := Lib.hid ((Below.refl w.heap.size w).grown hg6 (Nat.le_refl _) (fun k hk => by cases hk)); clear hown6 hg6)
  generalize hgg : w.heap.size = g at *
  have hGG := Lib.hid hgg
  clear hgg
  go_loopw [9] (fun i wr => ∃ k : Nat, k ≤ n ∧ i = .int .i64 k ∧ Hid (wr.ownsRow g 2 1 (.slice (some ⟨g, 0, none⟩) n n) n ((countTo n k).map (Value.int .i64))) ∧ Hid (Below g w wr)) (fun i _ => n - (intOf i).toNat)
  case atStart => exact ⟨0, Nat.zero_le _, rfl, hO6, hB6⟩
  case round =>
    clear hO6 hB6
    obtain ⟨k, hk, rfl, hO, hBw⟩ := hrel
    by_cases hlt : k < n
    · have y5 : (k : Int) < (n : Int) := by omega
      have hcell := row_cell hO.out (k := k) (by rw [hLe.out]; exact hlt)
      have hfr : wr.frozen? ⟨g, k, none⟩ = false := hO.out.frozenAt k
      have hS1 := Lib.hid (hSt.out k hlt)
      go_wp2_with fail
      go_roundw
      case rel => exact ⟨k + 1, by omega, by go_num, Lib.hid (by rw [← hS1.out]; exact (row_set hO.out k _).1), Lib.hid (hBw.out.setCell (p := ⟨g, k, none⟩) (Nat.le_refl _) _)⟩
      case measure => simp [intOf]; omega
    · have hkn : k = n := by omega
      subst hkn
      have hO9 := hO.out
      rw [hAll.out] at hO9
      have hO10 := Lib.hid hO9
      clear hO9
      go_wp2_with fail
      go_ret
      rw [hGG.out]
      exact ⟨rfl, hO10.out, hBw.out⟩
end Go.Proofs.Ytnkbnkiaokkjhaa
