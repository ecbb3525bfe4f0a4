/- A row of places that is sorted in its place, and what is asked of the comparison. -/
import Derived.Test.YtnkbnkiaokkjhaaSortPure
import Derived.Test.YtnkbnkiaokkjhaaOwn
import Derived.Test.YtnkbnkiaokkjhaaInts
import Derived.Test.YtnkbnkiaokkjhaaNear
namespace Go.Proofs.Ytnkbnkiaokkjhaa
open Go.RowKit Go.Lst Srt

def cellsF (n : Nat) (f : Nat → Int) : List Value := (List.range n).map fun k => Value.int .i64 (f k)
theorem cellsF_length (n : Nat) (f : Nat → Int) : (cellsF n f).length = n := by simp [cellsF]
theorem cellsF_at {n k : Nat} (f : Nat → Int) (h : k < n) : (cellsF n f)[k]? = some (.int .i64 (f k)) := by
  unfold cellsF
  rw [List.getElem?_map, List.getElem?_range h]; rfl
theorem cellsF_set (n k : Nat) (f : Nat → Int) (v : Int) : (cellsF n f).set k (.int .i64 v) = cellsF n (upd f k v) := by
  refine List.ext_getElem? fun i => ?_
  by_cases hi : i < n
  · rw [cellsF_at _ hi]
    unfold upd
    by_cases e : k = i
    · subst e
      rw [List.getElem?_set_self (by rw [cellsF_length]; exact hi), if_pos rfl]
    · rw [List.getElem?_set_ne e, cellsF_at _ hi, if_neg (fun h => e h.symm)]
  · rw [List.getElem?_eq_none (by rw [List.length_set, cellsF_length]; omega), List.getElem?_eq_none (by rw [cellsF_length]; omega)]
theorem cellsF_congr {n : Nat} {f g : Nat → Int} (h : ∀ k, k < n → f k = g k) : cellsF n f = cellsF n g := by
  unfold cellsF
  refine List.map_congr_left fun k hk => ?_
  rw [h k (List.mem_range.1 hk)]
/-- The row f lies in the block g, and all else that lay in W0 lies there still. -/
structure Row (A g n c : Nat) (W0 w : World) (f : Nat → Int) : Prop where
  own : w.ownsRow A 2 1 (.slice (some ⟨g, 0, none⟩) n c) n (cellsF n f)
  kept : W0.grownBy w (some g)
theorem Row.cell {A g n c : Nat} {W0 w : World} {f : Nat → Int} (h : Row A g n c W0 w f) {k : Nat} (hk : k < n) : w.cell? ⟨g, k, none⟩ = some (.int .i64 (f k)) := (h.own.cellAt k (by omega)).trans (cellsF_at f hk)
theorem Row.frozen {A g n c : Nat} {W0 w : World} {f : Nat → Int} (h : Row A g n c W0 w f) (k : Nat) : w.frozen? ⟨g, k, none⟩ = false := h.own.frozenAt k
theorem Row.set {A g n c : Nat} {W0 w : World} {f : Nat → Int} (h : Row A g n c W0 w f) (k : Nat) (v : Int) : Row A g n c W0 (w.setCell ⟨g, k, none⟩ (.int .i64 v)) (upd f k v) := by
  have hs := h.own.stored k (.int .i64 v)
  rw [cellsF_set] at hs
  exact ⟨hs.1, grown_on h.kept hs.2⟩
theorem Row.below {A g n c : Nat} {W0 w w' : World} {f : Nat → Int} (h : Row A g n c W0 w f) (hb : Below w.heap.size w w') : Row A g n c W0 w' f :=
  ⟨ownsRow_kept h.own hb, grown_on h.kept ⟨hb.os, hb.tape, hb.output, hb.size, fun k hk _ => hb.block k hk⟩⟩
theorem Row.drewN {A g n c : Nat} {W0 w : World} {f : Nat → Int} (h : Row A g n c W0 w f) (m : Nat) : Row A g n c W0 (w.drewN m) f := h.below (Lst.Below.drewN (Below.refl _ _) m)
theorem Row.drew {A g n c : Nat} {W0 w : World} {f : Nat → Int} (h : Row A g n c W0 w f) : Row A g n c W0 w.drew f := h.drewN 1
/-- Two places put for one another, as the program does it. -/
theorem Row.swap {A g n c : Nat} {W0 w : World} {f : Nat → Int} (h : Row A g n c W0 w f) (i j : Nat) : Row A g n c W0 (((w.setCell ⟨g, i, none⟩ (.int .i64 (f j))).setCell ⟨g, j, none⟩ (.int .i64 (f i))).drew) (Srt.swap f i j) := by
  rw [← swap_upd]
  exact ((h.set i (f j)).set j (f i)).drew
/-- The comparison of a place with an earlier one tells by its sign whether it comes first. -/
structure Cmp (F : Nat) (lb : Array Value) (g n : Nat) (W0 : World) (sg : Int → Int → Int) (lt : Int → Int → Bool) : Prop where
  enter : ∀ args w, (callFunc F args).run Try.prog w = .ok (.enter F args) w
  says : ∀ w, W0.grownBy w (some g) → ∀ x y : Int, 0 ≤ x → x < y → y < n → Calls Try.prog F (#[.int .i64 y, .int .i64 x] ++ lb) w fun e w' => e = .returned (.int .i64 (sg y x)) ∧ Below w.heap.size w w'
  sign : ∀ x y : Int, 0 ≤ x → x < y → y < n → decide (sg y x < 0) = lt y x
end Go.Proofs.Ytnkbnkiaokkjhaa
