/- Contracts: the times of blocks, in the program. -/
import Derived.Test.YtnmecfibfajbnaaBlkPure
import Derived.Test.YtnmecfibfajbnaaArcs
import Derived.Test.YtnmecfibfajbnaaShopRows
import Derived.Lib.OwnKind
namespace Go.Proofs.Ytnmecfibfajbnaa
open Go.RowKit Go.Lst

/-- Rows of numbers, each in a block of its own. -/
def Rows (C n : Nat) (f : Nat → List Int) (w : World) (cs : List Value) (i : Nat) : Prop := cs.length = i ∧ ∀ j, j < i → ∃ g c, cs[j]? = some (.slice (some ⟨g, 0, none⟩) n c) ∧ w.ownsRow C 2 1 (.slice (some ⟨g, 0, none⟩) n c) n ((f j).map (Value.int .i64))
theorem Rows.put {C n i : Nat} {f : Nat → List Int} {w : World} {cs : List Value} (h : Rows C n f w cs i) {a : Addr} (ha : a.block < C) (u : Value) : Rows C n f (w.setCell a u) cs i := ⟨h.1, fun j hj => by
  obtain ⟨g, c, h1, h2⟩ := h.2 j hj
  exact ⟨g, c, h1, ownsRow_setCell_below h2 ha u⟩⟩
theorem Rows.kept {C n i : Nat} {f : Nat → List Int} {w w' : World} {cs : List Value} (h : Rows C n f w cs i) (hb : Below w.heap.size w w') : Rows C n f w' cs i := ⟨h.1, fun j hj => by
  obtain ⟨g, c, h1, h2⟩ := h.2 j hj
  exact ⟨g, c, h1, ownsRow_kept h2 hb⟩⟩
theorem Rows.alloc {C n i : Nat} {f : Nat → List Int} {w : World} {cs : List Value} (h : Rows C n f w cs i) (o : Obj) : Rows C n f (w.alloc o) cs i := ⟨h.1, fun j hj => by
  obtain ⟨g, c, h1, h2⟩ := h.2 j hj
  exact ⟨g, c, h1, h2.alloc o⟩⟩
theorem Rows.beside {C D n i k : Nat} {f : Nat → List Int} {w w' : World} {cs us : List Value} {tv : Value} (h : Rows C n f w cs i) (hO : w.ownsRow D 23 1 tv k us) (hg : w.grownBy w' tv.ownBlock) : Rows C n f w' cs i := ⟨h.1, fun j hj => by
  obtain ⟨g, c, h1, h2⟩ := h.2 j hj
  refine ⟨g, c, h1, h2.kept hg (.inr fun he => ?_)⟩
  obtain ⟨c1, z1, e1⟩ := Lib.ownsRow_kind h2 g rfl
  obtain ⟨c2, z2, e2⟩ := Lib.ownsRow_kind hO g (by rw [← he]; rfl)
  rw [e1] at e2
  injection e2 with e2
  injection e2 with _ e3 _
  exact absurd e3 (by decide)⟩
theorem Rows.more {C n i g c : Nat} {f : Nat → List Int} {w : World} {cs : List Value} (h : Rows C n f w cs i) (h2 : w.ownsRow C 2 1 (.slice (some ⟨g, 0, none⟩) n c) n ((f i).map (Value.int .i64))) : Rows C n f w (cs ++ [.slice (some ⟨g, 0, none⟩) n c]) (i + 1) := by
  refine ⟨by rw [List.length_append, h.1]; rfl, fun j hj => ?_⟩
  by_cases hji : j < i
  · obtain ⟨g', c', h1, h3⟩ := h.2 j hji
    exact ⟨g', c', by rw [List.getElem?_append_left (by rw [h.1]; exact hji)]; exact h1, h3⟩
  · obtain rfl : j = i := by omega
    exact ⟨g, c, by rw [List.getElem?_append_right (by rw [h.1]; exact Nat.le_refl _), h.1, Nat.sub_self]; rfl, h2⟩
theorem Rows.cells {C n i k b : Nat} {f : Nat → List Int} {w : World} {cs : List Value} {D cap : Nat} (h : Rows C n f w cs i) (hl : ∀ j, (f j).length = n) (hO : w.ownsRow D 23 1 (.slice (some ⟨b, 0, none⟩) k cap) k cs) (hk : k = i) :
    ∀ j, j < k → ∃ bi oi ci, w.cell? ⟨b, 0 + j, none⟩ = some (.slice (some ⟨bi, oi, none⟩) (f j).length ci) ∧ bi < w.heap.size ∧ ∀ (z : Nat) (x : Int), (f j)[z]? = some x → w.cell? ⟨bi, oi + z, none⟩ = some (.int .i64 x) := fun j hj => by
  obtain ⟨g, c, h1, h2⟩ := h.2 j (by omega)
  refine ⟨g, 0, c, ?_, (h2.lt g rfl).2, fun z x hz => ?_⟩
  · rw [Nat.zero_add, hO.cellAt j (by omega), hl]; exact h1
  · rw [Nat.zero_add]
    have hzl : z < n := by rw [← hl j]; exact (List.getElem?_eq_some_iff.1 hz).1
    rw [h2.cellAt z (by omega), List.getElem?_map, hz]; rfl

set_option maxHeartbeats 1000000 in
theorem cellsOf_any (b n cap : Nat) (xs : Nat → List Int) (w : World) (hb : b < w.heap.size) (hn : 1 ≤ n) (hn2 : n ≤ 1000)
    (hrow : ∀ i, i < n → ∃ bi oi ci, w.cell? ⟨b, 0 + i, none⟩ = some (.slice (some ⟨bi, oi, none⟩) (xs i).length ci) ∧ bi < w.heap.size ∧ ∀ (j : Nat) (x : Int), (xs i)[j]? = some x → w.cell? ⟨bi, oi + j, none⟩ = some (.int .i64 x))
    (hpos : ∀ i, i < n → 1 ≤ (xs i).length ∧ (xs i).length ≤ 1000) :
    Calls Try.prog 62 #[.slice (some ⟨b, 0, none⟩) n cap] w fun e w' => ∃ v', e = .returned v' ∧ w'.ownsRow w.heap.size 2 1 v' (cat xs n).length ((cat xs n).map (Value.int .i64)) ∧ Below w.heap.size w w' := by
  have hC := Lib.hid (concat_any b 0 n cap xs w hb hn hn2 hrow hpos)
  clear hrow hpos
  generalize (cat xs n).length = L at *
  generalize (cat xs n).map (Value.int .i64) = us at *
  go_enter Try.func62, Try.ntmps62
  go_wp2_with (go_at_call 73; (with_reducible refine (hC.out).mono ?_); rintro e w' ⟨v', rfl, ho, hb'⟩; have hO := Lib.hid ho; have hB := Lib.hid hb'; clear ho hb')
  go_ret
  exact ⟨_, rfl, hO.out, hB.out⟩
end Go.Proofs.Ytnmecfibfajbnaa
