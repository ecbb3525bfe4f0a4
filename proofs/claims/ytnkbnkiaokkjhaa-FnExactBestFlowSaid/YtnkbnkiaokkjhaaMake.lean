/- Words for rows that the call makes: numbers, all 0; a block that is one row; a list put into it. -/
import Derived.Test.YtnkbnkiaokkjhaaShopRows
import Derived.Laws.MakeOwn
import Derived.Laws.CopyOwn
namespace Go.Proofs.Ytnkbnkiaokkjhaa
open Go.RowKit Go.Lst

theorem make_ints (t : TypeId) (i : TypeInfo) (ht : Try.prog.underlying t = some (.slice 2)) (hi : Try.prog.info? 2 = some i) (hz : i.zero = some (.int .i64 0)) (h1 : i.size = 1) (h2 : i.bytes = 8) (n : Nat) (hn : n ≤ 65536) :
    ∀ w : World, (Instr.makeSlice t (.int .i64 (n : Int)) (.int .i64 (n : Int))).run Try.prog w = .ok (.slice (some ⟨w.heap.size, 0, none⟩) n n) (w.alloc (.cells (madeCells (Value.int .i64 0).cells n) 2)) := fun w => by
  have hb : (i.bytes : Int) * (n : Int) ≤ 281474976710656 := by rw [h2]; omega
  have hr := run_make (P := Try.prog) w t 2 i (.int .i64 0) ht hi hz .i64 .i64 n n (by omega) (by omega) hb (by omega)
  simp only [Int.toNat_natCast, h1, Nat.mul_one] at hr
  exact hr
theorem made_row (w : World) (n : Nat) (hn : n ≤ 65536) : (w.alloc (.cells (madeCells (Value.int .i64 0).cells n) 2)).ownsRow w.heap.size 2 1 (.slice (some ⟨w.heap.size, 0, none⟩) n n) n ((List.replicate n (0 : Int)).map (Value.int .i64)) := by
  have e : (madeCells (Value.int .i64 0).cells n).toList = (List.replicate n (0 : Int)).map (Value.int .i64) := by
    rw [List.map_replicate]; exact toList_madeCells_one _ _
  refine ⟨by simp, .inr ⟨w.heap.size, n, madeCells (Value.int .i64 0).cells n, rfl, Nat.le_refl _, Whole.made w _ _ rfl, Nat.le_refl _, by unfold maxLen; omega, ?_, ?_⟩⟩
  · have := congrArg List.length e
    simp at this
    rw [this, Nat.mul_one]
  · rw [e, Nat.mul_one, List.take_of_length_le (by simp)]

/-- A row of the call's own that fills its block, and another list put into it. -/
theorem own_block {w : World} {A e g n : Nat} {cs : List Value} (h : w.ownsRow A e 1 (.slice (some ⟨g, 0, none⟩) n n) n cs) : w.heap[g]? = some (.cells cs.toArray e (0, 0)) := by
  rcases h.2 with ⟨h', _⟩ | ⟨g', cap, cur, hv, _, hg, _, _, hs, ht⟩
  · cases h'
  · injection hv with e1 e2 e3
    injection e1 with e1
    injection e1 with e1 _ _
    subst e1 e3
    rw [Nat.mul_one] at hs ht
    rw [List.take_of_length_le (by simp [hs])] at ht
    rw [hg, ← ht]
theorem own_setRow {w : World} {A e g n : Nat} {cs cs' : List Value} (h : w.ownsRow A e 1 (.slice (some ⟨g, 0, none⟩) n n) n cs) (hl : cs'.length = n) (hA : A ≤ g) (hn : n ≤ maxLen) :
    (w.setRow g cs'.toArray).ownsRow A e 1 (.slice (some ⟨g, 0, none⟩) n n) n cs' ∧ w.grownBy (w.setRow g cs'.toArray) (some g) := by
  refine ⟨⟨by omega, .inr ⟨g, n, cs'.toArray, rfl, hA, setRow_heap w g _ _ e _ (own_block h), Nat.le_refl _, hn, by simp [hl], by rw [Nat.mul_one]; exact List.take_of_length_le (by simp; omega)⟩⟩, ⟨rfl, rfl, rfl, by simp [World.setRow], fun i _ hne => setRow_other w g i _ (fun he => hne (by rw [he]))⟩⟩
theorem ints_one (xs : List Int) : ∀ v ∈ xs.map (Value.int .i64), v.oneCell' = true := fun v hv => by
  obtain ⟨x, _, rfl⟩ := List.mem_map.1 hv
  rfl
theorem row_src {w : World} {A g n cap : Nat} {e : TypeId} {xs : List Int} (h : w.ownsRow A e 1 (.slice (some ⟨g, 0, none⟩) n cap) n (xs.map (Value.int .i64))) : ∀ j v, (xs.map (Value.int .i64))[j]? = some v → w.cell? ((⟨g, 0, none⟩ : Addr).add j) = some v := fun j v hv => by
  have hl := h.1
  have hj : j < (xs.map (Value.int .i64)).length := (List.getElem?_eq_some_iff.1 hv).1
  have e : (⟨g, 0, none⟩ : Addr).add j = ⟨g, j, none⟩ := by unfold Addr.add; split <;> simp_all
  rw [e]
  exact (h.cellAt j (by omega)).trans hv
theorem alloc_size (w : World) (o : Obj) : (w.alloc o).heap.size = w.heap.size + 1 := by simp
end Go.Proofs.Ytnkbnkiaokkjhaa
