/- Contracts: slices.Clone and slices.Concat of int64. -/
import Derived.Test.YtnkbnkiaokkjhaaGrow
namespace Go.Proofs.Ytnkbnkiaokkjhaa
open Go.RowKit Go.Lst

def cat (xs : Nat → List Int) : Nat → List Int
  | 0 => []
  | k + 1 => cat xs k ++ xs k
theorem cells_ofG {B : Nat} {w : World} {v : Value} {xs : List Int} (h : LstI B w v xs) (h1 : 1 ≤ xs.length) : ∃ b o cap, v = .slice (some ⟨b, o, none⟩) xs.length cap ∧ b < B ∧ xs.length ≤ maxLen ∧ ∀ (k : Nat) (x : Int), xs[k]? = some x → w.cell? ⟨b, o + k, none⟩ = some (.int .i64 x) := by
  obtain ⟨a, cap, rfl, hl, _, _, hc⟩ := h.at_
  obtain ⟨b, o, x0, rfl, hb, _, _⟩ := hc 0 (by omega)
  refine ⟨b, o, cap, rfl, hb, hl, fun k x hx => ?_⟩
  have hk : k < xs.length := (List.getElem?_eq_some_iff.1 hx).1
  obtain ⟨b', o', x', he, _, hx', hcell⟩ := hc k hk
  injection he with he
  injection he with e1 e2 _
  subst e1 e2
  rw [hx] at hx'
  obtain rfl := Option.some.inj hx'
  exact hcell
theorem row_openG {w : World} {A n : Nat} {e : TypeId} {v : Value} {cs : List Value} (h : w.ownsRow A e 1 v n cs) (hn : 1 ≤ n) : ∃ g cap, v = .slice (some ⟨g, 0, none⟩) n cap ∧ A ≤ g := by
  rcases h.2 with ⟨_, h0⟩ | ⟨g, cap, cur, rfl, hAg, _⟩
  · omega
  · exact ⟨g, cap, rfl, hAg⟩
/-- Cells of a list, as an append reads them. -/
theorem src_cells {w : World} {b o : Nat} {xs : List Int} (h : ∀ (k : Nat) (x : Int), xs[k]? = some x → w.cell? ⟨b, o + k, none⟩ = some (.int .i64 x)) : ∀ j u, (xs.map (Value.int .i64))[j]? = some u → w.cell? ((⟨b, o, none⟩ : Addr).add j) = some u := fun j u hu => by
  rw [List.getElem?_map] at hu
  cases hx : xs[j]? with
  | none => rw [hx] at hu; cases hu
  | some x =>
    rw [hx] at hu
    obtain rfl : Value.int .i64 x = u := Option.some.inj hu
    rw [growG_addr]
    exact h j x hx

set_option maxHeartbeats 1000000 in
theorem cloneG_any (b o cap n : Nat) (xs : List Int) (w : World) (hb : b < w.heap.size) (hxn : xs.length = n) (h1 : 1 ≤ n) (hn : n ≤ 1048576) (hc : ∀ (k : Nat) (x : Int), xs[k]? = some x → w.cell? ⟨b, o + k, none⟩ = some (.int .i64 x)) :
    Calls Try.prog 27 #[.slice (some ⟨b, o, none⟩) n cap] w fun e w' => ∃ g c, e = .returned (.slice (some ⟨g, 0, none⟩) n c) ∧ w.heap.size ≤ g ∧ w'.ownsRow w.heap.size 2 1 (.slice (some ⟨g, 0, none⟩) n c) n (xs.map (Value.int .i64)) ∧ Below w.heap.size w w' := by
  have hB0 : Below w.heap.size w (w.alloc (Obj.cells #[] 2)) := below_alloc (Below.refl _ _) _
  have hO0 : (w.alloc (Obj.cells #[] 2)).ownsRow w.heap.size 2 1 (.slice (some ⟨w.heap.size, 0, none⟩) 0 0) 0 [] := World.ownsRow_lit w #[] 0 (Nat.le_refl _) (Nat.zero_le _) rfl
  have hsrc := src_cells (w := w.alloc (Obj.cells #[] 2)) (b := b) (o := o) (xs := xs) (fun k x hx => by rw [hB0.cell (p := ⟨b, o + k, none⟩) hb]; exact hc k x hx)
  have hle : w.heap.size ≤ (w.alloc (Obj.cells #[] 2)).heap.size := hB0.size
  have hone := ints_cellG xs
  have hlm : (xs.map (Value.int .i64)).length = n * 1 := by rw [List.length_map, Nat.mul_one, hxn]
  obtain ⟨i0, hi, hz0, hz1, hz2⟩ := info_parts infoI
  have hSrc := Lib.hid hsrc
  have hB0h := Lib.hid hB0
  have hnil : (binOp .eql 24 (.slice (some ⟨b, o, none⟩) n cap) (.slice none 0 0)).run Try.prog w = .ok (.bool false) w := by
    simp only [binOp]
    simp [run_equal_slice_nil w 24 2 (some ⟨b, o, none⟩) n cap Try.underlying24]
  clear hc hsrc hB0 hxn
  generalize xs.map (Value.int .i64) = cs at *
  go_enter Try.func27, Try.ntmps27
  go_wp2_with (at_builtin; refine wpList_append_own _ rfl _ _ _ rfl w.heap.size 2 i0 (.int .i64 0) 1 8 Try.underlying24 hi hz0 hz1 hz2 rfl (by decide) _ 0 _ rfl hO0 ⟨b, o, none⟩ n cap cs rfl hlm hSrc.out hone (by unfold maxLen; omega) (by omega) hle ?_; intro v8 w8 hown8 hgrow8 hnil8; have hO8 := Lib.hid hown8; have hB8 := Lib.hid (hB0h.out.grown hgrow8 hle (fun g hg => by cases hg; exact Nat.le_refl _)); clear hown8 hgrow8 hnil8)
  have hO9 := hO8.out
  rw [Nat.zero_add, List.nil_append] at hO9
  obtain ⟨g, c8, rfl, hg⟩ := row_openG hO9 h1
  have hO10 := Lib.hid hO9
  clear hO9 hO8
  go_ret
  exact ⟨g, c8, rfl, hg, hO10.out, hB8.out⟩
end Go.Proofs.Ytnkbnkiaokkjhaa
