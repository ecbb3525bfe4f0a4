/- The best order of jobs with releases: the model's walk. No condition. -/
import Derived.Test.YtnkbnkiaokkjhaaPermSpec
import Derived.Test.YtnkbnkiaokkjhaaPermSeq
import Derived.Test.YtnkbnkiaokkjhaaFillI
namespace Go.Proofs.Ytnkbnkiaokkjhaa
open Go.RowKit Go.Lst Go.Plan

theorem total_some {n : Nat} : ∀ m, itF n m = none → ∃ T, TotalF n T
  | 0, h => by cases h
  | m + 1, h => by
    cases hm : itF n m with
    | none => exact total_some m hm
    | some f => exact ⟨m + 1, itF_total (by rw [hm]; rfl) h⟩
theorem total_is {n : Nat} (hn : 1 ≤ n) : ∃ T, TotalF n T := by
  refine total_some (n ^ n) ?_
  cases h : itF n (n ^ n) with
  | none => rfl
  | some f =>
    have h1 := itF_val hn h
    have h2 := ordF_val (itF_ord hn h)
    omega
/-- What a search over all orders answers. -/
def PermPost (n : Nat) (cs : Nat → Int) (w : World) (e : Ending) (w' : World) : Prop := ∃ T b g c, TotalF n T ∧ leastG cs (List.range T) = some b ∧ e = .returned (.tuple #[.slice (some ⟨g, 0, none⟩) n c, .int .i64 (cs b), .bool true]) ∧
  w'.ownsRow w.heap.size 2 1 (.slice (some ⟨g, 0, none⟩) n c) n ((rowAt n b).map (Value.int .i64)) ∧ Below w.heap.size w w'
theorem least_next (cs : Nat → Int) (k b : Nat) (h : leastG cs (List.range k) = some b) : leastG cs (List.range (k + 1)) = some (if cs k < cs b then k else b) := by
  rw [List.range_succ, leastG_snoc, h]
theorem src_row {W : World} {A g n c : Nat} {cs : List Value} (h : W.ownsRow A 2 1 (.slice (some ⟨g, 0, none⟩) n c) n cs) (o : Obj) : ∀ j u, cs[j]? = some u → (W.alloc o).cell? ((⟨g, 0, none⟩ : Addr).add j) = some u := (h.alloc o).cells (g := g) rfl
theorem one_cells (n : Nat) (f : Nat → Int) : ∀ u ∈ cellsF n f, u.oneCell' = true := fun u hu => by
  unfold cellsF at hu
  obtain ⟨q, _, rfl⟩ := List.mem_map.1 hu
  rfl
set_option maxHeartbeats 4000000 in
theorem l02Count_any (n : Nat) (w : World) (hn1 : 1 ≤ n) (hn : n ≤ 1000) : Calls Try.prog 19 #[.int .i64 n] w fun e w' => ∃ g c, e = .returned (.slice (some ⟨g, 0, none⟩) n c) ∧ w'.ownsRow w.heap.size 2 1 (.slice (some ⟨g, 0, none⟩) n c) n (cellsF n fun q => (q : Int)) ∧ Below w.heap.size w w' := by
  have hB0 := Lib.hid (below_alloc (Below.refl w.heap.size w) (Obj.cells #[] 2))
  have hO0 := Lib.hid (show (w.alloc (Obj.cells #[] 2)).ownsRow w.heap.size 2 1 (.slice (some ⟨w.heap.size, 0, none⟩) 0 0) 0 (cellsF 0 fun q => (q : Int)) from World.ownsRow_lit w #[] 0 (Nat.le_refl _) (Nat.zero_le _) rfl)
  have hSn : Hid (∀ k, cellsF (k + 1) (fun q => (q : Int)) = cellsF k (fun q => (q : Int)) ++ [.int .i64 (k : Int)]) := Lib.hid fun k => by unfold cellsF; rw [List.range_succ, List.map_append]; rfl
  obtain ⟨i0, hi, hz0, hz1, hz2⟩ := info_parts infoI
  go_enter Try.func19, Try.ntmps19
  go_wp2_with fail
  generalize w.alloc (Obj.cells #[] 2) = w1 at *
  go_loopw [3, 4] (fun v iv wr => ∃ k : Nat, k ≤ n ∧ iv = .int .i64 (k : Nat) ∧ Hid (wr.ownsRow w.heap.size 2 1 v k (cellsF k fun q => (q : Int))) ∧ Hid (Below w.heap.size w wr)) (fun _ iv _ => n - (intOf iv).toNat)
  case atStart => exact ⟨0, Nat.zero_le _, rfl, hO0, hB0⟩
  case round =>
    obtain ⟨k, hk, rfl, hO, hB⟩ := hrel
    by_cases hlt : k < n
    · have h1 : (k : Int) < (n : Int) := by omega
      go_wp2_with (at_builtin; refine wpList_append_own _ rfl _ _ _ rfl w.heap.size 2 i0 (.int .i64 0) 1 8 Try.underlying24 hi hz0 hz1 hz2 rfl (by decide) _ k _ rfl (hO.out.alloc _) ⟨wr.heap.size, 0, none⟩ 1 1 [.int .i64 (k : Int)] rfl rfl (news1 wr _ _) (one_int _) (by unfold maxLen; omega) (by omega) (by rw [World.size_alloc]; have := hB.out.size; omega) ?_; intro v8 w8 hown8 hgrow8 hnil8; have hB8 := Lib.hid ((hB.out.alloc hB.out.size (.cells #[.int .i64 (k : Int)] 2)).grown hgrow8 (by rw [World.size_alloc]; have := hB.out.size; omega) (fun g hg => (hO.out.lt g hg).1)); have hO8 := Lib.hid (show w8.ownsRow w.heap.size 2 1 v8 (k + 1) (cellsF (k + 1) fun q => (q : Int)) by rw [hSn.out]; exact hown8); clear hown8 hgrow8 hnil8)
      go_roundw
      case rel => exact ⟨k + 1, by omega, by go_num, hO8, hB8⟩
      case measure => simp [intOf]; omega
    · obtain rfl : k = n := by omega
      have h1 : ¬ (k : Int) < (k : Int) := by omega
      obtain ⟨g, c, rfl, _⟩ := row_openG hO.out hn1
      go_wp2_with fail
      go_ret
      exact ⟨g, c, rfl, hO.out, hB.out⟩
end Go.Proofs.Ytnkbnkiaokkjhaa
