/- Contracts: jobs given to machines, the longest ones first; the program's and the model's, alike. -/
import Derived.Test.YtmnogipmpojoaaaPlaces
import Derived.Test.YtmnogipmpojoaaaPlan
import Derived.Test.YtmnogipmpojoaaaFillI
import Derived.Test.YtmnogipmpojoaaaInRows
namespace Go.Proofs.Ytmnogipmpojoaaa
open Go.RowKit Go.Lst Go.Plan Srt Go.Shelf

theorem row_openL {w : World} {A n : Nat} {e : TypeId} {v : Value} {cs : List Value} (h : w.ownsRow A e 1 v n cs) (hn : 1 ≤ n) : ∃ g cap, v = .slice (some ⟨g, 0, none⟩) n cap ∧ A ≤ g ∧ g < w.heap.size ∧ n ≤ cap ∧ cap ≤ maxLen := by
  have hlt := h.lt
  rcases h.2 with ⟨rfl, h0⟩ | ⟨g, cap, cur, rfl, hA, _, h1, h2, _⟩
  · omega
  · exact ⟨g, cap, rfl, hA, (hlt g rfl).2, by omega, h2⟩
theorem cells_map (n : Nat) (f : Nat → Int) : cellsF n f = ((List.range n).map f).map (Value.int .i64) := by
  unfold cellsF
  rw [List.map_map]; rfl
theorem cellsF_snoc (n : Nat) (f : Nat → Int) : cellsF (n + 1) f = cellsF n f ++ [.int .i64 (f n)] := by
  unfold cellsF
  rw [List.range_succ, List.map_append]; rfl
theorem ints_wf {z : Int} (h1 : -9223372036854775808 ≤ z) (h2 : z ≤ 9223372036854775807) : (Lit.int .i64 z).wf = true := by
  have e1 : IntKind.i64.min = -9223372036854775808 := rfl
  have e2 : IntKind.i64.max = 9223372036854775807 := rfl
  show (decide (IntKind.i64.min ≤ z) && decide (z ≤ IntKind.i64.max)) = true
  rw [e1, e2, decide_eq_true h1, decide_eq_true h2]; rfl
/-- The sorted places are an order. -/
theorem done_ord {lt : Int → Int → Bool} {n : Nat} {f : Nat → Int} (hT : Tot n lt) (h : Srt.Done lt n f) : isOrd ((List.range n).map f) n = true := by
  have hl : ((List.range n).map f).length = n := by simp
  unfold isOrd
  rw [hl, decide_eq_true rfl, Bool.true_and]
  refine (ordUpTo_iff _ _ n (by omega)).2 ⟨fun x hx => ?_, ?_⟩
  · rw [List.take_of_length_le (by omega)] at hx
    obtain ⟨k, hk, rfl⟩ := List.mem_map.1 hx
    have := h.1.low k (List.mem_range.1 hk)
    omega
  · rw [List.take_of_length_le (by omega), List.nodup_iff_pairwise_ne, List.pairwise_iff_getElem]
    intro i j hi hj hij e
    simp only [List.getElem_map, List.getElem_range] at e
    have := h.2.inj hT ⟨Nat.zero_le _, by omega⟩ ⟨Nat.zero_le _, by omega⟩ e
    omega
/-- The longest ones first. -/
def longK (ts : List Int) (x : Int) : Int := -(ts.getD x.toNat 0)
def longO (ts : List Int) : List Int := (List.range ts.length).map (Srt.insTo (ltK (longK ts)) ts.length)
theorem longO_done (ts : List Int) : Srt.Done (ltK (longK ts)) ts.length (Srt.insTo (ltK (longK ts)) ts.length) := Srt.insTo_done (totK _ _)
theorem longO_ord (ts : List Int) : isOrd (longO ts) ts.length = true := done_ord (totK _ _) (longO_done ts)
theorem longO_of {ts : List Int} {f : Nat → Int} (h : Srt.Done (ltK (longK ts)) ts.length f) : cellsF ts.length f = (longO ts).map (Value.int .i64) := by
  rw [h.one (totK _ _) (longO_done ts), cells_map]; rfl
theorem longO_len (ts : List Int) : (longO ts).length = ts.length := by simp [longO]
theorem longO_wf (ts : List Int) (hn : ts.length ≤ 1024) : ∀ x ∈ longO ts, (Lit.int .i64 x).wf = true := fun x hx => by
  obtain ⟨k, hk, rfl⟩ := List.mem_map.1 hx
  have h := (longO_done ts).1.low k (List.mem_range.1 hk)
  exact ints_wf (by omega) (by omega)
theorem planPost_from {ts o : List Int} {m : Int} {w w1 w' : World} {e : Ending} (hb : Below w.heap.size w w1) (h : PlanPost ts o m w1 e w') : PlanPost ts o m w e w' := by
  obtain ⟨v', he, ho, hb'⟩ := h
  exact ⟨v', he, ho.mono hb.size (Nat.le_refl _), below_on hb (Nat.le_refl _) hb'⟩
end Go.Proofs.Ytmnogipmpojoaaa
