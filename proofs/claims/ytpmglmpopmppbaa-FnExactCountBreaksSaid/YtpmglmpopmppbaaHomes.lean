/- Contracts: which teams are at home. -/
import Derived.Test.YtpmglmpopmppbaaRoundsRun
import Derived.Test.YtpmglmpopmppbaaBools
import Derived.Test.YtpmglmpopmppbaaPost
namespace Go.Proofs.Ytpmglmpopmppbaa
open Go.RowKit Go.Lst

def homePos (t : Nat) (xs : List Int) (i : Nat) : Nat := i / t * t + (xs.getD i 0).toNat
def homesTo (t : Nat) (xs : List Int) : Nat → List Bool
  | 0 => List.replicate xs.length false
  | k + 1 => if k % 2 = 0 then (homesTo t xs k).set (homePos t xs k) true else homesTo t xs k
theorem homesTo_length (t : Nat) (xs : List Int) : ∀ k, (homesTo t xs k).length = xs.length
  | 0 => by simp [homesTo]
  | k + 1 => by
    unfold homesTo
    split
    · rw [List.length_set]; exact homesTo_length t xs k
    · exact homesTo_length t xs k
theorem homes_free {t : Nat} {xs : List Int} {p : Nat} : ∀ k, (∀ j, j < k → homePos t xs j ≠ p) → (homesTo t xs k).getD p false = false
  | 0, _ => by
    unfold homesTo
    rw [List.getD_eq_getElem?_getD, List.getElem?_replicate]
    split <;> rfl
  | k + 1, h => by
    have ih := homes_free k (fun j hj => h j (by omega))
    unfold homesTo
    split
    · rw [List.getD_eq_getElem?_getD, List.getElem?_set_ne (h k (Nat.lt_succ_self k)), ← List.getD_eq_getElem?_getD]; exact ih
    · exact ih
theorem gamesTo_at {t : Nat} {xs : List Int} {n k : Nat} (h : gamesTo t xs n = true) (hk : k < n) : gameAt t xs k = true := by
  unfold gamesTo at h
  exact List.all_eq_true.1 h k (List.mem_range.2 hk)
theorem game_in {t : Nat} {xs : List Int} {k : Nat} (h : gameAt t xs k = true) : 0 ≤ xs.getD k 0 ∧ xs.getD k 0 < t := by
  unfold gameAt inB at h
  simp only [Bool.and_eq_true, decide_eq_true_eq] at h
  omega
theorem homePos_ne {t n : Nat} {xs : List Int} (ht : 0 < t) (hg : gamesTo t xs n = true) (hn : n ≤ xs.length) {j k : Nat} (hj : j < k) (hk : k < n) : homePos t xs j ≠ homePos t xs k := fun he => by
  have g1 := game_in (gamesTo_at hg (show j < n by omega))
  have g2 := game_in (gamesTo_at hg hk)
  have hc := gamesTo_at hg hk
  unfold homePos at he
  have d1 : (j / t * t + (xs.getD j 0).toNat) / t = j / t := by rw [Nat.mul_comm, Nat.mul_add_div ht, Nat.div_eq_of_lt (show (xs.getD j 0).toNat < t by omega), Nat.add_zero]
  have d2 : (k / t * t + (xs.getD k 0).toNat) / t = k / t := by rw [Nat.mul_comm, Nat.mul_add_div ht, Nat.div_eq_of_lt (show (xs.getD k 0).toNat < t by omega), Nat.add_zero]
  have hd : j / t = k / t := by rw [← d1, he, d2]
  rw [hd] at he
  have hx : xs.getD j 0 = xs.getD k 0 := by omega
  have hle : k / t * t ≤ j := by rw [← hd]; exact Nat.div_mul_le_self j t
  unfold gameAt at hc
  simp only [Bool.and_eq_true, Bool.not_eq_true'] at hc
  have hm : xs.getD k 0 ∈ (xs.drop (k / t * t)).take (k - k / t * t) := by
    rw [← hx, List.mem_iff_getElem?]
    refine ⟨j - k / t * t, ?_⟩
    rw [List.getElem?_take, if_pos (by omega), List.getElem?_drop, show k / t * t + (j - k / t * t) = j by omega, List.getD_eq_getElem?_getD, List.getElem?_eq_getElem (by omega)]
    rfl
  have := List.contains_iff_mem.2 hm
  rw [hc.2] at this
  cases this
theorem set_false {l : List Bool} {p : Nat} (h : l.getD p false = false) : l.set p false = l := by
  refine List.ext_getElem? fun i => ?_
  by_cases e : p = i
  · subst e
    by_cases hp : p < l.length
    · rw [List.getElem?_set_self hp]
      rw [List.getD_eq_getElem?_getD, List.getElem?_eq_getElem hp] at h
      rw [List.getElem?_eq_getElem hp]
      rw [show l[p] = false from h]
    · rw [List.getElem?_eq_none (by rw [List.length_set]; omega), List.getElem?_eq_none (by omega)]
  · rw [List.getElem?_set_ne e]
theorem homes_step {t n : Nat} {xs : List Int} (ht : 0 < t) (hg : gamesTo t xs n = true) (hn : n ≤ xs.length) {k : Nat} (hk : k < n) : homesTo t xs (k + 1) = (homesTo t xs k).set (homePos t xs k) (decide (k % 2 = 0)) := by
  show (if k % 2 = 0 then _ else _) = _
  split
  · rename_i h; rw [decide_eq_true h]
  · rename_i h
    rw [decide_eq_false h, set_false (homes_free k fun j hj => homePos_ne ht hg hn hj hk)]
theorem homes_two {t : Nat} {xs : List Int} {k : Nat} (hk : k % 2 = 0) : homesTo t xs (k + 2) = (homesTo t xs k).set (homePos t xs k) true := by
  show (if (k + 1) % 2 = 0 then _ else _) = _
  rw [if_neg (by omega)]
  show (if k % 2 = 0 then _ else _) = _
  rw [if_pos hk]
theorem homePos_lt {t r : Nat} {xs : List Int} (ht : 0 < t) (hn : xs.length = r * t) (hg : gamesTo t xs xs.length = true) {k : Nat} (hk : k < xs.length) : homePos t xs k < xs.length := by
  have g := game_in (gamesTo_at hg hk)
  have hq : k / t < r := Nat.div_lt_of_lt_mul (by rw [Nat.mul_comm, ← hn]; exact hk)
  have := Nat.mul_le_mul_right t (show k / t + 1 ≤ r from hq)
  rw [Nat.add_mul, Nat.one_mul] at this
  unfold homePos
  omega
/-- What a list of rounds says of its games. -/
theorem rounds_games {t r : Nat} {xs : List Int} (t1 : 2 ≤ t) (t2 : t ≤ 16) (hn : xs.length = r * t) (hr : rowsIn t xs r = true) : gamesTo t xs xs.length = true := by
  rw [hn, rows_eq (by omega) (by omega) hn r (Nat.le_refl _)]; exact hr
def homesL (T : Int) (xs : List Int) : List Bool := if roundsOk T xs then homesTo T.toNat xs xs.length else []
def HomesPost (r : List Bool) (ok : Bool) (w : World) (e : Ending) (w' : World) : Prop :=
  ∃ v', e = .returned (.tuple #[v', .bool ok]) ∧ Lst.Own w.heap.size w'.heap.size w' v' 4 1 r.length (r.map Value.bool) ∧ Below w.heap.size w w'
theorem homes_no {r : List Bool} {ok : Bool} {w w' : World} (h1 : r = []) (h2 : ok = false) (hb : Below w.heap.size w w') : HomesPost r ok w (.returned (.tuple #[.slice none 0 0, .bool false])) w' := by
  subst h1 h2
  exact ⟨_, rfl, own_nil, hb⟩
theorem homes_yes {r : List Bool} {ok : Bool} {v : Value} {w w' : World} {A n : Nat} (h2 : ok = true) (hA : w.heap.size ≤ A) (hn : r.length = n) (ho : w'.ownsRow A 4 1 v n (r.map Value.bool)) (hm : n ≤ 1048576) (hb : Below w.heap.size w w') : HomesPost r ok w (.returned (.tuple #[v, .bool true])) w' := by
  subst h2 hn
  exact ⟨_, rfl, (Own.new ho (by unfold maxLen; omega)).mono hA (Nat.le_refl _), hb⟩
theorem homeBit {w : World} {A g n cap : Nat} {e : TypeId} {bs : List Bool} (h : w.ownsRow A e 1 (.slice (some ⟨g, 0, none⟩) n cap) n (bs.map Value.bool)) (hl : bs.length = n) {k : Nat} (hk : k < n) : w.cell? ⟨g, k, none⟩ = some (.bool (bs.getD k false)) := by
  rw [h.cellAt k (by omega), List.getElem?_map, List.getElem?_eq_getElem (by omega), List.getD_eq_getElem?_getD, List.getElem?_eq_getElem (by omega)]; rfl
theorem homeSet {w : World} {A g n cap : Nat} {e : TypeId} {bs : List Bool} (h : w.ownsRow A e 1 (.slice (some ⟨g, 0, none⟩) n cap) n (bs.map Value.bool)) (k : Nat) (x : Bool) : (w.setCell ⟨g, k, none⟩ (.bool x)).ownsRow A e 1 (.slice (some ⟨g, 0, none⟩) n cap) n ((bs.set k x).map Value.bool) := by
  have := (h.stored k (.bool x)).1
  rwa [← List.map_set] at this
theorem homes0 {w0 : World} {B g n : Nat} (h : w0.ownsRow B 4 1 (.slice (some ⟨g, 0, none⟩) n n) n (madeCells (Value.bool false).cells (n * 1)).toList) :
    w0.ownsRow B 4 1 (.slice (some ⟨g, 0, none⟩) n n) n ((List.replicate n false).map Value.bool) := by
  rw [Nat.mul_one, show (Value.bool false).cells = #[Value.bool false] from rfl] at h
  rw [toList_madeCells_one] at h
  rw [List.map_replicate]
  exact h
theorem infoBl : (Try.prog.info? 4).map (fun i => (i.zero, i.size, i.bytes)) = some (some (.bool false), 1, 1) := by kernel_rfl
end Go.Proofs.Ytpmglmpopmppbaa
