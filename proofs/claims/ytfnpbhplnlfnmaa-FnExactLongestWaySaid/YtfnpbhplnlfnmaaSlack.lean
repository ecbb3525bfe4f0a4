/- Contracts: how much later tasks can start, in the model and in the program. -/
import Derived.Test.YtfnpbhplnlfnmaaLate2
import Derived.Laws.AppendOwn
import Derived.Deep.AppendLies
import Derived.Deep.RegionHeld3
namespace Go.Proofs.Ytfnpbhplnlfnmaa
open Go.RowKit Go.Lst

/-- The first k numbers of a list are written. -/
def fillTo (base : List Int) (f : Nat → Int) : Nat → List Int
  | 0 => base
  | k + 1 => (fillTo base f k).set k (f k)
def fill (f : Nat → Int) (n : Nat) : List Int := (List.range n).map f
theorem fillTo_length (base : List Int) (f : Nat → Int) : ∀ k, (fillTo base f k).length = base.length
  | 0 => rfl
  | k + 1 => by simp [fillTo, fillTo_length base f k]
theorem fillTo_get (base : List Int) (f : Nat → Int) (i : Nat) : ∀ k, (fillTo base f k).getD i 0 = if i < k ∧ i < base.length then f i else base.getD i 0
  | 0 => by simp [fillTo]
  | k + 1 => by
    simp only [fillTo]
    rw [getD_set, fillTo_get base f i k, fillTo_length]
    by_cases h1 : k = i
    · subst h1
      by_cases h2 : k < base.length
      · simp [h2]
      · simp [h2]
    · by_cases h2 : i < k
      · rw [if_neg (by omega)]
        by_cases h3 : i < base.length
        · rw [if_pos ⟨h2, h3⟩, if_pos ⟨by omega, h3⟩]
        · rw [if_neg (by omega), if_neg (by omega)]
      · rw [if_neg (by omega), if_neg (by omega), if_neg (by omega)]
theorem fill_length (f : Nat → Int) (n : Nat) : (fill f n).length = n := by simp [fill]
theorem fill_get (f : Nat → Int) (n i : Nat) : (fill f n).getD i 0 = if i < n then f i else 0 := by
  rw [List.getD_eq_getElem?_getD]
  unfold fill
  rw [List.getElem?_map]
  by_cases h : i < n
  · rw [List.getElem?_range h, if_pos h]; rfl
  · rw [List.getElem?_eq_none (by simp; omega), if_neg h]; rfl
theorem ext_getD {a b : List Int} (hl : a.length = b.length) (h : ∀ i, i < a.length → a.getD i 0 = b.getD i 0) : a = b := by
  apply List.ext_getElem?
  intro i
  by_cases hi : i < a.length
  · rw [getD_get hi, getD_get (by omega), h i hi]
  · rw [List.getElem?_eq_none (by omega), List.getElem?_eq_none (by omega)]
theorem fillTo_all {base : List Int} {f : Nat → Int} {n : Nat} (hl : base.length = n) : fillTo base f n = fill f n :=
  ext_getD (by rw [fillTo_length, fill_length, hl]) fun i hi => by
    rw [fillTo_length] at hi
    rw [fillTo_get, fill_get, if_pos ⟨by omega, hi⟩, if_pos (by omega)]
theorem fill_succ (f : Nat → Int) (k : Nat) : fill f (k + 1) = fill f k ++ [f k] := by
  unfold fill
  rw [List.range_succ, List.map_append]
  rfl
theorem news_one (w : World) (t : TypeId) (u : Value) : ∀ (q : Unit) (j : Nat) (x : Value), [u][j]? = some x → (w.alloc (.cells #[u] t)).drew.cell? ((⟨w.heap.size, 0, none⟩ : Addr).add j) = some x := fun _ j x hj => by
  match j, hj with
  | 0, hj =>
    obtain rfl : u = x := by simpa using hj
    exact (Whole.made w t #[u] rfl).at_ rfl
  | j + 1, hj => simp at hj
theorem alloc_drew_eq (w : World) (o : Obj) : (w.alloc o).drew.heap.size = w.heap.size + 1 := by show (w.alloc o).heap.size = _; simp
theorem alloc_drew_le {B : Nat} {w : World} (h : B ≤ w.heap.size) (o : Obj) : B ≤ (w.alloc o).drew.heap.size := by rw [alloc_drew_eq]; omega
theorem one_cell (y : Int) : ∀ u ∈ [Value.int .i64 y], u.oneCell' = true := fun u hu => by
  obtain rfl : u = .int .i64 y := by simpa using hu
  rfl
theorem below_append {B n : Nat} {w wr w6 : World} {o : Obj} {v : Value} {cs : List Value} {e : TypeId} (hb : Below B w wr) (hO : wr.ownsRow B e 1 v n cs) (hg : (wr.alloc o).drew.grownBy w6 v.ownBlock) (hB : B ≤ wr.heap.size) : Below B w w6 :=
  ((hb.alloc hB o).drew).grown hg (by show B ≤ (wr.alloc o).heap.size; simp; omega) fun k hk => (hO.lt k hk).1
theorem own_slice_n {A B e k n : Nat} {w : World} {v : Value} {cs : List Value} (h : Own A B w v e k n cs) : ∃ a c, v = .slice a n c := by
  rcases h.1.2 with ⟨h1, h2⟩ | ⟨g, cap, cur, h1, _⟩
  · exact ⟨none, 0, by rw [h1, h2]⟩
  · exact ⟨_, _, h1⟩
/-- A list of the call's own reads, at each place. -/
theorem own_reads {A B B' n : Nat} {w w' : World} {a : Option Addr} {c : Nat} {st : List Int} (h : Own A B w (.slice a n c) 2 1 st.length (st.map (Value.int .i64))) (hb : Below B' w w') (hB : B ≤ B') :
    ∀ k, k < st.length → ∃ g o, a = some ⟨g, o, none⟩ ∧ g < B ∧ w'.cell? ⟨g, o + k, none⟩ = some (.int .i64 (st.getD k 0)) := fun k hk => by
  obtain ⟨a', cap', e1, _, _, _, hc⟩ := (h.lstI (Nat.le_refl B)).at_
  injection e1 with e1 _ _
  subst e1
  obtain ⟨g, o, y, e2, e3, e4, e5⟩ := hc k hk
  refine ⟨g, o, e2, e3, ?_⟩
  rw [hb.cell (p := ⟨g, o + k, none⟩) (show g < B' by omega), e5, getD_some e4]
/-- How much later each task can start. -/
def slackAt (xs : List TaskD) (i : Nat) : Int := (late xs (endOf xs (early xs))).getD i 0 - (early xs).getD i 0
def slackOf (xs : List TaskD) : List Int := fill (slackAt xs) xs.length
theorem endOf_bound {xs : List TaskD} (h : Fit xs) : 0 ≤ endOf xs (early xs) ∧ endOf xs (early xs) ≤ 18600 := by
  have := endTo_bound h (early_bound h) (by omega) xs.length
  unfold endOf
  omega

end Go.Proofs.Ytfnpbhplnlfnmaa
