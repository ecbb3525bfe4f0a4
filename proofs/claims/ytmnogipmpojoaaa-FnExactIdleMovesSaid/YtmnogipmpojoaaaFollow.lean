/- Contracts: which trips can follow which ones, both builds together. -/
import Derived.Test.YtmnogipmpojoaaaMoveBy
import Derived.Test.YtmnogipmpojoaaaBools
import Derived.Test.YtmnogipmpojoaaaPost
namespace Go.Proofs.Ytmnogipmpojoaaa
open Go.RowKit Go.Lst

def fillB (f : Nat → Bool) (k : Nat) : List Bool := (List.range k).map f
theorem fillB_succ (f : Nat → Bool) (k : Nat) : fillB f (k + 1) = fillB f k ++ [f k] := by unfold fillB; rw [List.range_succ, List.map_append]; rfl
theorem fillB_length (f : Nat → Bool) (k : Nat) : (fillB f k).length = k := by simp [fillB]
theorem one_bool (x : Bool) : ∀ u ∈ [Value.bool x], u.oneCell' = true := by simp [Value.oneCell']
theorem infoB : (Try.prog.info? 4).map (fun i => (i.zero, i.size, i.bytes)) = some (some (.bool false), 1, 1) := by kernel_rfl
theorem newsB (w : World) (t : TypeId) (u : Value) : ∀ (j : Nat) (x : Value), [u][j]? = some x → (w.alloc (.cells #[u] t)).cell? ((⟨w.heap.size, 0, none⟩ : Addr).add j) = some x := fun j x hj => by
  match j, hj with
  | 0, hj =>
    obtain rfl : u = x := by simpa using hj
    exact (Whole.made w t #[u] rfl).at_ rfl
  | j + 1, hj => simp at hj
theorem growB_le {B : Nat} {w : World} (h : B ≤ w.heap.size) (o : Obj) : B ≤ (w.alloc o).heap.size := by simp; omega
theorem belowB_app {B C n k : Nat} {w wr w6 : World} {o : Obj} {v : Value} {cs : List Value} {e : TypeId} (hb : Below B w wr) (hO : wr.ownsRow C e k v n cs) (hg : (wr.alloc o).grownBy w6 v.ownBlock) (hB : B ≤ wr.heap.size) (hC : B ≤ C) : Below B w w6 :=
  (hb.alloc hB o).grown hg (growB_le hB o) fun k hk => Nat.le_trans hC (hO.lt k hk).1
/-- A block of another type is not the row's. -/
theorem row_apart {w : World} {A k n gx : Nat} {e t : TypeId} {v : Value} {cs : List Value} {cx : Array Value} (h : w.ownsRow A e k v n cs) (hx : Whole w gx t cx) (ht : t ≠ e) : some gx ≠ v.ownBlock := by
  rcases h.2 with ⟨rfl, _⟩ | ⟨g, cap, cur, rfl, _, hg, _⟩
  · intro h0; cases h0
  · intro h0
    have h1 : gx = g := Option.some.inj h0
    subst h1
    have h2 : w.heap[gx]? = some (.cells cx t (0, 0)) := hx
    rw [h2] at hg
    injection hg with hg
    injection hg with _ h3 _
    exact ht h3
def BoolsPost (r : List Bool) (ok : Bool) (w : World) (e : Ending) (w' : World) : Prop :=
  ∃ v', e = .returned (.tuple #[v', .bool ok]) ∧ Own w.heap.size w'.heap.size w' v' 4 1 r.length (r.map Value.bool) ∧ Below w.heap.size w w'
theorem bools_no {r : List Bool} {ok : Bool} {w w' : World} (h1 : r = []) (h2 : ok = false) (hb : Below w.heap.size w w') : BoolsPost r ok w (.returned (.tuple #[.slice none 0 0, .bool false])) w' := by
  subst h1 h2
  exact ⟨_, rfl, own_nil, hb⟩
theorem bools_yes {r : List Bool} {ok : Bool} {v : Value} {w w' : World} {A n : Nat} (h2 : ok = true) (hA : w.heap.size ≤ A) (hn : r.length = n) (ho : w'.ownsRow A 4 1 v n (r.map Value.bool)) (hm : n ≤ 1048576) (hb : Below w.heap.size w w') : BoolsPost r ok w (.returned (.tuple #[v, .bool true])) w' := by
  subst h2 hn
  exact ⟨_, rfl, (Own.new ho (by unfold maxLen; omega)).mono hA (Nat.le_refl _), hb⟩
def folPl (xs : List TripD) (ms : List Int) (p : Nat) : Bool := folT ms (xs.getD (p / xs.length) default) (xs.getD (p % xs.length) default)
theorem getTr_of {xs : List TripD} {k : Nat} {x : TripD} (h : xs[k]? = some x) : xs.getD k default = x := by rw [List.getD_eq_getElem?_getD, h]; rfl
theorem folPl_at {xs : List TripD} {ms : List Int} {i k : Nat} {x y : TripD} (hx : xs[i]? = some x) (hy : xs[k]? = some y) : folPl xs ms (i * xs.length + k) = folT ms x y := by
  have hk : k < xs.length := (List.getElem?_eq_some_iff.1 hy).1
  unfold folPl
  rw [Nat.mul_comm i, Nat.mul_add_div (by omega), Nat.div_eq_of_lt hk, Nat.add_zero, Nat.mul_add_mod, Nat.mod_eq_of_lt hk, getTr_of hx, getTr_of hy]
def canF (xs : List TripD) (ms : List Int) : Bool := areTrips xs && okMoves ms
def folRes (xs : List TripD) (ms : List Int) : List Bool := if canF xs ms then fillB (folPl xs ms) (xs.length * xs.length) else []
theorem folRes_no {xs : List TripD} {ms : List Int} (h : canF xs ms = false) : folRes xs ms = [] := by unfold folRes; rw [h]; rfl
theorem folRes_yes {xs : List TripD} {ms : List Int} (h : canF xs ms = true) : folRes xs ms = fillB (folPl xs ms) (xs.length * xs.length) := by unfold folRes; rw [h]; rfl
theorem move_in {ms : List Int} (h : okMoves ms = true) {x y : TripD} (h1 : 0 ≤ x.To ∧ x.To ≤ 7) (h2 : 0 ≤ y.From ∧ y.From ≤ 7) : 0 ≤ moveOf ms x y ∧ moveOf ms x y ≤ 1000 := by
  obtain ⟨hl, hr, _⟩ := okMoves_of h
  have hk : (x.To * 8 + y.From).toNat < ms.length := by omega
  have e : ms[(x.To * 8 + y.From).toNat]? = some ms[(x.To * 8 + y.From).toNat] := List.getElem?_eq_getElem _
  unfold moveOf
  rw [getD_of e]
  exact hr _ _ e
theorem sq_fit {n i k : Nat} (hi : i < n) (hk : k < n) (hn : n ≤ 24) : i * n + k + 1 ≤ 576 := by
  have h1 : i * n + n ≤ n * n := by have := Nat.mul_le_mul_right n (show i + 1 ≤ n from hi); rw [Nat.add_mul, Nat.one_mul] at this; exact this
  have h2 := Nat.mul_le_mul hn hn
  omega
end Go.Proofs.Ytmnogipmpojoaaa
