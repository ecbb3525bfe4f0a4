/- Contracts: the list of numbers of float32 that a text spells, read by the program and by the model's loop. Conditions: internal/bytealg.MaxLen holds some int (the program's side). -/
import Derived.Test.YtjpmliigepegaaaDoorHex
import Derived.Test.YtjpmliigepegaaaDoorCut
import Derived.Test.YtjpmliigepegaaaDoorPz
namespace Go.Proofs.YtjpmliigepegaaaDoor
open Go.RowKit Go.Lst Go FloatKit

theorem cutL_len (c : UInt8) : ∀ (l : List UInt8), ∀ x ∈ cutL c l, x.length ≤ l.length
  | [], x, hx => by
    simp only [cutL, List.mem_singleton] at hx
    subst hx; exact Nat.le_refl _
  | b :: r, x, hx => by
    unfold cutL at hx
    split at hx
    · rcases List.mem_cons.1 hx with rfl | h
      · exact Nat.zero_le _
      · have := cutL_len c r x h
        rw [List.length_cons]; omega
    · have hh := cutL_head c r
      rcases List.mem_cons.1 hx with rfl | h
      · have := cutL_len c r ((cutL c r).headD []) (by rw [← hh]; simp)
        rw [List.length_cons, List.length_cons]; omega
      · have := cutL_len c r x (by rw [← hh]; exact List.mem_cons_of_mem _ h)
        rw [List.length_cons]; omega
theorem cutS_size {c : UInt8} {s x : ByteArray} {i : Nat} (h : (cutS c s)[i]? = some x) : x.size ≤ s.size := by
  have hm := List.mem_of_getElem? h
  unfold cutS at hm
  obtain ⟨l, hl, rfl⟩ := List.mem_map.1 hm
  have := cutL_len c _ l hl
  rw [Array.length_toList] at this
  show l.toArray.size ≤ _
  rw [List.size_toArray]; exact this
/-- Whether a text is that of a list, and the list. -/
def isNone (s : ByteArray) : Bool := s.toList == [110, 111, 110, 101]
def okReadF (s : ByteArray) : Bool := isNone s || (decide ((cutS 44 s).length ≤ 256) && (cutS 44 s).all okHex)
def valF (s : ByteArray) : List Nat := if isNone s then [] else if okReadF s then (cutS 44 s).map hexR else []
theorem read_none {s : ByteArray} (h : isNone s = true) : okReadF s = true ∧ valF s = [] := by
  unfold okReadF valF; rw [h]; simp
theorem read_big {s : ByteArray} (h : isNone s = false) (hl : 256 < (cutS 44 s).length) : okReadF s = false ∧ valF s = [] := by
  have : okReadF s = false := by unfold okReadF; rw [h, decide_eq_false (by omega)]; rfl
  exact ⟨this, by unfold valF; rw [h, this]; rfl⟩
theorem read_bad {s x : ByteArray} {k : Nat} (h : isNone s = false) (hx : (cutS 44 s)[k]? = some x) (hn : okHex x = false) : okReadF s = false ∧ valF s = [] := by
  have : okReadF s = false := by
    unfold okReadF
    rw [h, show (cutS 44 s).all okHex = false by rw [List.all_eq_false]; exact ⟨x, List.mem_of_getElem? hx, by rw [hn]; simp⟩]
    simp
  exact ⟨this, by unfold valF; rw [h, this]; rfl⟩
theorem read_all {s : ByteArray} (h : isNone s = false) (hl : (cutS 44 s).length ≤ 256) (ha : ∀ (i : Nat) (x : ByteArray), (cutS 44 s)[i]? = some x → okHex x = true) : okReadF s = true ∧ valF s = (cutS 44 s).map hexR := by
  have : okReadF s = true := by
    unfold okReadF
    rw [h, decide_eq_true hl, List.all_eq_true.2 fun x hx => by
      obtain ⟨i, hi⟩ := List.getElem?_of_mem hx
      exact ha i x hi]
    rfl
  exact ⟨this, by unfold valF; rw [h, this]; rfl⟩
theorem valF_len (s : ByteArray) : (valF s).length ≤ 256 := by
  unfold valF
  split
  · simp
  · split
    · rename_i h0 h1
      unfold okReadF at h1
      have h2 : isNone s = false := by simpa using h0
      rw [h2, Bool.false_or, Bool.and_eq_true, decide_eq_true_eq] at h1
      rw [List.length_map]; exact h1.1
    · simp
/-- What a caller sees of a read list. -/
def ReadPost (r : List Nat) (ok : Bool) (w : World) (e : Ending) (w' : World) : Prop :=
  ∃ v', e = .returned (.tuple #[v', .bool ok]) ∧ Own w.heap.size w'.heap.size w' v' 36 1 r.length (r.map (Value.float .f32)) ∧ Below w.heap.size w w'
theorem read_nil {r : List Nat} {ok q : Bool} {w w' : World} (h : ok = q ∧ r = []) (hb : Below w.heap.size w w') : ReadPost r ok w (.returned (.tuple #[.slice none 0 0, .bool q])) w' := by
  obtain ⟨rfl, rfl⟩ := h
  exact ⟨_, rfl, own_nil, hb⟩
theorem read_row {r : List Nat} {ok : Bool} {v : Value} {w w' : World} {A n : Nat} (h : ok = true) (hA : w.heap.size ≤ A) (hn : r.length = n) (ho : w'.ownsRow A 36 1 v n (r.map (Value.float .f32))) (hm : n ≤ 1048576) (hb : Below w.heap.size w w') : ReadPost r ok w (.returned (.tuple #[v, .bool true])) w' := by
  subst h hn
  exact ⟨_, rfl, (Own.new ho (by unfold maxLen; omega)).mono hA (Nat.le_refl _), hb⟩
theorem infoF4 : (Tryd.prog.info? 36).map (fun i => (i.zero, i.size, i.bytes)) = some (some (.float .f32 0), 1, 4) := by kernel_rfl
theorem one_f4 (x : Nat) : ∀ u ∈ [Value.float .f32 x], u.oneCell' = true := by simp [Value.oneCell']
/-- The parts of a cut text, where they lie. -/
def PartsAt (w : World) (g : Nat) (xs : List ByteArray) : Prop := ∀ i x, xs[i]? = some x → w.cell? ⟨g, i, none⟩ = some (.string x)
theorem PartsAt.more {w w' : World} {g : Nat} {xs : List ByteArray} (h : PartsAt w g xs) (hb : Below w.heap.size w w') : PartsAt w' g xs := fun i x hx => by
  have := h i x hx
  rw [hb.cell (p := ⟨g, i, none⟩) (World.block_lt_of_cell? w _ this)]; exact this
end Go.Proofs.YtjpmliigepegaaaDoor
