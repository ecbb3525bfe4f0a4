/- A table of the call's own: a row of slices, each of them a row of its own in a block of its own. Conditions: the types of the slices and of their elements differ. -/
import Derived.Test.YtehobcmjjcmfnaaTwo
namespace Go.Lst
open Go.RowKit

structure Tab (A : Nat) (W : World) (eS eT k : Nat) (tv : Value) (vs : List Value) (n : Nat → Nat) (c : Nat → List Value) : Prop where
  ne : eS ≠ eT
  le : A ≤ W.heap.size
  top : W.ownsRow A eS 1 tv vs.length vs
  row : ∀ r v, vs[r]? = some v → W.ownsRow A eT k v (n r) (c r)
  apart : ∀ (r s : Nat) (v u : Value), r ≠ s → vs[r]? = some v → vs[s]? = some u → v.ownBlock = none ∨ v.ownBlock ≠ u.ownBlock
section
variable {A eS eT k : Nat} {W W' : World} {tv : Value} {vs : List Value} {n : Nat → Nat} {c : Nat → List Value}
theorem tab_row_kept {e k n : Nat} {v : Value} {c : List Value} (ho : W.ownsRow A e k v n c) (hb : Below W.heap.size W W') : W'.ownsRow A e k v n c := by
  have hlt := ho.lt
  obtain ⟨hl, ho⟩ := ho
  refine ⟨hl, ?_⟩
  rcases ho with ho | ⟨b, cp, x, rfl, h1, h2, h3⟩
  · exact .inl ho
  · exact .inr ⟨b, cp, x, rfl, h1, by rw [hb.block b (hlt b rfl).2]; exact h2, h3⟩
theorem Tab.nil (A : Nat) (W : World) (eS eT k : Nat) (he : eS ≠ eT) (hA : A ≤ W.heap.size) (n : Nat → Nat) (c : Nat → List Value) : Tab A W eS eT k (.slice none 0 0) [] n c :=
  ⟨he, hA, World.ownsRow_nil .., fun r v h => by simp at h, fun r s v u _ h => by simp at h⟩
theorem Tab.kept (h : Tab A W eS eT k tv vs n c) (hb : Below W.heap.size W W') : Tab A W' eS eT k tv vs n c :=
  ⟨h.ne, Nat.le_trans h.le hb.size, tab_row_kept h.top hb, fun r v hv => tab_row_kept (h.row r v hv) hb, h.apart⟩
theorem Tab.alloc (h : Tab A W eS eT k tv vs n c) (o : Obj) : Tab A (W.alloc o) eS eT k tv vs n c := h.kept (below_alloc (Below.refl _ _) o)
theorem Tab.drew (h : Tab A W eS eT k tv vs n c) : Tab A W.drew eS eT k tv vs n c := ⟨h.ne, h.le, h.top.drew, fun r v hv => (h.row r v hv).drew, h.apart⟩
/-- A block of a third type is written. -/
theorem Tab.beside {b t : Nat} {cs : Array Value} (h : Tab A W eS eT k tv vs n c) (X : Whole W b t cs) (h1 : t ≠ eS) (h2 : t ≠ eT) (i : Nat) (u : Value) : Tab A (W.setCell ⟨b, i, none⟩ u) eS eT k tv vs n c := by
  have key : ∀ {e k n : Nat} {v : Value} {cs' : List Value}, t ≠ e → W.ownsRow A e k v n cs' → (W.setCell ⟨b, i, none⟩ u).ownsRow A e k v n cs' := fun {e k n v cs'} hte ho => by
    obtain ⟨hl, ho⟩ := ho
    refine ⟨hl, ?_⟩
    rcases ho with ho | ⟨g, cp, x, rfl, g1, g2, g3⟩
    · exact .inl ho
    · refine .inr ⟨g, cp, x, rfl, g1, ?_, g3⟩
      rw [Below.heap_setCell W ⟨b, i, none⟩ u g (fun e => ?_)]
      · exact g2
      · unfold Whole at X
        have e' : g = b := e
        rw [← e', g2] at X
        exact hte (Obj.cells.inj (Option.some.inj X)).2.1.symm
  exact ⟨h.ne, by simpa using h.le, key h1 h.top, fun r v hv => key h2 (h.row r v hv), h.apart⟩
/-- One row more, without elements. -/
theorem Tab.more (h : Tab A W eS eT k tv vs n c) {tv' : Value} (ho : W'.ownsRow A eS 1 tv' (vs.length + 1) (vs ++ [.slice none 0 0])) (hg : W.grownBy W' tv.ownBlock) (hn : n vs.length = 0) (hc : c vs.length = []) : Tab A W' eS eT k tv' (vs ++ [.slice none 0 0]) n c := by
  refine ⟨h.ne, Nat.le_trans h.le hg.size, by rw [List.length_append]; exact ho, fun r v hv => ?_, fun r s v u hrs hv hu => ?_⟩
  · by_cases e : r < vs.length
    · rw [List.getElem?_append_left e] at hv
      exact (h.row r v hv).kept hg (two_ne (h.row r v hv) h.top (Ne.symm h.ne))
    · rw [List.getElem?_append_right (by omega)] at hv
      have e0 : r - vs.length = 0 := by
        cases q : r - vs.length with
        | zero => rfl
        | succ m => rw [q] at hv; simp at hv
      rw [e0] at hv
      obtain rfl : Value.slice none 0 0 = v := by simpa using hv
      obtain rfl : r = vs.length := by omega
      rw [hn, hc]
      exact World.ownsRow_nil ..
  · by_cases e : r < vs.length
    · rw [List.getElem?_append_left e] at hv
      by_cases e2 : s < vs.length
      · rw [List.getElem?_append_left e2] at hu
        exact h.apart r s v u hrs hv hu
      · rw [List.getElem?_append_right (by omega)] at hu
        have e0 : s - vs.length = 0 := by
          cases q : s - vs.length with
          | zero => rfl
          | succ m => rw [q] at hu; simp at hu
        rw [e0] at hu
        obtain rfl : Value.slice none 0 0 = u := by simpa using hu
        cases q : v.ownBlock
        · exact .inl rfl
        · exact .inr (by intro e; cases e)
    · rw [List.getElem?_append_right (by omega)] at hv
      have e0 : r - vs.length = 0 := by
        cases q : r - vs.length with
        | zero => rfl
        | succ m => rw [q] at hv; simp at hv
      rw [e0] at hv
      obtain rfl : Value.slice none 0 0 = v := by simpa using hv
      exact .inl rfl
/-- One of the rows is written anew, and stored. -/
theorem Tab.put (h : Tab A W eS eT k tv vs n c) {r : Nat} {v v' : Value} {tg tc : Nat} {n' : Nat → Nat} {c' : Nat → List Value} (hv : vs[r]? = some v) (ht : tv = .slice (some ⟨tg, 0, none⟩) vs.length tc)
    (ho : W'.ownsRow A eT k v' (n' r) (c' r)) (hg : W.grownBy W' v.ownBlock) (hat : ∀ g, v'.ownBlock = some g → v.ownBlock = some g ∨ g = W.heap.size) (hn : ∀ s, s ≠ r → n' s = n s ∧ c' s = c s) :
    Tab A (W'.setCell ⟨tg, r, none⟩ v') eS eT k tv (vs.set r v') n' c' := by
  have hr : r < vs.length := (List.getElem?_eq_some_iff.1 hv).1
  have top' : W'.ownsRow A eS 1 tv vs.length vs := h.top.kept hg (two_ne h.top (h.row r v hv) h.ne)
  have off : ∀ {n : Nat} {u : Value} {cs : List Value}, W'.ownsRow A eT k u n cs → (W'.setCell ⟨tg, r, none⟩ v').ownsRow A eT k u n cs := fun {n u cs} hu => by
    have h2 := two_ne hu top' (Ne.symm h.ne)
    obtain ⟨hl, hu⟩ := hu
    refine ⟨hl, ?_⟩
    rcases hu with hu | ⟨g, cp, x, rfl, g1, g2, g3⟩
    · exact .inl hu
    · refine .inr ⟨g, cp, x, rfl, g1, ?_, g3⟩
      rw [Below.heap_setCell W' ⟨tg, r, none⟩ v' g (fun e => ?_)]
      · exact g2
      · subst ht
        have e' : g = tg := e
        rcases h2 with h2 | h2
        · cases h2
        · exact h2 (by show some g = some tg; rw [e'])
  refine ⟨h.ne, by have := h.le; have := hg.size; simp; omega, ?_, fun s u hu => ?_, fun s t u x hst hu hx => ?_⟩
  · rw [List.length_set]
    subst ht
    have := (top'.stored r v').1
    exact this
  · by_cases e : s = r
    · subst e
      rw [List.getElem?_set_self hr] at hu
      obtain rfl : v' = u := by simpa using hu
      exact off ho
    · rw [List.getElem?_set_ne (Ne.symm e)] at hu
      rw [(hn s e).1, (hn s e).2]
      exact off ((h.row s u hu).kept hg (h.apart s r u v e hu hv))
  · have old : ∀ (s : Nat) (u : Value) (g : Nat), s ≠ r → vs[s]? = some u → u.ownBlock = some g → v'.ownBlock ≠ some g := fun s u g hs hu hg' e => by
      rcases hat g e with e1 | e1
      · rcases h.apart s r u v hs hu hv with e2 | e2
        · rw [e2] at hg'; cases hg'
        · exact e2 (hg'.trans e1.symm)
      · have := (h.row s u hu).lt g hg'
        omega
    by_cases e : s = r
    · subst e
      rw [List.getElem?_set_self hr] at hu
      obtain rfl : v' = u := by simpa using hu
      rw [List.getElem?_set_ne hst] at hx
      cases q : v'.ownBlock
      · exact .inl rfl
      · refine .inr fun e => ?_
        exact old t x _ (Ne.symm hst) hx e.symm q
    · rw [List.getElem?_set_ne (Ne.symm e)] at hu
      by_cases e2 : t = r
      · subst e2
        rw [List.getElem?_set_self hr] at hx
        obtain rfl : v' = x := by simpa using hx
        cases q : u.ownBlock
        · exact .inl rfl
        · refine .inr fun e3 => ?_
          exact old s u _ e hu q e3.symm
      · rw [List.getElem?_set_ne (Ne.symm e2)] at hx
        exact h.apart s t u x hst hu hx
theorem Tab.top2 (h : Tab A W eS eT k tv vs n c) {r : Nat} {v : Value} (hv : vs[r]? = some v) (hg : W.grownBy W' v.ownBlock) : W'.ownsRow A eS 1 tv vs.length vs := h.top.kept hg (two_ne h.top (h.row r v hv) h.ne)
/-- A block below the table's is written. -/
theorem Tab.off (h : Tab A W eS eT k tv vs n c) {p : Addr} (hp : p.block < A) (u : Value) : Tab A (W.setCell p u) eS eT k tv vs n c := by
  have key : ∀ {e k n : Nat} {v : Value} {cs' : List Value}, W.ownsRow A e k v n cs' → (W.setCell p u).ownsRow A e k v n cs' := fun {e k n v cs'} ho => by
    obtain ⟨hl, ho⟩ := ho
    refine ⟨hl, ?_⟩
    rcases ho with ho | ⟨g, cp, x, rfl, g1, g2, g3⟩
    · exact .inl ho
    · refine .inr ⟨g, cp, x, rfl, g1, ?_, g3⟩
      rw [Below.heap_setCell W p u g (fun e => ?_)]
      · exact g2
      · omega
  exact ⟨h.ne, by simpa using h.le, key h.top, fun r v hv => key (h.row r v hv), h.apart⟩
theorem whole_ne_row {b t e k n g m c : Nat} {cs : Array Value} {cs' : List Value} (X : Whole W b t cs) (ho : W.ownsRow A e k (.slice (some ⟨g, 0, none⟩) m c) n cs') (he : t ≠ e) : b ≠ g := by
  intro hbg
  rcases ho.2 with ⟨h, _⟩ | ⟨g', cp, x, hv, _, hx, _⟩
  · cases h
  · injection hv with e1 _ _
    injection e1 with e1
    injection e1 with e1 _ _
    subst e1 hbg
    unfold Whole at X
    rw [X] at hx
    exact he (Obj.cells.inj (Option.some.inj hx)).2.1
theorem whole_of_own {e g n : Nat} {cs : List Value} (h : W.ownsRow A e 1 (.slice (some ⟨g, 0, none⟩) n n) n cs) : Whole W g e cs.toArray := by
  rcases h.2 with ⟨h', _⟩ | ⟨g', cap, cur, hv, _, hg, _, _, hs, ht⟩
  · cases h'
  · injection hv with e1 e2 e3
    injection e1 with e1
    injection e1 with e1 _ _
    subst e1 e3
    rw [Nat.mul_one] at hs ht
    rw [List.take_of_length_le (by simp [hs])] at ht
    unfold Whole
    rw [hg, ← ht]
theorem own_of_whole {A B g n k : Nat} {w : World} {t : TypeId} {cs : Array Value} (X : Whole w g t cs) (hA : A ≤ g) (hB : g < B) (hc : cs.size = n * k) (hn : n ≤ maxLen) : Own A B w (.slice (some ⟨g, 0, none⟩) n n) t k n cs.toList :=
  ⟨⟨by rw [Array.length_toList]; exact hc, .inr ⟨g, n, cs, rfl, hA, X, Nat.le_refl _, hn, hc, by rw [← hc, ← Array.length_toList, List.take_length]⟩⟩, hn, fun g' hg => by cases hg; exact hB⟩
end
end Go.Lst
