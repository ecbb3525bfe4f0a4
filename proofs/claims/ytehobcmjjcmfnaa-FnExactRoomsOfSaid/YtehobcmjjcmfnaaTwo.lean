/- Two rows of a call's own, of elements of two types, that are written beside one another. Conditions: the types differ. -/
import Derived.Test.YtehobcmjjcmfnaaBlk
import Derived.Deep.AppendLies
import Derived.Deep.RegionHeld3
namespace Go.Lst
open Go.RowKit

/-- Rows of other types lie in other blocks. -/
theorem two_ne {w : World} {A B e1 e2 k1 k2 n1 n2 : Nat} {v1 v2 : Value} {c1 c2 : List Value} (h1 : w.ownsRow A e1 k1 v1 n1 c1) (h2 : w.ownsRow B e2 k2 v2 n2 c2) (he : e1 ≠ e2) : v1.ownBlock = none ∨ v1.ownBlock ≠ v2.ownBlock := by
  obtain ⟨_, h1⟩ := h1
  obtain ⟨_, h2⟩ := h2
  rcases h1 with ⟨rfl, _⟩ | ⟨a, ca, x, rfl, _, hx, _⟩
  · exact .inl rfl
  rcases h2 with ⟨rfl, _⟩ | ⟨b, cb, y, rfl, _, hy, _⟩
  · exact .inr (by intro h; cases h)
  · refine .inr fun h => he ?_
    obtain rfl : a = b := by simpa [Value.ownBlock] using h
    rw [hx] at hy
    exact (Obj.cells.inj (Option.some.inj hy)).2.1
/-- Two rows of the world W, made since the world w. -/
structure Two (w W : World) (e1 k1 e2 k2 : Nat) (v1 v2 : Value) (n1 n2 : Nat) (c1 c2 : List Value) : Prop where
  one : W.ownsRow w.heap.size e1 k1 v1 n1 c1
  two : W.ownsRow w.heap.size e2 k2 v2 n2 c2
  be : Below w.heap.size w W
theorem Two.nil (w : World) (e1 k1 e2 k2 : Nat) : Two w w e1 k1 e2 k2 (.slice none 0 0) (.slice none 0 0) 0 0 [] [] := ⟨World.ownsRow_nil .., World.ownsRow_nil .., Below.refl _ _⟩
section
variable {w W W' : World} {e1 k1 e2 k2 n1 n2 n' : Nat} {v1 v2 v' : Value} {c1 c2 c' : List Value}
theorem Two.alloc (h : Two w W e1 k1 e2 k2 v1 v2 n1 n2 c1 c2) (o : Obj) : Two w (W.alloc o) e1 k1 e2 k2 v1 v2 n1 n2 c1 c2 := ⟨h.one.alloc o, h.two.alloc o, h.be.alloc h.be.size o⟩
theorem Two.drew (h : Two w W e1 k1 e2 k2 v1 v2 n1 n2 c1 c2) : Two w W.drew e1 k1 e2 k2 v1 v2 n1 n2 c1 c2 := ⟨h.one.drew, h.two.drew, h.be.drew⟩
theorem Two.drewN (h : Two w W e1 k1 e2 k2 v1 v2 n1 n2 c1 c2) (n : Nat) : Two w (W.drewN n) e1 k1 e2 k2 v1 v2 n1 n2 c1 c2 := ⟨h.one, h.two, Lst.Below.drewN h.be n⟩
theorem Two.kept (h : Two w W e1 k1 e2 k2 v1 v2 n1 n2 c1 c2) (hb : Below W.heap.size W W') : Two w W' e1 k1 e2 k2 v1 v2 n1 n2 c1 c2 := by
  have hg : ∀ {e k n : Nat} {v : Value} {c : List Value}, W.ownsRow w.heap.size e k v n c → W'.ownsRow w.heap.size e k v n c := fun {e k n v c} ho => by
    have hlt := ho.lt
    obtain ⟨hl, ho⟩ := ho
    refine ⟨hl, ?_⟩
    rcases ho with ho | ⟨b, cp, x, rfl, h1, h2, h3⟩
    · exact .inl ho
    · exact .inr ⟨b, cp, x, rfl, h1, by rw [hb.block b (hlt b rfl).2]; exact h2, h3⟩
  exact ⟨hg h.one, hg h.two, h.be.trans (hb.mono h.be.size)⟩
theorem Two.app1 (he : e1 ≠ e2) (h : Two w W e1 k1 e2 k2 v1 v2 n1 n2 c1 c2) (ho : W'.ownsRow w.heap.size e1 k1 v' n' c') (hg : W.grownBy W' v1.ownBlock) : Two w W' e1 k1 e2 k2 v' v2 n' n2 c' c2 :=
  ⟨ho, h.two.kept hg (two_ne h.two h.one (Ne.symm he)), h.be.grown hg h.be.size (fun g hg' => (h.one.lt g hg').1)⟩
theorem Two.app2 (he : e1 ≠ e2) (h : Two w W e1 k1 e2 k2 v1 v2 n1 n2 c1 c2) (ho : W'.ownsRow w.heap.size e2 k2 v' n' c') (hg : W.grownBy W' v2.ownBlock) : Two w W' e1 k1 e2 k2 v1 v' n1 n' c1 c' :=
  ⟨h.one.kept hg (two_ne h.one h.two he), ho, h.be.grown hg h.be.size (fun g hg' => (h.two.lt g hg').1)⟩
/-- A block of another type than the row that grows. -/
theorem Whole.besideRow {b : Nat} {t e k n : Nat} {cs : Array Value} {v : Value} {c : List Value} {A : Nat} (X : Whole W b t cs) (ho : W.ownsRow A e k v n c) (he : t ≠ e) (hg : W.grownBy W' v.ownBlock) : Whole W' b t cs := by
  refine X.beside hg fun hb => ?_
  obtain ⟨_, ho⟩ := ho
  rcases ho with ⟨rfl, _⟩ | ⟨g, cp, x, rfl, _, hx, _⟩
  · cases hb
  · obtain rfl : b = g := by simpa [Value.ownBlock] using hb
    unfold Whole at X
    rw [X] at hx
    exact he (Obj.cells.inj (Option.some.inj hx)).2.1
theorem Whole.drew1 {b : Nat} {t : TypeId} {cs : Array Value} (X : Whole W b t cs) : Whole W.drew b t cs := X.draws 1
/-- What is appended lies in a block that is known whole. -/
theorem Whole.news {b : Nat} {t : TypeId} {cs : Array Value} (X : Whole W b t cs) : ∀ j u, cs.toList[j]? = some u → W.cell? ((⟨b, 0, none⟩ : Addr).add j) = some u := World.news_of_block X
theorem Two.le (h : Two w W e1 k1 e2 k2 v1 v2 n1 n2 c1 c2) : w.heap.size ≤ W.heap.size := h.be.size
end
/-- At a step of a region that draws its order: one element more in the first row. -/
theorem step_two1 {P : Program} {ops : Array Oper} {o : Oper} {a : Act} {K : Act → World → Prop} {Q : Exit → Act → World → Prop} {E : Prop} {w W : World} (e1 k1 e2 k2 : Nat) {n1 n2 : Nat} {v1 v2 : Value} {c1 c2 : List Value}
    (he : e1 ≠ e2) (hk : 0 < k1) (hgd : o.guard = none) {s x : Operand} {t : TypeId} (ho : o.op = .call { callee := .builtin .append, args := #[s, x], argTypes := #[t, t] })
    (i : TypeInfo) (z : Value) (bytes : Nat) (ht : P.underlying t = some (.slice e1)) (hi : P.info? e1 = some i) (hz : i.zero = some z) (hsize : i.size = k1) (hby : i.bytes = bytes) (hzs : z.cells.size = k1)
    (h : Two w W e1 k1 e2 k2 v1 v2 n1 n2 c1 c2) (hs : a.eval s = v1) {b : Nat} {cs : Array Value} (hx : a.eval x = .slice (some ⟨b, 0, none⟩) 1 1) (X : Whole W b e1 cs) (hcs : cs.toList.length = 1 * k1) (h1 : ∀ u ∈ cs.toList, u.oneCell' = true) (h63 : n1 + 1 ≤ maxLen) (hbytes : (n1 + 1) * bytes ≤ 140737488355328)
    (cont : ∀ v' W', Two w W' e1 k1 e2 k2 v' v2 (n1 + 1) n2 (c1 ++ cs.toList) c2 → (∀ b t cs, t ≠ e1 → Whole W b t cs → Whole W' b t cs) → K (a.put o.dst v') W') :
    if Region.wanted o (yielded ops a.tmps) = true then Oper.wp P o a W K Q else E :=
  step_append_lies W hgd s x t ho w.heap.size e1 i z k1 bytes ht hi hz hsize hby hzs hk v1 n1 c1 hs h.one ⟨b, 0, none⟩ 1 1 cs.toList hx hcs X.news h1 (by decide) h63 hbytes h.le _ rfl
    fun g cap W' ho' hg _ _ => cont _ _ (h.app1 he ho' hg) fun b t cs ht X => X.besideRow h.one ht hg
/-- And in the second. -/
theorem step_two2 {P : Program} {ops : Array Oper} {o : Oper} {a : Act} {K : Act → World → Prop} {Q : Exit → Act → World → Prop} {E : Prop} {w W : World} (e1 k1 e2 k2 : Nat) {n1 n2 : Nat} {v1 v2 : Value} {c1 c2 : List Value}
    (he : e1 ≠ e2) (hk : 0 < k2) (hgd : o.guard = none) {s x : Operand} {t : TypeId} (ho : o.op = .call { callee := .builtin .append, args := #[s, x], argTypes := #[t, t] })
    (i : TypeInfo) (z : Value) (bytes : Nat) (ht : P.underlying t = some (.slice e2)) (hi : P.info? e2 = some i) (hz : i.zero = some z) (hsize : i.size = k2) (hby : i.bytes = bytes) (hzs : z.cells.size = k2)
    (h : Two w W e1 k1 e2 k2 v1 v2 n1 n2 c1 c2) (hs : a.eval s = v2) {b : Nat} {cs : Array Value} (hx : a.eval x = .slice (some ⟨b, 0, none⟩) 1 1) (X : Whole W b e2 cs) (hcs : cs.toList.length = 1 * k2) (h1 : ∀ u ∈ cs.toList, u.oneCell' = true) (h63 : n2 + 1 ≤ maxLen) (hbytes : (n2 + 1) * bytes ≤ 140737488355328)
    (cont : ∀ v' W', Two w W' e1 k1 e2 k2 v1 v' n1 (n2 + 1) c1 (c2 ++ cs.toList) → (∀ b t cs, t ≠ e2 → Whole W b t cs → Whole W' b t cs) → K (a.put o.dst v') W') :
    if Region.wanted o (yielded ops a.tmps) = true then Oper.wp P o a W K Q else E :=
  step_append_lies W hgd s x t ho w.heap.size e2 i z k2 bytes ht hi hz hsize hby hzs hk v2 n2 c2 hs h.two ⟨b, 0, none⟩ 1 1 cs.toList hx hcs X.news h1 (by decide) h63 hbytes h.le _ rfl
    fun g cap W' ho' hg _ _ => cont _ _ (h.app2 he ho' hg) fun b t cs ht X => X.besideRow h.two ht hg
end Go.Lst
