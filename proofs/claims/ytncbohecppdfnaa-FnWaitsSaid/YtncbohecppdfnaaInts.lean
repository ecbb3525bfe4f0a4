/- Contracts of the law's own functions on lists of int64: copied, compared, marked, and looked at again. -/
import Derived.Test.YtncbohecppdfnaaCopyI
import Derived.Test.YtncbohecppdfnaaOwn
import Derived.Deep.QuietTactic
import Derived.BigQuiet
import Derived.Deep.RegionWith
namespace Go.Proofs.Ytncbohecppdfnaa
open Go.RowKit Go.Lst

theorem Ret.same {P : Program} {f : FuncId} {args : Array Value} {w : World} {v : Value} (h : Calls P f args w fun e w' => e = .returned v ∧ w = w') : Calls P f args w (Ret v w) :=
  h.mono fun _ _ ⟨he, hw⟩ => ⟨0, he, by rw [← hw]; rfl⟩
theorem Ret.below {v : Value} {w w' : World} {e : Ending} (h : Ret v w e w') : e = .returned v ∧ Below w.heap.size w w' := by
  obtain ⟨m, he, hw⟩ := h
  exact ⟨he, by rw [hw]; exact below_drawn w m⟩



/-- The numbers from k on, as many as n. -/
def marksFrom (k : Int) : Nat → List Int
  | 0 => []
  | n + 1 => marksFrom k n ++ [k + n]
theorem marksFrom_length (k : Int) (n : Nat) : (marksFrom k n).length = n := by
  induction n with
  | zero => rfl
  | succ n ih => simp [marksFrom, ih]
theorem marksFrom_get (k : Int) (n i : Nat) (h : i < n) : (marksFrom k n)[i]? = some (k + i) := by
  induction n with
  | zero => omega
  | succ n ih =>
    unfold marksFrom
    by_cases h1 : i < n
    · rw [List.getElem?_append_left (by rw [marksFrom_length]; exact h1)]
      exact ih h1
    · have : i = n := by omega
      subst this
      rw [List.getElem?_append_right (by rw [marksFrom_length]; exact Nat.le_refl _), marksFrom_length, Nat.sub_self]
      rfl
theorem marks_step (f : Int → Value) (k0 : Int) (k n : Nat) (cs : List Value) (hl : cs.length = n) (hk : k < n) :
    ((marksFrom k0 k).map f ++ cs.drop k).set k (f (k0 + k)) = (marksFrom k0 (k + 1)).map f ++ cs.drop (k + 1) := by
  have hm : ((marksFrom k0 k).map f).length = k := by rw [List.length_map, marksFrom_length]
  rw [List.set_append_right _ _ (by omega), hm, Nat.sub_self, List.drop_eq_getElem_cons (by omega), List.set_cons_zero]
  simp [marksFrom]


end Go.Proofs.Ytncbohecppdfnaa
