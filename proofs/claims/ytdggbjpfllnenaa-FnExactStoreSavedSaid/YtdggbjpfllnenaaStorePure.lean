/- Pure: the bytes of what is saved. -/
import Derived.Test.YtdggbjpfllnenaaSavedOk
import Derived.Test.YtdggbjpfllnenaaChk
import Derived.Laws.BytesArg
import Derived.Lib.BufSteps
namespace Go.Proofs.Ytdggbjpfllnenaa
open Go.RowKit Go.Lst Go.Lib

def numsOf (s : ByteArray) : List Int := s.data.toList.map fun c => (c.toNat : Int)
theorem strCells_nums (s : ByteArray) : strCells s = (numsOf s).map (Value.int .u8) := by simp [strCells, numsOf]
theorem numsOf_len (s : ByteArray) : (numsOf s).length = s.size := by simp [numsOf]
def pairB (t : TaskD) : Nat → List Int
  | 0 => []
  | k + 1 => pairB t k ++ [bAt t k, lAt t k + 100]
def headT (t : TaskD) : List Int := [t.Time, t.Needs, (t.Before.length : Int)]
def taskB (t : TaskD) : List Int := headT t ++ pairB t t.Before.length
def tasksB (ts : List TaskD) : Nat → List Int
  | 0 => []
  | k + 1 => tasksB ts k ++ taskB (ts.getD k default)
def startsB (ss : List Int) : Nat → List Int
  | 0 => []
  | k + 1 => startsB ss k ++ [ss.getD k 0 % 256, ss.getD k 0 / 256]
def headB (d : SavedD) : List Int := [80, 76, 78, 49, (d.name.size : Int)] ++ numsOf d.name ++ [(d.tasks.length : Int)]
def bytesB (d : SavedD) : List Int := headB d ++ tasksB d.tasks d.tasks.length ++ startsB d.starts d.starts.length
def chkB (d : SavedD) : Int := chk 0 (strOfNums (bytesB d)).data.toList
def storeB (d : SavedD) : ByteArray := strOfNums (bytesB d ++ [chkB d % 256, chkB d / 256])

theorem bAt_ge {x : TaskD} {i : Int} (h : OkTask x i) : ∀ k, k < x.Before.length → (k : Int) ≤ bAt x k
  | 0, hk => (h.before 0 hk).1
  | k + 1, hk => by
    have h1 := bAt_ge h k (by omega)
    have h2 := (h.before (k + 1) hk).2.2 (by omega)
    simp only [Nat.add_sub_cancel] at h2
    omega
theorem before_len {x : TaskD} {i : Int} (h : OkTask x i) (hi : 0 ≤ i) : (x.Before.length : Int) ≤ i := by
  by_cases h0 : x.Before.length = 0
  · omega
  · have h1 := bAt_ge h (x.Before.length - 1) (by omega)
    have h2 := (h.before (x.Before.length - 1) (by omega)).2.1
    omega
theorem pairB_len (t : TaskD) : ∀ k, (pairB t k).length = 2 * k
  | 0 => rfl
  | k + 1 => by simp only [pairB, List.length_append, pairB_len t k, List.length_cons, List.length_nil]; omega
theorem startsB_len (ss : List Int) : ∀ k, (startsB ss k).length = 2 * k
  | 0 => rfl
  | k + 1 => by simp only [startsB, List.length_append, startsB_len ss k, List.length_cons, List.length_nil]; omega
theorem tasksB_len {ts : List TaskD} (h : AreT ts) : ∀ k, k ≤ ts.length → (tasksB ts k).length ≤ 35 * k
  | 0, _ => Nat.le_refl _
  | k + 1, hk => by
    have h1 := tasksB_len h k (by omega)
    have e : ts[k]? = some ts[k] := List.getElem?_eq_getElem (by omega)
    have h2 := before_len (h.each k _ e) (by omega)
    have h3 := h.most
    simp only [tasksB, taskB, headT, List.length_append, List.length_cons, List.length_nil, pairB_len, getD_some e]
    omega
/-- What a valid one is. -/
structure OkS (d : SavedD) : Prop where
  small : 1 ≤ d.name.size ∧ d.name.size ≤ 8
  tasks : AreT d.tasks
  len : d.starts.length = d.tasks.length
  starts : ∀ (k : Nat) (x : Int), d.starts[k]? = some x → 0 ≤ x ∧ x ≤ 65535
theorem okS_of {d : SavedD} (h : okSaved d = true) : OkS d := by
  unfold okSaved at h
  simp only [Bool.and_eq_true, decide_eq_true_eq] at h
  obtain ⟨⟨⟨h1, h2⟩, h3⟩, h4⟩ := h
  unfold isName at h1
  simp only [Bool.and_eq_true, decide_eq_true_eq] at h1
  exact ⟨h1.2, areTasks_iff.1 h2, h3, fun k x hx => allIn_of h4 hx⟩
theorem headB_len {d : SavedD} (h : OkS d) : (headB d).length ≤ 14 := by
  have := h.small
  simp only [headB, List.length_append, numsOf_len, List.length_cons, List.length_nil]
  omega
theorem some_len {d : SavedD} (h : OkS d) {k m : Nat} (hk : k ≤ d.tasks.length) (hm : m ≤ d.starts.length) : (headB d ++ tasksB d.tasks k ++ startsB d.starts m).length ≤ 700 := by
  have h1 := headB_len h
  have h2 := tasksB_len h.tasks k hk
  have h3 := h.tasks.most
  have h4 := h.len
  simp only [List.length_append, startsB_len]
  omega
/-- A buffer that the call owns, with these bytes. -/
def Buf (A : Nat) (W0 : World) (v : Value) (l : List Int) (w : World) : Prop := (∃ g c, v = .slice (some ⟨g, 0, none⟩) l.length c ∧ w.heap.size > g) ∧ Lib.OwnBuf A 5 v l.length (l.map (Value.int .u8)) W0 w
theorem buf_of {A n : Nat} {W0 w : World} {v : Value} {l : List Int} (h : Lib.OwnBuf A 5 v n (l.map (Value.int .u8)) W0 w) (hn : l.length = n) (h0 : 0 < n) : Buf A W0 v l w := by
  subst hn
  refine ⟨?_, h⟩
  obtain ⟨ho, -, -⟩ := h
  have hlt := ho.lt
  obtain ⟨_, h2⟩ := ho
  rcases h2 with ⟨rfl, h3⟩ | ⟨g, cap, cur, fz, h3, _⟩
  · omega
  · subst h3
    exact ⟨g, cap, rfl, (hlt g rfl).2⟩
theorem app_bytes {P : Program} {ops : Array Oper} {rest : List Oper} {o : Oper} {a : Act} {Q : Exit → Act → World → Prop} (hgd : o.guard = none) (s x : Operand) (t : TypeId)
    (ho : o.op = .call { callee := .builtin .append, args := #[s, x], argTypes := #[t, t] })
    (B : Nat) (e : TypeId) (i : TypeInfo) (ht : P.underlying t = some (.slice e)) (hi : P.info? e = some i) (hz : i.zero = some (.int .u8 0)) (hsize : i.size = 1) (hby : i.bytes = 1)
    (v : Value) (n : Nat) (xs : List Value) (hs : a.eval s = v) (W0 w0 : World) (cs : List Int) (hb : Lib.OwnBuf B e v n xs W0 w0)
    (hx : a.eval x = .slice (some ⟨w0.heap.size, 0, none⟩) cs.length cs.length) (hlen : n + cs.length ≤ 140737488355328)
    (h : ∀ v' w', Lib.OwnBuf B e v' (n + cs.length) (xs ++ cs.map (Value.int .u8)) W0 w' → wpList P ops Q rest (a.put o.dst v') w') : wpList P ops Q (o :: rest) a (w0.alloc (.cells (cs.map (Value.int .u8)).toArray e)) := by
  have hb' := hb.alloc (.cells (cs.map (Value.int .u8)).toArray e)
  refine wpList_append_ownF _ hgd s x t ho B e i (.int .u8 0) 1 1 ht hi hz hsize hby rfl (by decide) v n xs hs hb'.1 ⟨w0.heap.size, 0, none⟩ cs.length cs.length (cs.map (Value.int .u8)) hx (by simp) ?_ ?_ (by unfold maxLen; omega) (by omega) hb'.2.2 ?_
  · intro j u hj
    have ea : (⟨w0.heap.size, 0, none⟩ : Addr).add j = ⟨w0.heap.size, j, none⟩ := by unfold Addr.add; split <;> simp_all
    rw [ea]
    exact (Whole.made w0 e (cs.map (Value.int .u8)).toArray (b := w0.heap.size) rfl).at_ (i := j) (by simpa using hj)
  · intro u hu
    obtain ⟨y, _, rfl⟩ := List.mem_map.1 hu
    rfl
  · intro v' w' ho' hg _
    exact h v' w' (hb'.grown ho' hg)
end Go.Proofs.Ytdggbjpfllnenaa
