/- Contracts: rounds and the same ones the other way; the program's side. -/
import Derived.Test.YtpmglmpopmppbaaRoundsRun
import Derived.Test.YtpmglmpopmppbaaPost
import Derived.ArgAppend
namespace Go.Proofs.Ytpmglmpopmppbaa
open Go.RowKit Go.Lst Go.Shelf

attribute [local go_sem] Oper.semAt_some

def flatB : List (Int × Int) → List Int
  | [] => []
  | p :: r => p.2 :: p.1 :: flatB r
theorem flatB_snoc : ∀ (ps : List (Int × Int)) (p : Int × Int), flatB (ps ++ [p]) = flatB ps ++ [p.2, p.1]
  | [], _ => rfl
  | q :: r, p => by
    show q.2 :: q.1 :: flatB (r ++ [p]) = _
    rw [flatB_snoc r p]; rfl
theorem flatB_length : ∀ ps : List (Int × Int), (flatB ps).length = 2 * ps.length
  | [] => rfl
  | q :: r => by
    show (flatB r).length + 1 + 1 = _
    rw [flatB_length r, List.length_cons]; omega
theorem flatB_mem {x : Int} : ∀ {ps : List (Int × Int)}, x ∈ flatB ps → ∃ p ∈ ps, x = p.1 ∨ x = p.2
  | q :: r, h => by
    rcases List.mem_cons.1 h with e | h
    · exact ⟨q, by simp, .inr e⟩
    · rcases List.mem_cons.1 h with e | h
      · exact ⟨q, by simp, .inl e⟩
      · obtain ⟨p, hp, e⟩ := flatB_mem h
        exact ⟨p, by simp [hp], e⟩
def backL (xs : List Int) : List Int := xs ++ flatB (pairsL xs)
theorem backL_length {xs : List Int} (h : xs.length % 2 = 0) : (backL xs).length = xs.length + xs.length := by
  unfold backL
  rw [List.length_append, flatB_length, pairsL_length]; omega
theorem backL_wf {xs : List Int} (h : ∀ x ∈ xs, (Lit.int .i64 x).wf = true) : ∀ x ∈ backL xs, (Lit.int .i64 x).wf = true := fun x hx => by
  unfold backL at hx
  rcases List.mem_append.1 hx with hx | hx
  · exact h x hx
  · obtain ⟨p, hp, e | e⟩ := flatB_mem hx
    · rw [e]; exact h _ (pair_mem hp).1
    · rw [e]; exact h _ (pair_mem hp).2
def backOk (T : Int) (xs : List Int) : Bool := roundsOk T xs && roundsOk T (backL xs)
def backRes (T : Int) (xs : List Int) : List Int := if backOk T xs then backL xs else []
theorem back_no {T : Int} {xs : List Int} (h : backOk T xs = false) : backRes T xs = [] := by unfold backRes; rw [h]; rfl
theorem back_yes {T : Int} {xs : List Int} (h : backOk T xs = true) : backRes T xs = backL xs := by unfold backRes; rw [h]; rfl
theorem OwnFrom.or {β : Type} {B : Nat} {I I' : β → World → Prop} (h : OwnFrom B I) (h' : OwnFrom B I') : OwnFrom B (fun s W => I s W ∨ I' s W) := fun s W W' row hs hg hr => hs.elim (fun x => .inl (h s W W' row x hg hr)) (fun x => .inr (h' s W W' row x hg hr))
theorem boxed_own {β : Type} {B G : Nat} {t : TypeId} {v : Value} (p : β → Prop) : OwnFrom B (fun s W => p s ∧ Boxed W G t v) := fun s W W' row hs hg hr => ⟨hs.1, hs.2.kept hg fun e => by
  obtain ⟨_, o, ho, hc⟩ := hr G e.symm
  rw [show W.heap[G]? = _ from hs.2] at ho; cases ho; cases hc⟩
/-- The box holds a slice that the first append has made anew. -/
theorem boxed_grew {W w1 : World} {n₀ B : Nat} {t e : TypeId} {size : Nat} {v v' : Value} {m : Nat} {ys : List Value} {tmp : Obj}
    (hv : Boxed W B t v) (hte : t ≠ e) (hn₀ : n₀ ≤ W.heap.size) (hB : n₀ ≤ B)
    (hown' : w1.ownsRow n₀ e size v' m ys) (hgrow : (W.alloc tmp).grownBy w1 none) :
    Boxed w1 B t v ∧ Boxed (w1.setCell ⟨B, 0, none⟩ v') B t v' ∧ (w1.setCell ⟨B, 0, none⟩ v').ownsRow n₀ e size v' m ys ∧ KeepsOthers W (w1.setCell ⟨B, 0, none⟩ v') ∧ Below n₀ W (w1.setCell ⟨B, 0, none⟩ v') := by
  have hv1 : Boxed w1 B t v := (hv.alloc tmp).kept hgrow (by simp)
  refine ⟨hv1, hv1.set v', hown'.kept (grownBy_setCell' w1 B v') (.inr (hv1.not_row hte hown').symm), ?_, ?_⟩
  · exact ((KeepsOthers.alloc W tmp).trans (KeepsOthers.of_grownBy hgrow fun j o ej hj => by cases ej)).trans (KeepsOthers.setCell _ _ _)
  · exact (((Below.refl n₀ W).alloc hn₀ tmp).grown hgrow (by simp; omega) fun j ej => by cases ej).setCell (p := ⟨B, 0, none⟩) hB v'
/-- append to a slice that is full, in a fence: a new row. -/
theorem wpListIn_append_grows {F : Fence} {nF : Nat} {P : Program} (w : World) {ops : Array Oper} {rest : List Oper} {o : Oper} {a : Act} {Q : Exit → Act → World → Prop}
    (hg : o.guard = none) (s x : Operand) (t : TypeId) (hop : o.op = Op.call { callee := Callee.builtin Builtin.append, args := #[s, x], argTypes := #[t, t] })
    (e : TypeId) (i : TypeInfo) (z : Value) (size bytes : Nat) (h1 : P.underlying t = some (.slice e)) (h2 : P.info? e = some i) (h3 : i.zero = some z) (h4 : i.size = size) (h5 : i.bytes = bytes) (h6 : z.cells.size = size) (h7 : 0 < size)
    (b : Addr) (n cap : Nat) (olds : List Value) (hs : a.eval s = .slice (some b) n cap) (hlo : olds.length = n * size) (holds : ∀ j u, olds[j]? = some u → w.cell? (b.add j) = some u)
    (ad : Addr) (m c : Nat) (news : List Value) (hx : a.eval x = .slice (some ad) m c) (hn : news.length = m * size) (hc : ∀ j u, news[j]? = some u → w.cell? (ad.add j) = some u)
    (hfull : cap < n + m) (b1 : n + m ≤ maxLen) (b2 : (n + m) * bytes ≤ 140737488355328)
    (hK : ∀ v' w', w'.ownsRow w.heap.size e size v' (n + m) (olds ++ news) → w.grownBy w' none → wpListIn F nF P ops Q rest (a.put o.dst v') w') :
    wpListIn F nF P ops Q (o :: rest) a w := by
  refine wpListIn_plain hg fun K hK' => ?_
  obtain ⟨v', w', hrun, r1, r2⟩ := run_append_arg_grows (P := P) w t o.type e i z size bytes h1 h2 h3 h4 h5 h6 h7 b n cap olds hlo holds ad m c news hn hc hfull b1 b2
  unfold Oper.wpIn
  refine ⟨by simp [Oper.about, hop, resolve, Target.leads, Sem.run_pure], ?_⟩
  rw [Oper.semAt_plain F _ _ (by rw [hop]; intro c hc'; cases hc')]
  simp [execOp, hop, resolve, invoke, builtin, hs, hx, hrun, Result.andThen]
  exact hK' _ _ (hK v' w' r1 r2)
theorem slice_full (b o n cap : Nat) (W : World) (h0 : 1 ≤ n) (h1 : n ≤ cap) :
    (Instr.slice 22 (.slice (some ⟨b, o, none⟩) n cap) none (some (.int .i64 (n : Int))) (some (.int .i64 (n : Int)))).run Try.prog W = .ok (.slice (some ⟨b, o, none⟩) n n) W := by
  have e1 : n ≤ cap := by omega
  have e2 : ¬ cap < n := by omega
  have e3 : ¬ n = 0 := by omega
  simp [Instr.slice, run_underlying Try.underlying22, Instr.sliceBounds, Instr.sliceBound, asIntOf, go_sem, e1, e2, e3]
theorem back_snoc (xs : List Int) (pre : List (PairIn xs)) (x : PairIn xs) : (xs ++ flatB ((pre ++ [x]).map (·.1))).map (Value.int .i64) = (xs ++ flatB (pre.map (·.1))).map (Value.int .i64) ++ [.int .i64 x.1.2, .int .i64 x.1.1] := by
  rw [List.map_append (f := fun x : PairIn xs => x.1), show [x].map (fun x : PairIn xs => x.1) = [x.1] from rfl, flatB_snoc, ← List.append_assoc, List.map_append]; rfl
theorem backAddr (b o j : Nat) : (⟨b, o, none⟩ : Addr).add j = ⟨b, o + j, none⟩ := by unfold Addr.add; split <;> simp_all
theorem ints_two (x y : Int) : ∀ u ∈ [Value.int .i64 x, Value.int .i64 y], u.oneCell' = true := by simp [Value.oneCell']
theorem newsTwo (w : World) (t : TypeId) (u v : Value) : ∀ (j : Nat) (x : Value), [u, v][j]? = some x → (w.alloc (.cells #[u, v] t)).cell? ((⟨w.heap.size, 0, none⟩ : Addr).add j) = some x := fun j x hj => by
  match j, hj with
  | 0, hj =>
    obtain rfl : u = x := by simpa using hj
    exact (Whole.made w t #[u, v] rfl).at_ rfl
  | 1, hj =>
    obtain rfl : v = x := by simpa using hj
    exact (Whole.made w t #[u, v] rfl).at_ rfl
  | j + 2, hj => simp at hj
theorem row_ints {w : World} {A n : Nat} {v : Value} {l : List Int} (ho : w.ownsRow A 2 1 v n (l.map (Value.int .i64))) (hl : l.length = n) (hn : n ≤ 1048576) : LstI w.heap.size w v l := by
  subst hl
  exact (Own.new ho (by unfold maxLen; omega)).lstI (Nat.le_refl _)
theorem roundsAt {q : Bool} (B : Nat) (v : Value) (xs : List Int) (T : Int) (w : World) (h : LstI B w v xs) (hB : B ≤ w.heap.size) (hwf : ∀ x ∈ xs, (Lit.int .i64 x).wf = true) (hq : roundsOk T xs = q) :
    Calls Try.prog 22 #[.int .i64 T, v] w fun x w' => x = .returned (.bool q) ∧ Below w.heap.size w w' := by
  rw [← hq]; exact implAreRounds_any B v xs T w h hB hwf
set_option maxHeartbeats 4000000 in
set_option maxRecDepth 100000 in
theorem implBack_no (B : Nat) (v : Value) (xs : List Int) (T : Int) (w : World) (h : LstI B w v xs) (hB : B ≤ w.heap.size) (hwf : ∀ x ∈ xs, (Lit.int .i64 x).wf = true) (hq : roundsOk T xs = false) :
    Calls Try.prog 31 #[.int .i64 T, v] w (ListPost (backRes T xs) (backOk T xs) w) := by
  have hC := Lib.hid (roundsAt B v xs T w h hB hwf hq)
  have hok : backOk T xs = false := by unfold backOk; rw [hq]; rfl
  have hF : Hid (∀ w', Below w.heap.size w w' → ListPost (backRes T xs) (backOk T xs) w (.returned (.tuple #[.slice none 0 0, .bool false])) w') := Lib.hid fun w' hb => list_no (back_no hok) hok hb
  obtain ⟨a, cap, rfl, _⟩ := h.at_
  clear h hwf hok
  generalize ListPost (backRes T xs) (backOk T xs) w = Q at *
  generalize xs.length = n at *
  go_enter Try.func31, Try.ntmps31
  go_wp2_with (go_at_call 22; (with_reducible refine hC.out.mono ?_); rintro e' w5 ⟨rfl, hb5⟩; have hQe := Lib.hid (hF.out _ hb5); clear hb5)
  show Q (.returned (.tuple #[_, _])) _
  exact Hid.out (by assumption)
set_option maxHeartbeats 8000000 in
set_option maxRecDepth 100000 in
theorem implBack_run (b o cap t n : Nat) (xs : List Int) (B : Nat) (w : World) (h : LstI B w (.slice (some ⟨b, o, none⟩) n cap) xs) (hB : B ≤ w.heap.size) (hbB : b < B) (hwf : ∀ x ∈ xs, (Lit.int .i64 x).wf = true)
    (hxn : xs.length = n) (hev : n % 2 = 0) (hn1 : 1 ≤ n) (hn480 : n ≤ 480) (hcap : n ≤ cap) (hq : roundsOk t xs = true) :
    Calls Try.prog 31 #[.int .i64 t, .slice (some ⟨b, o, none⟩) n cap] w (ListPost (backRes t xs) (backOk t xs) w) := by
  have hC := Lib.hid (roundsAt B _ xs t w h hB hwf hq)
  have hok : backOk t xs = roundsOk t (backL xs) := by unfold backOk; rw [hq, Bool.true_and]
  have hF : Hid (roundsOk t (backL xs) = false → ∀ w', Below w.heap.size w w' → ListPost (backRes t xs) (backOk t xs) w (.returned (.tuple #[.slice none 0 0, .bool false])) w') := Lib.hid fun hf w' hb => list_no (back_no (hok.trans hf)) (hok.trans hf) hb
  have hP : Hid (roundsOk t (backL xs) = true → ∀ (w' : World) (v : Value), w'.ownsRow w.heap.size 2 1 v (n + n) ((backL xs).map (Value.int .i64)) → Below w.heap.size w w' → ListPost (backRes t xs) (backOk t xs) w (.returned (.tuple #[v, .bool true])) w') := Lib.hid fun hf w' v ho hb => by
    rw [back_yes (hok.trans hf)]
    exact list_yes (hok.trans hf) (Nat.le_refl _) (by rw [backL_length (by omega)]; omega) ho (by omega) hb
  have hA2 : Hid (∀ (W : World) (v : Value), W.ownsRow w.heap.size 2 1 v (n + n) ((backL xs).map (Value.int .i64)) → Calls Try.prog 22 #[.int .i64 t, v] W fun x w' => x = .returned (.bool (roundsOk t (backL xs))) ∧ Below W.heap.size W w') := Lib.hid fun W v ho =>
    implAreRounds_any W.heap.size v (backL xs) t W (row_ints ho (by rw [backL_length (by omega)]; omega) (by omega)) (Nat.le_refl _) (backL_wf hwf)
  have hBk : Hid (backL xs = xs ++ flatB (pairsL xs)) := Lib.hid rfl
  have hCells : Hid (∀ W : World, Below w.heap.size w W → ∀ j u, (xs.map (Value.int .i64))[j]? = some u → W.cell? ((⟨b, o, none⟩ : Addr).add j) = some u) := Lib.hid fun W hW j u hu => by
    obtain ⟨a', c', hv', _, _, _, hc⟩ := h.at_
    injection hv' with e1 _ _
    subst e1
    rw [List.getElem?_map] at hu
    cases hx : xs[j]? with
    | none => rw [hx] at hu; cases hu
    | some x =>
      rw [hx] at hu
      obtain rfl : Value.int .i64 x = u := Option.some.inj hu
      obtain ⟨b', o', x', he, _, hx', hcell⟩ := hc j (List.getElem?_eq_some_iff.1 hx).1
      injection he with he
      injection he with e1 e2 _
      subst e1 e2
      rw [hx] at hx'
      obtain rfl := Option.some.inj hx'
      rw [backAddr, hW.cell (p := ⟨b, o + j, none⟩) (show b < w.heap.size by omega)]
      exact hcell
  have hLw := Lib.hid h
  have hXn := Lib.hid hxn
  have hXm : Hid ((xs.map (Value.int .i64)).length = n * 1) := Lib.hid (by rw [List.length_map, hxn, Nat.mul_one])
  have hPn : Hid ((pairsL xs).length = n / 2) := Lib.hid (by rw [pairsL_length, hxn])
  have hPr := Lib.hid (fun k w' a' cap' => pairsOf_any a' k cap' w')
  have hs3 := fun W => slice_full b o n cap W hn1 hcap
  obtain ⟨i0, hi, hz0, hz1, hz2⟩ := info_parts infoI
  have hEv := Lib.hid hev
  clear h hxn hok hwf hq hev
  generalize roundsOk t (backL xs) = q at *
  generalize ListPost (backRes t xs) (backOk t xs) w = Q at *
  refine (callsIn_wide (n := 5)).1 ?_
  have h1 : 1 ≤ 5 := by omega
  have h4 : 1 ≤ 5 - 1 := by omega
  refine callsIn_of_wp_marks Try.func31 rfl trivial ?_ rfl
  simp only [Try.ntmps31, List.size_toArray, List.length_cons, List.length_nil, Nat.reduceAdd, Nat.reduceSub, Array.replicate_succ, Array.replicate_zero, List.push_toArray, List.append_toArray, List.nil_append, List.cons_append]
  gi_wp2_with (first | (refine ⟨trivial, ?_⟩; gi_at_call 22; (with_reducible refine (callsIn_wide.2 hC.out).mono ?_); rintro e' w5 ⟨rfl, hb5⟩; have hB5 := Lib.hid hb5; clear hb5) | (refine ⟨trivial, ?_⟩; gi_at_call 53; (with_reducible refine (callsIn_wide.2 (hPr.out _ _ _ _)).mono ?_); rintro e' w' ⟨rfl, rfl⟩))
  have hxs : xs.length % 2 = 0 := by rw [hXn.out]; exact hEv.out
  have hxs2 : xs.length ≤ 2000 := by rw [hXn.out]; omega
  have hMw : w.heap.size ≤ w5.heap.size := hB5.out.size
  have q1 := (Boxed.new w5 22 (.slice (some ⟨b, o, none⟩) n n)).alloc (.cells #[.slice (some ⟨b, o, none⟩) n cap] 22)
  have q2 := Boxed.new (w5.alloc (.cells #[.slice (some ⟨b, o, none⟩) n n] 22)) 22 (.slice (some ⟨b, o, none⟩) n cap)
  have hBel : Below w.heap.size w ((w5.alloc (.cells #[.slice (some ⟨b, o, none⟩) n n] 22)).alloc (.cells #[.slice (some ⟨b, o, none⟩) n cap] 22)) := (hB5.out.alloc hMw _).alloc (by simp; omega) _
  have z1 : w5.heap.size + 1 < ((w5.alloc (.cells #[.slice (some ⟨b, o, none⟩) n n] 22)).alloc (.cells #[.slice (some ⟨b, o, none⟩) n cap] 22)).heap.size := by simp
  rw [World.size_alloc] at q2
  have hcB := q2.cell
  generalize ((w5.alloc _).alloc _) = W0 at *
  generalize w5.heap.size = M at *
  have hLW : LstI w.heap.size W0 (.slice (some ⟨b, o, none⟩) n cap) xs := (hLw.out.below hBel hB).mono hB
  clear hC hB5 q2 hPr
  refine wpIn_rangeFunc_ownG rfl h1 (gf := 73) (lb := #[.pointer (some ⟨M + 1, 0, none⟩)]) rfl trivial (enters_of Try.func73 (by kernel_rfl) rfl)
    (pairs_stops (5 - 1) (M + 1) w.heap.size (by omega) _ xs W0 (by omega) (by omega) hcB hLW hxs hxs2) KeptA.t (KeptA.b (by omega)) (Below.refl _ _) (fun _ => rfl)
    (fun (pre : List (PairIn xs)) (W : World) => ((pre = [] ∧ Boxed W M 22 (.slice (some ⟨b, o, none⟩) n n)) ∨ (∃ v, Boxed W M 22 v ∧ W.ownsRow w.heap.size 2 1 v (n + 2 * pre.length) ((xs ++ flatB (pre.map (·.1))).map (Value.int .i64)) ∧ True)) ∧ (Below w.heap.size w W ∧ W0.heap.size ≤ W.heap.size))
    (fun (c : Code) (pre : List (PairIn xs)) (W : World) => False)
    (OwnFrom.and (OwnFrom.or (boxed_own (fun pre : List (PairIn xs) => pre = [])) ((holdsRow_own w.heap.size M 22 2 1 (fun pre : List (PairIn xs) => n + 2 * pre.length) (fun pre => (xs ++ flatB (pre.map (·.1))).map (Value.int .i64)) (fun _ _ => True)).from _))
      (ownFrom_of_below (fun s W h => h.2) (by intro s W W' h hb; exact ⟨h.1.trans (hb.mono (by omega)), Nat.le_trans h.2 hb.size⟩)))
    (fun c => fun s W W' row h _ _ => h)
    ⟨.inl ⟨rfl, q1⟩, hBel, Nat.le_refl _⟩
    (fun x => { tmps := #[.int .i64 t, .slice (some ⟨b, o, none⟩) n cap, undef, undef, .slice none 0 0, .bool false, .pointer (some ⟨M, 0, none⟩), .int .i64 x.1.1, .int .i64 x.1.2, .int .i64 t, .slice (some ⟨b, o, none⟩) n cap, .bool true, .bool false, .slice (some ⟨b, o, none⟩) n cap, .slice (some ⟨b, o, none⟩) n cap, .int .i64 n, .slice (some ⟨b, o, none⟩) n cap, .int .i64 n, .slice (some ⟨b, o, none⟩) n n, .slice (some ⟨b, o, none⟩) n cap, .func (.func 73) #[] #[.pointer (some ⟨M + 1, 0, none⟩)], .int .i64 x.1.1, .int .i64 x.1.2, undef, undef, undef, undef, undef, undef, undef, undef, undef, undef], defers := [] }) ?assign ?body ?done ?stop
  case assign =>
    intro l x W K hK
    gi_wp2
    exact hK
  case body =>
    rintro l pre ⟨⟨pa, pb⟩, hx⟩ W ⟨hor, hbw, hsw⟩ hlt
    have hpl : pre.length ≤ 480 := by have := hXn.out; omega
    have hle : w.heap.size ≤ W.heap.size := by omega
    rcases hor with ⟨rfl, b3⟩ | ⟨v, b3, hrow, _⟩
    · have c3 := b3.cell
      have hcs := Lib.hid (hCells.out _ (hbw.alloc hle (.cells #[.int .i64 pb, .int .i64 pa] 2)))
      gi_wp2_with (gi_at_builtin; refine wpListIn_append_grows _ rfl _ _ _ rfl 2 i0 (.int .i64 0) 1 8 Try.underlying22 hi hz0 hz1 hz2 rfl (by decide) ⟨b, o, none⟩ n n _ rfl hXm.out hcs.out ⟨W.heap.size, 0, none⟩ 2 2 [.int .i64 pb, .int .i64 pa] rfl rfl (newsTwo W _ _ _) (by omega) (by unfold maxLen; omega) (by omega) ?_; intro v' w6 hown6 hgrow6; have hown7 := ownsRow_mono hown6 (show w.heap.size ≤ _ by rw [World.size_alloc]; omega); clear hown6; obtain ⟨g', cap', rfl⟩ := ownsRow_succ hown7; obtain ⟨hv1, hv2, hr2, hk2, hb2⟩ := boxed_grew b3 (by decide) hle (by omega) hown7 hgrow6; have hc1 := hv1.cell; have hf1 := hv1.frozen)
      refine ⟨hk2.from _, (kept_append (v := .slice none 0 0) (k := 0) (xs := []) (e := 2) (size := 1) (by decide) (World.ownsRow_nil W _ _ _) hle hgrow6).set (p := ⟨M, 0, none⟩) (show w.heap.size ≤ M by omega) (show M < W0.heap.size by omega) _, .inr ⟨_, hv2, ?_, trivial⟩, hbw.trans hb2, Nat.le_trans hsw hb2.size⟩
      rw [back_snoc xs [] ⟨(pa, pb), hx⟩, show xs ++ flatB (([] : List (PairIn xs)).map (fun x : PairIn xs => x.1)) = xs from List.append_nil xs]
      exact hr2
    · have c3 := b3.cell
      gi_wp2_with (gi_at_builtin; refine wpListIn_append_own _ rfl _ _ _ rfl w.heap.size 2 i0 (.int .i64 0) 1 8 Try.underlying22 hi hz0 hz1 hz2 rfl (by decide) _ (n + 2 * pre.length) _ rfl (hrow.alloc _) ⟨W.heap.size, 0, none⟩ 2 2 [.int .i64 pb, .int .i64 pa] rfl rfl (newsTwo W _ _ _) (ints_two _ _) (by unfold maxLen; omega) (by omega) (by simp; omega) ?_; intro v' w6 hown6 hgrow6 _; obtain ⟨g', cap', rfl⟩ := ownsRow_succ hown6; obtain ⟨hv1, hv2, hr2, hk2, hb2⟩ := b3.appended (by decide) hrow hle (by omega) hown6 hgrow6; have hc1 := hv1.cell; have hf1 := hv1.frozen)
      refine ⟨hk2.from _, (kept_append (by decide) hrow hle hgrow6).set (p := ⟨M, 0, none⟩) (show w.heap.size ≤ M by omega) (show M < W0.heap.size by omega) _, .inr ⟨_, hv2, ?_, trivial⟩, hbw.trans hb2, Nat.le_trans hsw hb2.size⟩
      rw [back_snoc xs pre ⟨(pa, pb), hx⟩, List.length_append]
      exact hr2
  case done =>
    rintro D ys W hD hys ⟨hor, hbw, hsw⟩ hK
    have hys2 : ys.map (·.1) = pairsL xs := hys
    have hyl : ys.length = n / 2 := by rw [← hPn.out, ← hys2, List.length_map]
    rcases hor with ⟨rfl, _⟩ | ⟨v, b3, hrow, _⟩
    · exfalso
      have := hEv.out
      simp at hyl
      omega
    · rw [hys2, hyl, ← hBk.out, show n + 2 * (n / 2) = n + n by have := hEv.out; omega] at hrow
      obtain ⟨g, c, rfl, hg0⟩ : ∃ g c, v = .slice (some ⟨g, 0, none⟩) (n + n) c ∧ w.heap.size ≤ g := by
        rcases hrow.2 with ⟨_, h0⟩ | ⟨g, c, cur, rfl, hAg, _⟩
        · omega
        · exact ⟨g, c, rfl, hAg⟩
      have hgl := (hrow.lt g rfl).2
      have c3 := b3.cell
      have hAA := Lib.hid (hA2.out W _ hrow)
      clear hA2
      cases q
      · have hFF := Lib.hid (hF.out rfl)
        clear hF hP
        gi_wp2_with (refine ⟨trivial, ?_⟩; gi_at_call 22; (with_reducible refine (callsIn_wide.2 hAA.out).mono ?_); rintro e' w7 ⟨rfl, hb7⟩; have hB7 := Lib.hid hb7; have hK7 := Lib.hid ((hb7.block D (Array.getElem?_eq_some_iff.1 hK).1).trans hK); clear hb7)
        refine ⟨by simp, .inl ⟨_, _, rfl, run_takeDeferred hK7.out, ?_⟩⟩
        exact ⟨.tuple #[.slice none 0 0, .bool false], by simp [results, Try.f31, go_sem], hFF.out _ ((hbw.trans (hB7.out.mono (by omega))).trans (belowK_b (w := W0) (by omega) _ D _ _ hD hK7.out rfl rfl))⟩
      · have hPP := Lib.hid (hP.out rfl)
        clear hF hP
        gi_wp2_with (refine ⟨trivial, ?_⟩; gi_at_call 22; (with_reducible refine (callsIn_wide.2 hAA.out).mono ?_); rintro e' w7 ⟨rfl, hb7⟩; have hB7 := Lib.hid hb7; have hK7 := Lib.hid ((hb7.block D (Array.getElem?_eq_some_iff.1 hK).1).trans hK); have c7 := (boxed_below b3 hb7 b3.lt).cell; have hr7 := Lib.hid (ownsRow_below hrow hb7 hgl); clear hb7)
        refine ⟨by simp, .inl ⟨_, _, rfl, run_takeDeferred hK7.out, ?_⟩⟩
        exact ⟨.tuple #[.slice (some ⟨g, 0, none⟩) (n + n) c, .bool true], by simp [results, Try.f31, go_sem], hPP.out _ _ (ownsRow_putObj hr7.out _ hK7.out rfl) ((hbw.trans (hB7.out.mono (by omega))).trans (belowK_b (w := W0) (by omega) _ D _ _ hD hK7.out rfl rfl))⟩
  case stop =>
    rintro D c pre W _ _ h _
    exact h.elim
end Go.Proofs.Ytpmglmpopmppbaa
