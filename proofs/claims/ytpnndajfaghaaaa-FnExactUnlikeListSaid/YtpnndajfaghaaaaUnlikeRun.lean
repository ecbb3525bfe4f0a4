/- The program's UnlikeList: the rows of times, each job to the machine where it ends first. No condition. -/
import Derived.Test.YtpnndajfaghaaaaUnlikeImpl
import Derived.Test.YtpnndajfaghaaaaUnlikeSpec
import Derived.Test.YtpnndajfaghaaaaChunk
import Derived.Test.YtpnndajfaghaaaaConcat
import Derived.Test.YtpnndajfaghaaaaInRound
import Derived.ArgAppend
namespace Go.Proofs.Ytpnndajfaghaaaa
open Go.RowKit Go.Lst Go.Plan Go.Shelf

attribute [local go_sem] Oper.semAt_some

def stepU (ts : List Int) (m : Nat) (s : List Int × List Int) (i : Nat) : List Int × List Int :=
  (s.1 ++ [((leastAt (endsAt ts s.2 m (i * m)) (m - 1) : Nat) : Int)], s.2.set (leastAt (endsAt ts s.2 m (i * m)) (m - 1)) ((endsAt ts s.2 m (i * m)).getD (leastAt (endsAt ts s.2 m (i * m)) (m - 1)) 0))
def unL (ts : List Int) (m : Nat) (L : List Nat) : List Int × List Int := L.foldl (stepU ts m) ([], List.replicate m 0)
theorem unL_snoc (ts : List Int) (m : Nat) (L : List Nat) (i : Nat) : unL ts m (L ++ [i]) = stepU ts m (unL ts m L) i := by unfold unL; rw [List.foldl_append]; rfl
theorem unL_range (ts : List Int) (m : Nat) : ∀ i, unL ts m (List.range i) = unTo ts m i
  | 0 => rfl
  | i + 1 => by rw [List.range_succ, unL_snoc, unL_range ts m i]; rfl
theorem unL_length (ts : List Int) (m : Nat) (L : List Nat) : ∀ s : List Int × List Int, (L.foldl (stepU ts m) s).1.length = s.1.length + L.length ∧ (L.foldl (stepU ts m) s).2.length = s.2.length := by
  induction L with
  | nil => intro s; simp
  | cons i L ih =>
    intro s
    have h := ih (stepU ts m s i)
    rw [List.foldl_cons, h.1, h.2]
    unfold stepU
    simp
    omega
/-- What is known of one row. -/
theorem step_round {ts : List Int} {m : Nat} (ht : allIn ts 1 10000 = true) (hm : 1 ≤ m) {i : Nat} {pl fs : List Int} {c : Int} (hi : i * m + m ≤ ts.length) (hf : Small fs c) (c0 : 0 ≤ c) :
    ∃ a : Nat, a = leastAt (endsAt ts fs m (i * m)) (m - 1) ∧ a < m ∧ stepU ts m (pl, fs) i = (pl ++ [(a : Int)], fs.set a (fs.getD a 0 + ts.getD (i * m + a) 0)) ∧ Small (fs.set a (fs.getD a 0 + ts.getD (i * m + a) 0)) (c + 10000) := by
  have ha := leastAt_le (endsAt ts fs m (i * m)) (m - 1)
  have e : (endsAt ts fs m (i * m)).getD (leastAt (endsAt ts fs m (i * m)) (m - 1)) 0 = fs.getD (leastAt (endsAt ts fs m (i * m)) (m - 1)) 0 + ts.getD (i * m + leastAt (endsAt ts fs m (i * m)) (m - 1)) 0 := getD_of (endsAt_get ts fs (by omega))
  have hx : 1 ≤ ts.getD (i * m + leastAt (endsAt ts fs m (i * m)) (m - 1)) 0 ∧ ts.getD (i * m + leastAt (endsAt ts fs m (i * m)) (m - 1)) 0 ≤ 10000 := by
    have e1 : ts[i * m + leastAt (endsAt ts fs m (i * m)) (m - 1)]? = some (ts[i * m + leastAt (endsAt ts fs m (i * m)) (m - 1)]'(by omega)) := List.getElem?_eq_getElem _
    rw [getD_of e1]
    exact allIn_of ht e1
  have hfa := hf (leastAt (endsAt ts fs m (i * m)) (m - 1))
  refine ⟨_, rfl, by omega, ?_, hf.set ⟨by omega, by omega⟩ (by omega)⟩
  unfold stepU
  simp only
  rw [e]
/-- The ends so far: the first k machines have been done. -/
def endsTo (ts fs : List Int) (m b k : Nat) : List Int := (List.range m).map fun j => fs.getD j 0 + if j < k then ts.getD (b + j) 0 else 0
theorem endsTo_length (ts fs : List Int) (m b k : Nat) : (endsTo ts fs m b k).length = m := by simp [endsTo]
theorem endsTo_zero (ts fs : List Int) (m b : Nat) (h : fs.length = m) : endsTo ts fs m b 0 = fs := by
  refine List.ext_getElem? fun j => ?_
  unfold endsTo
  by_cases hj : j < m
  · rw [List.getElem?_map, List.getElem?_range hj, List.getElem?_eq_getElem (by omega)]
    simp [List.getD_eq_getElem?_getD, List.getElem?_eq_getElem (show j < fs.length by omega)]
  · rw [List.getElem?_eq_none (by simp; omega), List.getElem?_eq_none (by omega)]
theorem endsTo_all (ts fs : List Int) (m b : Nat) : endsTo ts fs m b m = endsAt ts fs m b := by
  unfold endsTo endsAt
  refine List.map_congr_left fun j hj => ?_
  rw [if_pos (List.mem_range.1 hj)]
theorem endsTo_at (ts fs : List Int) {m b k : Nat} (hk : k < m) : (endsTo ts fs m b k)[k]? = some (fs.getD k 0) := by
  unfold endsTo
  rw [List.getElem?_map, List.getElem?_range hk]; simp
theorem endsTo_next (ts fs : List Int) {m b k : Nat} (hk : k < m) : (endsTo ts fs m b k).set k (fs.getD k 0 + ts.getD (b + k) 0) = endsTo ts fs m b (k + 1) := by
  refine List.ext_getElem? fun j => ?_
  rw [List.getElem?_set]
  unfold endsTo
  by_cases hj : j < m
  · by_cases e : k = j
    · subst e
      simp [hj]
    · rw [if_neg e, List.getElem?_map, List.getElem?_map, List.getElem?_range hj]
      by_cases h1 : j < k
      · simp [h1, show j < k + 1 by omega]
      · simp [h1, show ¬ j < k + 1 by omega]
  · rw [if_neg (by omega), List.getElem?_eq_none (by simp; omega), List.getElem?_eq_none (by simp; omega)]
/-- append to a boxed list, the row on a base above the box. -/
theorem boxed_app {W w1 : World} {n₀ A B : Nat} {t e : TypeId} {size : Nat} {v v' : Value} {k m : Nat} {xs ys : List Value} {tmp : Obj}
    (hv : Boxed W B t v) (hte : t ≠ e) (hrow : W.ownsRow A e size v k xs) (hn₀ : n₀ ≤ W.heap.size) (hA : n₀ ≤ A) (hB : n₀ ≤ B)
    (hown' : w1.ownsRow A e size v' m ys) (hgrow : (W.alloc tmp).grownBy w1 v.ownBlock) :
    Boxed w1 B t v ∧ Boxed (w1.setCell ⟨B, 0, none⟩ v') B t v' ∧ (w1.setCell ⟨B, 0, none⟩ v').ownsRow A e size v' m ys ∧ KeepsOthers W (w1.setCell ⟨B, 0, none⟩ v') ∧ Below n₀ W (w1.setCell ⟨B, 0, none⟩ v') := by
  obtain ⟨h1, h2, _, h4, h5⟩ := hv.appended hte (ownsRow_mono hrow hA) hn₀ hB (ownsRow_mono hown' hA) hgrow
  exact ⟨h1, h2, hown'.kept (grownBy_setCell' w1 B v') (.inr (h1.not_row hte hown').symm), h4, h5⟩
theorem others_below {W W' : World} (h : Below W.heap.size W W') : KeepsOthers W W' := ⟨h.size, fun k o hk _ => (h.block k (Array.getElem?_eq_some_iff.1 hk).1).trans hk⟩
theorem keptL_below {n₀ n₁ : Nat} {W W' : World} (h0 : n₀ ≤ W.heap.size) (h : Below W.heap.size W W') : KeptL n₀ n₁ W W' :=
  ⟨⟨h.mono h0, fun b cs k _ ho => (h.block b (Array.getElem?_eq_some_iff.1 ho).1).trans ho⟩, ⟨h.mono h0, fun b cs k _ ho => (h.block b (Array.getElem?_eq_some_iff.1 ho).1).trans ho⟩⟩
set_option maxHeartbeats 4000000 in
set_option maxRecDepth 100000 in
theorem implUnlike_no (B : Nat) (v : Value) (ts : List Int) (m : Int) (w : World) (h : LstI B w v ts) (hq : unOk ts m = false) :
    Calls Try.prog 17 #[v, .int .i64 m] w (UnPost ts m w) := by
  have hT := Lib.hid (areUnlike_un B v ts m w h)
  obtain ⟨a1, cap1, hv1, hl1, _, _, hc1⟩ := h.at_
  have hP : Hid (UnPost ts m w (.returned (.tuple #[.slice none 0 0, .int .i64 0, .bool false])) w) := Lib.hid
    ⟨_, by unfold unLast; rw [hq]; rfl, by unfold unRes; rw [hq]; exact own_nil, Below.refl _ _⟩
  rw [hq] at hT
  generalize UnPost ts m w = Q at *
  clear h hq hc1 hv1
  go_enter Try.func17, Try.ntmps17
  go_wp2_with (go_at_call 59; refine (hT.out).mono ?_; rintro e w' ⟨rfl, rfl⟩)
  go_ret3
  exact hP.out
set_option maxHeartbeats 8000000 in
set_option maxRecDepth 100000 in
theorem implUnlike_run (B b o cap M Jn : Nat) (ts : List Int) (w : World) (h : LstI B w (.slice (some ⟨b, o, none⟩) (Jn * M) cap) ts) (hB : B ≤ w.heap.size) (hbB : b < B) (hlen : ts.length = Jn * M) (m1 : 1 ≤ M) (m2 : M ≤ 8) (j1 : 1 ≤ Jn) (j2 : Jn ≤ 24) (hok : allIn ts 1 10000 = true) (hq : unOk ts (M : Int) = true) :
    Calls Try.prog 17 #[.slice (some ⟨b, o, none⟩) (Jn * M) cap, .int .i64 M] w (UnPost ts M w) := by
  have hT := Lib.hid (areUnlike_un B _ ts M w h)
  rw [hq] at hT
  have hMj : ts.length / M = Jn := by rw [hlen]; exact Nat.mul_div_cancel _ (by omega)
  have hPo : Hid (∀ w' (pl fs : List Int) (v' : Value), unL ts M (List.range Jn) = (pl, fs) → Lst.Own w.heap.size w'.heap.size w' v' 2 1 pl.length (pl.map (Value.int .i64)) → Below w.heap.size w w' → UnPost ts M w (.returned (.tuple #[v', .int .i64 (maxTo fs (M - 1)), .bool true])) w') := Lib.hid fun w' pl fs v' hS ho hb => by
    rw [unL_range, ← hMj] at hS
    exact ⟨_, by unfold unLast; rw [hq, if_pos rfl, Int.toNat_natCast, hS], by unfold unRes; rw [hq, if_pos rfl, Int.toNat_natCast, hS]; exact ho, hb⟩
  have hRd : Hid (∀ (i : Nat) (pl fs : List Int) (c : Int), i * M + M ≤ ts.length → Small fs c → 0 ≤ c → _) := Lib.hid fun i pl fs c (x : i * M + M ≤ ts.length) y z => step_round hok m1 (pl := pl) (fs := fs) x y z
  have hX : Hid (∀ k, k < ts.length → 1 ≤ ts.getD k 0 ∧ ts.getD k 0 ≤ 10000) := Lib.hid fun k hk => by
    have e1 : ts[k]? = some (ts[k]'hk) := List.getElem?_eq_getElem _
    rw [getD_of e1]; exact allIn_of hok e1
  have hUl : Hid (∀ L, (unL ts M L).1.length = L.length ∧ (unL ts M L).2.length = M) := Lib.hid fun L => by
    have := unL_length ts M L ([], List.replicate M 0)
    unfold unL
    simpa using this
  obtain ⟨a1, cap1, hv1, hl1, hl2, hl3, hc1⟩ := h.at_
  injection hv1 with e1 e2 e3
  subst e1 e3
  clear e2
  have hCell : Hid (∀ (w1 : World) k, Below w.heap.size w w1 → k < ts.length → w1.cell? ⟨b, o + k, none⟩ = some (.int .i64 (ts.getD k 0))) := Lib.hid fun w1 k hw hk => by
    obtain ⟨b', o', x, he, hb, hx, hcell⟩ := hc1 k hk
    injection he with he
    injection he with e1 e2 _
    subst e1 e2
    rw [getD_of hx, hw.cell (p := ⟨b, o + k, none⟩) (show b < w.heap.size by omega)]
    exact hcell
  have hLn := Lib.hid hlen
  have hFit : Hid (∀ k, k < Jn → k * M + M ≤ ts.length) := Lib.hid fun k hk => by rw [hlen]; exact rows_fit hk
  have hC0 : Jn * M ≤ cap := by omega
  have hbw : b < w.heap.size := by omega
  have hMx : Jn * M ≤ 192 := Nat.mul_le_mul j2 m2
  have hCh := Lib.hid (fun p n c w' => chunk_any p n c M w' m1 m2)
  obtain ⟨i0, hi, hz0, hz1, hz2⟩ := info_parts infoI
  clear h hc1 hq hlen hMj
  unfold maxLen at hl1 hl3
  rw [show ts.length = Jn * M from hLn.out] at hl1 hl2
  have hb1 := Lib.hid (below_alloc (Below.refl w.heap.size w) (.cells #[.slice none 0 0] 22))
  have hJM := Lib.hid (show Jn * M = Jn * M from rfl)
  generalize hLL : Jn * M = L at *
  have hLe := Lib.hid hLL
  clear hLL
  refine (callsIn_wide (n := 5)).1 ?_
  have h1 : 1 ≤ 5 := by omega
  have h4 : 1 ≤ 5 - 1 := by omega
  refine callsIn_of_wp_marks Try.func17 rfl trivial ?_ rfl
  simp only [Try.ntmps17, List.size_toArray, List.length_cons, List.length_nil, Nat.reduceAdd, Nat.reduceSub, Array.replicate_succ, Array.replicate_zero, List.push_toArray, List.append_toArray, List.nil_append, List.cons_append]
  gi_wp2_with (first | (refine ⟨trivial, ?_⟩; gi_at_call 59; (with_reducible refine (callsIn_wide.2 hT.out).mono ?_); rintro e' w' ⟨rfl, rfl⟩) | (gi_at_make; refine wpListIn_made _ rfl _ _ _ rfl w.heap.size _ i0 (.int .i64 0) 1 Try.underlying22 hi hz0 hz1 _ _ _ _ M rfl rfl rfl rfl ?c1 ?c2 ?c3 ?_))
  case c1 => rw [hz2]; omega
  case c2 => unfold maxLen; omega
  case c3 => simp
  intro w2 hown2 hg2
  have x1 : Boxed w2 w.heap.size 22 (.slice none 0 0) := (Boxed.new w _ _).kept hg2 (by simp)
  have x2 : w2.ownsRow w.heap.size 2 1 (.slice (some ⟨w.heap.size + 1, 0, none⟩) M M) M ((List.replicate M 0).map (Value.int .i64)) := by
    rw [toList_madeCells_one] at hown2
    rw [List.map_replicate]
    exact hown2
  have x3 : Below w.heap.size w w2 := hb1.out.grown hg2 (by simp) (fun k hk => by cases hk)
  have x4 : w.heap.size + 1 < w2.heap.size := (ownsRow_lt x2).2
  have X := Lib.hid (And.intro x1 (And.intro x2 (And.intro x3 x4)))
  clear x1 x2 x3 x4 hown2 hg2
  gi_wp2_with (refine ⟨trivial, ?_⟩; gi_at_call 60; (with_reducible refine (callsIn_wide.2 (hCh.out _ _ _ _)).mono ?_); rintro e' w' ⟨rfl, rfl⟩)
  obtain ⟨x1, x2, x3, x4⟩ := X.out
  have bF := Boxed.new w2 22 (.slice (some ⟨w.heap.size + 1, 0, none⟩) M M)
  have bL := Boxed.new (w2.alloc (.cells #[.slice (some ⟨w.heap.size + 1, 0, none⟩) M M] 22)) 22 (.slice (some ⟨b, o, none⟩) L cap)
  have bN := Boxed.new ((w2.alloc (.cells #[.slice (some ⟨w.heap.size + 1, 0, none⟩) M M] 22)).alloc (.cells #[.slice (some ⟨b, o, none⟩) L cap] 22)) 3 (.int .i64 M)
  rw [World.size_alloc] at bL
  rw [World.size_alloc, World.size_alloc] at bN
  have hBel : Below w.heap.size w (((w2.alloc (.cells #[.slice (some ⟨w.heap.size + 1, 0, none⟩) M M] 22)).alloc (.cells #[.slice (some ⟨b, o, none⟩) L cap] 22)).alloc (.cells #[.int .i64 M] 3)) := ((x3.alloc x3.size _).alloc (by simp; omega) _).alloc (by simp; omega) _
  have hsz : (((w2.alloc (.cells #[.slice (some ⟨w.heap.size + 1, 0, none⟩) M M] 22)).alloc (.cells #[.slice (some ⟨b, o, none⟩) L cap] 22)).alloc (.cells #[.int .i64 M] 3)).heap.size = w2.heap.size + 3 := by simp
  have y1 : Boxed (((w2.alloc (.cells #[.slice (some ⟨w.heap.size + 1, 0, none⟩) M M] 22)).alloc (.cells #[.slice (some ⟨b, o, none⟩) L cap] 22)).alloc (.cells #[.int .i64 M] 3)) w.heap.size 22 (.slice none 0 0) := ((x1.alloc _).alloc _).alloc _
  have y2 : Boxed (((w2.alloc (.cells #[.slice (some ⟨w.heap.size + 1, 0, none⟩) M M] 22)).alloc (.cells #[.slice (some ⟨b, o, none⟩) L cap] 22)).alloc (.cells #[.int .i64 M] 3)) w2.heap.size 22 (.slice (some ⟨w.heap.size + 1, 0, none⟩) M M) := (bF.alloc _).alloc _
  have y3 : Boxed (((w2.alloc (.cells #[.slice (some ⟨w.heap.size + 1, 0, none⟩) M M] 22)).alloc (.cells #[.slice (some ⟨b, o, none⟩) L cap] 22)).alloc (.cells #[.int .i64 M] 3)) (w2.heap.size + 1) 22 (.slice (some ⟨b, o, none⟩) L cap) := bL.alloc _
  have y4 : (((w2.alloc (.cells #[.slice (some ⟨w.heap.size + 1, 0, none⟩) M M] 22)).alloc (.cells #[.slice (some ⟨b, o, none⟩) L cap] 22)).alloc (.cells #[.int .i64 M] 3)).ownsRow w.heap.size 2 1 (.slice (some ⟨w.heap.size + 1, 0, none⟩) M M) M ((List.replicate M 0).map (Value.int .i64)) := ((x2.alloc _).alloc _).alloc _
  have Y := Lib.hid (And.intro y1 (And.intro y2 y4))
  generalize (((w2.alloc _).alloc _).alloc _) = W0 at *
  clear x1 x2 x3 X bF bL y1 y2 y4
  generalize hS : w2.heap.size = S at *
  have hy3 := y3
  have hbN := bN
  have z1 : S + 2 < W0.heap.size := by omega
  clear hsz hS
  have hB0 := Lib.hid hBel
  refine wpIn_rangeFunc_ownG rfl h1 (gf := 144) (lb := #[.pointer (some ⟨S + 1, 0, none⟩), .pointer (some ⟨S + 2, 0, none⟩)]) rfl trivial (enters_of Try.func144 (by kernel_rfl) rfl)
    (chunk_stops (5 - 1) (S + 1) (S + 2) w.heap.size (S + 1) M Jn b o cap m1 m2 j2 (by rw [hLe.out]; exact hC0) (by unfold maxLen; exact hl3) (by omega) W0 (by rw [hLe.out]; exact hy3) hbN (by omega) (by omega) (Nat.le_refl _) (by omega) (by omega)) KeptL.t (KeptL.b (by omega)) (Below.refl _ _) (fun _ => rfl)
    (fun (pre : List (RowIn Jn)) (W : World) => (∃ v, Boxed W w.heap.size 22 v ∧ W.ownsRow (w.heap.size + 2) 2 1 v pre.length ((unL ts M (pre.map (·.1))).1.map (Value.int .i64)) ∧ True) ∧ (Small (unL ts M (pre.map (·.1))).2 (10000 * pre.length) ∧ (Boxed W S 22 (.slice (some ⟨w.heap.size + 1, 0, none⟩) M M) ∧ W.ownsRow w.heap.size 2 1 (.slice (some ⟨w.heap.size + 1, 0, none⟩) M M) M ((unL ts M (pre.map (·.1))).2.map (Value.int .i64))) ∧ Below w.heap.size w W ∧ W0.heap.size ≤ W.heap.size))
    (fun (c : Code) (pre : List (RowIn Jn)) (W : World) => False)
    (OwnFrom.and ((holdsRow_own (w.heap.size + 2) w.heap.size 22 2 1 (fun pre : List (RowIn Jn) => pre.length) (fun pre => (unL ts M (pre.map (·.1))).1.map (Value.int .i64)) (fun _ _ => True)).from _)
      (ownFrom_of_below (fun s W h => h.2.2.2) (by intro s W W' h hb; exact ⟨h.1, ⟨boxed_below h.2.1.1 hb (by omega), ownsRow_below h.2.1.2 hb (by omega)⟩, h.2.2.1.trans (hb.mono (by omega)), Nat.le_trans h.2.2.2 hb.size⟩)))
    (fun c => fun s W W' row h _ _ => h)
    (by
      obtain ⟨y1, y2, y4⟩ := Y.out
      exact ⟨⟨_, y1, World.ownsRow_nil W0 _ _ _, trivial⟩, small_zeros M, ⟨y2, y4⟩, hBel, Nat.le_refl _⟩)
    (fun x => { tmps := #[.slice (some ⟨b, o, none⟩) L cap, .int .i64 M, undef, undef, .slice none 0 0, .int .i64 0, .bool false, .pointer (some ⟨w.heap.size, 0, none⟩), .pointer (some ⟨S, 0, none⟩), .slice (some ⟨b, o + x.1 * M, none⟩) M M, undef, undef, undef, undef, .slice (some ⟨b, o, none⟩) L cap, .int .i64 M, .bool true, .bool false, .int .i64 M, .slice (some ⟨w.heap.size + 1, 0, none⟩) M M, .slice (some ⟨b, o, none⟩) L cap, .int .i64 M, .func (.func 144) #[] #[.pointer (some ⟨S + 1, 0, none⟩), .pointer (some ⟨S + 1 + 1, 0, none⟩)], .slice (some ⟨b, o + x.1 * M, none⟩) M M, undef, undef, undef, undef, undef, undef, undef, undef, undef, undef, undef, undef, undef, undef, undef, undef, undef, undef, undef, undef, undef, undef, undef, undef, undef, undef, undef, undef, undef, undef, undef, undef, undef], defers := [] }) ?assign ?body ?done ?stop
  case assign =>
    intro l x W K hK
    gi_wp2
    exact hK
  case body =>
    rintro l pre ⟨i, hiJ⟩ W ⟨⟨v, b3, hrow, _⟩, hSm, ⟨bF, hFr⟩, hbw, hsw⟩ hlt
    have hpl : pre.length ≤ 24 := by omega
    obtain ⟨pl, fs, hU⟩ : ∃ pl fs, unL ts M (pre.map (·.1)) = (pl, fs) := ⟨_, _, rfl⟩
    rw [hU] at hrow hSm hFr
    have hlf : fs.length = M := by have := (hUl.out (pre.map (·.1))).2; rw [hU] at this; exact this
    obtain ⟨a, ha, haM, hS2, hSm2⟩ := hRd.out i pl fs _ (hFit.out i hiJ) hSm (by omega)
    have hU2 : unL ts M ((pre ++ [(⟨i, hiJ⟩ : RowIn Jn)]).map (·.1)) = (pl ++ [(a : Int)], fs.set a (fs.getD a 0 + ts.getD (i * M + a) 0)) := by
      rw [List.map_append]
      show unL ts M (_ ++ [i]) = _
      rw [unL_snoc, hU, hS2]
    have hsx : w.heap.size + 1 < W.heap.size := by omega
    have hfc : ∀ (wx : World) (A : Nat) (k : Nat), k < M → wx.ownsRow A 2 1 (.slice (some ⟨w.heap.size + 1, 0, none⟩) M M) M (fs.map (Value.int .i64)) → wx.cell? ⟨w.heap.size + 1, k, none⟩ = some (.int .i64 (fs.getD k 0)) := fun wx A k hk hx => (hx.cellAt k (by omega)).trans (by rw [List.getElem?_map, List.getElem?_eq_getElem (by omega), List.getD_eq_getElem?_getD, List.getElem?_eq_getElem (by omega)]; rfl)
    have hCl := Lib.hid (cloneG_any (w.heap.size + 1) 0 M M fs W hsx hlf m1 (by omega) (fun k x hx => by
      have hk : k < M := by have := (List.getElem?_eq_some_iff.1 hx).1; omega
      rw [Nat.zero_add, hfc W _ k hk hFr, getD_of hx]))
    have hFc := Lib.hid hfc
    have hB := Lib.hid hbw
    have HU2 := Lib.hid hU2
    have HSm2 := Lib.hid hSm2
    have HSm := Lib.hid hSm
    have HA := Lib.hid ha
    have hBx := Lib.hid (And.intro b3 (And.intro hrow (And.intro bF hFr)))
    have cF := bF.cell
    obtain ⟨bb, hbb⟩ : ∃ bb, bb = i * M := ⟨_, rfl⟩
    have hbf : bb + M ≤ ts.length := by rw [hbb]; exact hFit.out i hiJ
    rw [← hbb] at HU2 HSm2 HA ⊢
    have HL := Lib.hid hlf
    have hI := Lib.hid hiJ
    have hBB := Lib.hid hbb
    clear hbb hS2 ha hfc b3 hrow bF hFr hbw hSm hSm2 hU2 hU
    gi_wp2_with (refine ⟨trivial, ?_⟩; gi_at_call 61; (with_reducible refine (CallsIn.inRound l (callsIn_wide.2 hCl.out)).mono ?_); rintro e' w5 ⟨g5, c5, rfl, hg5, ho5, hb5⟩; have hG5 := Lib.hid hg5; have hO5 := Lib.hid ho5; have hB5 := Lib.hid hb5; clear hg5 ho5 hb5)
    have hW5 := Lib.hid (show (0 : Nat) ≤ M by omega)
    have hE0 := Lib.hid (show w5.ownsRow W.heap.size 2 1 (.slice (some ⟨g5, 0, none⟩) M c5) M ((endsTo ts fs M bb 0).map (Value.int .i64)) by rw [endsTo_zero ts fs M bb HL.out]; exact hO5.out)
    clear hCl cF
    gi_loopw [28] (fun kv wr => ∃ k : Nat, k ≤ M ∧ kv = .int .i64 k ∧ Hid (wr.ownsRow W.heap.size 2 1 (.slice (some ⟨g5, 0, none⟩) M c5) M ((endsTo ts fs M bb k).map (Value.int .i64))) ∧ Hid (Below W.heap.size W wr)) (fun kv _ => M - (intOf kv).toNat)
    case atStart => exact ⟨0, Nat.zero_le _, rfl, hE0, hB5⟩
    case round =>
      clear hE0 hB5 hO5
      obtain ⟨k, hk, rfl, hE, hBw⟩ := hrel
      by_cases hkM : k < M
      · have c1 := hCell.out wr (bb + k) (hB.out.trans (hBw.out.mono (by omega))) (by omega)
        rw [← Nat.add_assoc] at c1
        have c2 : wr.cell? ⟨g5, k, none⟩ = some (.int .i64 (fs.getD k 0)) := (hE.out.cellAt k (by omega)).trans (by rw [List.getElem?_map, endsTo_at ts fs hkM]; rfl)
        have f2 : wr.frozen? ⟨g5, k, none⟩ = false := hE.out.frozenAt k
        have x1 := hX.out (bb + k) (by omega)
        have x2 := HSm.out k
        have hst := hE.out.stored k (.int .i64 (fs.getD k 0 + ts.getD (bb + k) 0))
        have hE2 := Lib.hid (show (wr.setCell ⟨g5, k, none⟩ (.int .i64 (fs.getD k 0 + ts.getD (bb + k) 0))).ownsRow W.heap.size 2 1 (.slice (some ⟨g5, 0, none⟩) M c5) M ((endsTo ts fs M bb (k + 1)).map (Value.int .i64)) by rw [← endsTo_next ts fs hkM, List.map_set]; exact hst.1)
        have hB2 := Lib.hid (hBw.out.grown hst.2 hBw.out.size (fun q hq => by cases hq; exact hG5.out))
        clear hst hE hBw
        have q1 : (k : Int) < (M : Int) := by omega
        generalize fs.getD k 0 = u1 at *
        generalize ts.getD (bb + k) 0 = t1 at *
        have y3 : IntKind.i64.wrap (u1 + t1) = u1 + t1 := IntWalk.i64_in _ (by omega)
        gi_wp2
        go_roundw
        case rel => exact ⟨k + 1, by omega, by go_num, hE2, hB2⟩
        case measure => simp [intOf]; omega
      · obtain rfl : M = k := by omega
        have q1 : ¬ (M : Int) < (M : Int) := by omega
        obtain ⟨b3, hrow, bF, hFr⟩ := hBx.out
        have hWs := hBw.out.size
        have hEe := hE.out
        rw [endsTo_all] at hEe
        have hLs : LstI wr.heap.size wr (.slice (some ⟨g5, 0, none⟩) M c5) (endsAt ts fs M bb) := by
          have h2 : Lst.Own W.heap.size wr.heap.size wr (.slice (some ⟨g5, 0, none⟩) M c5) 2 1 (endsAt ts fs M bb).length ((endsAt ts fs M bb).map (Value.int .i64)) := by rw [endsAt_length]; exact Lst.Own.new hEe (by unfold maxLen; omega)
          exact h2.lstI (Nat.le_refl _)
        have hLp := Lib.hid (leastPlace_any wr.heap.size _ (endsAt ts fs M bb) wr hLs (by rw [endsAt_length]; exact m1))
        rw [endsAt_length, ← HA.out] at hLp
        have cE : (endsAt ts fs M bb)[a]? = some (fs.getD a 0 + ts.getD (bb + a) 0) := endsAt_get ts fs haM
        have b3' : Boxed wr w.heap.size 22 v := boxed_below b3 hBw.out (by omega)
        have bF' : Boxed wr S 22 (.slice (some ⟨w.heap.size + 1, 0, none⟩) M M) := boxed_below bF hBw.out (by omega)
        have hFr' : wr.ownsRow w.heap.size 2 1 (.slice (some ⟨w.heap.size + 1, 0, none⟩) M M) M (fs.map (Value.int .i64)) := ownsRow_kept hFr hBw.out
        have hrow' : wr.ownsRow (w.heap.size + 2) 2 1 v pre.length (pl.map (Value.int .i64)) := ownsRow_kept hrow hBw.out
        have hgv : v.ownBlock ≠ some g5 := fun e => by have := (hrow.lt g5 e).2; have := hG5.out; omega
        have hgG : v.ownBlock ≠ some (w.heap.size + 1) := fun e => by have := (hrow.lt _ e).1; omega
        have c3 := b3'.cell
        have c4 := bF'.cell
        have hle : w.heap.size + 2 ≤ wr.heap.size := by omega
        have hBw2 := Lib.hid (hB.out.trans (hBw.out.mono (by omega)))
        have hE3 := Lib.hid hEe
        have hBs := Lib.hid (And.intro b3' (And.intro bF' (And.intro hFr' hrow')))
        have hgg := Lib.hid (And.intro hgv hgG)
        clear b3 hrow bF hFr hLs hEe hE hX hRd hFit hUl hPo hBx hgv hgG hFc hT b3' bF' hFr' hrow'
        gi_wp2_with (first | (refine ⟨trivial, ?_⟩; gi_at_call 62; (with_reducible refine (CallsIn.inRound l (callsIn_wide.2 hLp.out)).mono ?_); rintro e' w' ⟨rfl, rfl⟩) | (gi_at_builtin; refine wpListIn_append_own _ rfl _ _ _ rfl (w.heap.size + 2) 2 i0 (.int .i64 0) 1 8 Try.underlying22 hi hz0 hz1 hz2 rfl (by decide) _ pre.length _ rfl (hBs.out.2.2.2.alloc _) ⟨wr.heap.size, 0, none⟩ 1 1 [.int .i64 (a : Int)] rfl rfl (newsU wr _ _) (one_intU _) (by unfold maxLen; omega) (by omega) (by simp; omega) ?_; intro v' w6 hown6 hgrow6 _; obtain ⟨g', cap', rfl⟩ := ownsRow_succ hown6; obtain ⟨hv1, hv2, hr2, hk2, hb2⟩ := boxed_app hBs.out.1 (by decide) hBs.out.2.2.2 (show w.heap.size ≤ wr.heap.size by omega) (show w.heap.size ≤ w.heap.size + 2 by omega) (Nat.le_refl _) hown6 hgrow6; have hc1 := hv1.cell; have hf1 := hv1.frozen))
        obtain ⟨b3', bF', hFr', hrow'⟩ := hBs.out
        have hgr2 : wr.grownBy w6 v.ownBlock ∨ True := .inr trivial
        have hE6 := (hE3.out.alloc (.cells #[.int .i64 (a : Int)] 2)).kept hgrow6 (.inr (by simp [Value.ownBlock]; exact fun e => hgg.out.1 e.symm))
        have hE7 := hE6.kept (grownBy_setCell' w6 w.heap.size (.slice (some ⟨g', 0, none⟩) (pre.length + 1) cap')) (.inr (by simp [Value.ownBlock]; have := hG5.out; omega))
        have hF6 := (hFr'.alloc (.cells #[.int .i64 (a : Int)] 2)).kept hgrow6 (.inr (by simp [Value.ownBlock]; exact fun e => hgg.out.2 e.symm))
        have hF7 := hF6.kept (grownBy_setCell' w6 w.heap.size (.slice (some ⟨g', 0, none⟩) (pre.length + 1) cap')) (.inr (by simp [Value.ownBlock]))
        have bF6 := boxed_append bF' (by decide) hrow' hgrow6
        have bF7 := boxed_apart bF6 (p := ⟨w.heap.size, 0, none⟩) (show S ≠ w.heap.size by omega) (.slice (some ⟨g', 0, none⟩) (pre.length + 1) cap')
        have k1 : KeptA (w.heap.size + 2) (S + 1) 22 wr w6 := kept_append (by decide) hrow' hle hgrow6
        have k2 : KeptA (w.heap.size + 2) (S + 1) 3 wr w6 := kept_append (by decide) hrow' hle hgrow6
        have k3 : KeptA w.heap.size (S + 1) 22 wr w6 := ⟨k1.1.mono (by omega), k1.2⟩
        have k4 : KeptA w.heap.size (S + 1) 3 wr w6 := ⟨k2.1.mono (by omega), k2.2⟩
        have hK7 : KeptL w.heap.size (S + 1) wr (w6.setCell ⟨w.heap.size, 0, none⟩ (.slice (some ⟨g', 0, none⟩) (pre.length + 1) cap')) :=
          ⟨k3.set (p := ⟨w.heap.size, 0, none⟩) (Nat.le_refl _) (show w.heap.size < S + 1 by omega) _, k4.set (p := ⟨w.heap.size, 0, none⟩) (Nat.le_refl _) (show w.heap.size < S + 1 by omega) _⟩
        clear k1 k2 k3 k4
        have HK7 := Lib.hid (And.intro hK7 (And.intro hk2 (And.intro hb2 (And.intro hv2 hr2))))
        clear hBs b3' bF' hFr' hrow' hE6 hF6 bF6 hK7 hk2 hb2 hv1 hr2 hv2 hc1 hf1 hgrow6 hown6 c3 c4 hgr2 hLp
        generalize hw7 : w6.setCell ⟨w.heap.size, 0, none⟩ (.slice (some ⟨g', 0, none⟩) (pre.length + 1) cap') = w7 at *
        have c8 := bF7.cell
        have c9 : w7.cell? ⟨g5, a, none⟩ = some (.int .i64 (fs.getD a 0 + ts.getD (bb + a) 0)) := (hE7.cellAt a (by omega)).trans (by rw [List.getElem?_map, cE]; rfl)
        have f9 : w7.frozen? ⟨w.heap.size + 1, a, none⟩ = false := hF7.frozenAt a
        have c10 : w7.cell? ⟨w.heap.size + 1, a, none⟩ = some (.int .i64 (fs.getD a 0)) := (hF7.cellAt a (by omega)).trans (by rw [List.getElem?_map, List.getElem?_eq_getElem (by omega), List.getD_eq_getElem?_getD, List.getElem?_eq_getElem (by omega)]; rfl)
        have q2 : (a : Int) < (M : Int) := by omega
        have hst := hF7.stored a (.int .i64 (fs.getD a 0 + ts.getD (bb + a) 0))
        have HE := Lib.hid (And.intro hst.1 (And.intro hst.2 bF7))
        clear hst hF7 bF7 hE7 cE
        have hmix : Try.prog.follows .mixedOrders = true := by kernel_rfl
        generalize hxv : fs.getD a 0 + ts.getD (bb + a) 0 = xv at *
        have hFin : Hid (KeepsFrom W0.heap.size W (w7.setCell ⟨w.heap.size + 1, a, none⟩ (.int .i64 xv)).drew ∧ KeptL w.heap.size (S + 1) W (w7.setCell ⟨w.heap.size + 1, a, none⟩ (.int .i64 xv)).drew ∧
            (∃ v, Boxed (w7.setCell ⟨w.heap.size + 1, a, none⟩ (.int .i64 xv)).drew w.heap.size 22 v ∧ (w7.setCell ⟨w.heap.size + 1, a, none⟩ (.int .i64 xv)).drew.ownsRow (w.heap.size + 2) 2 1 v (pre ++ [(⟨i, hI.out⟩ : RowIn Jn)]).length ((unL ts M ((pre ++ [(⟨i, hI.out⟩ : RowIn Jn)]).map (·.1))).1.map (Value.int .i64))) ∧ (Small (unL ts M ((pre ++ [(⟨i, hI.out⟩ : RowIn Jn)]).map (·.1))).2 (10000 * (pre ++ [(⟨i, hI.out⟩ : RowIn Jn)]).length) ∧ (Boxed (w7.setCell ⟨w.heap.size + 1, a, none⟩ (.int .i64 xv)).drew S 22 (.slice (some ⟨w.heap.size + 1, 0, none⟩) M M) ∧ (w7.setCell ⟨w.heap.size + 1, a, none⟩ (.int .i64 xv)).drew.ownsRow w.heap.size 2 1 (.slice (some ⟨w.heap.size + 1, 0, none⟩) M M) M ((unL ts M ((pre ++ [(⟨i, hI.out⟩ : RowIn Jn)]).map (·.1))).2.map (Value.int .i64))) ∧ Below w.heap.size w (w7.setCell ⟨w.heap.size + 1, a, none⟩ (.int .i64 xv)).drew ∧ W0.heap.size ≤ (w7.setCell ⟨w.heap.size + 1, a, none⟩ (.int .i64 xv)).drew.heap.size)) := Lib.hid (by
          obtain ⟨e1, e2, e3, e4, e5⟩ := HK7.out
          obtain ⟨f1, f2, f3⟩ := HE.out
          rw [HU2.out]
          have n1 : (pre ++ [(⟨i, hI.out⟩ : RowIn Jn)]).length = pre.length + 1 := by rw [List.length_append]; rfl
          rw [n1]
          have n2 := f2.size
          have n3 := e3.size
          refine ⟨(((others_below hBw.out).trans e2).trans ((KeepsOthers.setCell _ _ _).trans (KeepsOthers.drew _))).from _, (keptL_below (by omega) hBw.out).t ⟨⟨(e1.1.set (p := ⟨w.heap.size + 1, a, none⟩) (Nat.le_succ _) (show w.heap.size + 1 < S + 1 by omega) _).1.drew, (e1.1.set (p := ⟨w.heap.size + 1, a, none⟩) (Nat.le_succ _) (show w.heap.size + 1 < S + 1 by omega) _).2⟩, ⟨(e1.2.set (p := ⟨w.heap.size + 1, a, none⟩) (Nat.le_succ _) (show w.heap.size + 1 < S + 1 by omega) _).1.drew, (e1.2.set (p := ⟨w.heap.size + 1, a, none⟩) (Nat.le_succ _) (show w.heap.size + 1 < S + 1 by omega) _).2⟩⟩, ⟨_, boxed_apart e4 (p := ⟨w.heap.size + 1, a, none⟩) (show w.heap.size ≠ w.heap.size + 1 by omega) _, ?_⟩, ?_, ⟨boxed_apart f3 (p := ⟨w.heap.size + 1, a, none⟩) (show S ≠ w.heap.size + 1 by omega) _, ?_⟩, (hBw2.out.trans (e3.setCell (p := ⟨w.heap.size + 1, a, none⟩) (Nat.le_succ _) _)).drew, ?_⟩
          · have e6 := e5.kept f2 (.inr (by have := (e5.lt g' rfl).1; simp [Value.ownBlock]; omega))
            rw [show (pl ++ [(a : Int)]).map (Value.int .i64) = pl.map (Value.int .i64) ++ [.int .i64 (a : Int)] by rw [List.map_append]; rfl]
            exact e6
          · have := HSm2.out
            rw [show (10000 : Int) * ((pre.length + 1 : Nat) : Int) = 10000 * (pre.length : Int) + 10000 by omega]
            exact this
          · rw [List.map_set]; exact f1
          · show W0.heap.size ≤ (w7.setCell _ _).heap.size
            omega)
        clear HK7 HE HU2 HSm2 HSm
        gi_region_with (fail)
        all_goals (gi_wp2; exact hFin.out)
  case done =>
    rintro D ys W hD hys ⟨⟨v, b3, hrow, _⟩, hSm, ⟨bF, hFr⟩, hbw, hsw⟩ hK
    have hys2 : ys.map (·.1) = List.range Jn := hys
    have hyl : ys.length = Jn := by have := congrArg List.length hys2; simpa using this
    rw [hys2] at hrow hSm hFr
    rw [hyl] at hrow
    obtain ⟨pl, fs, hU⟩ : ∃ pl fs, unL ts M (List.range Jn) = (pl, fs) := ⟨_, _, rfl⟩
    rw [hU] at hrow hFr
    have hlf : fs.length = M := by have := (hUl.out (List.range Jn)).2; rw [hU] at this; exact this
    have hlp : pl.length = Jn := by have := (hUl.out (List.range Jn)).1; rw [hU, List.length_range] at this; exact this
    obtain ⟨g, c, rfl, hg0⟩ : ∃ g c, v = .slice (some ⟨g, 0, none⟩) Jn c ∧ w.heap.size + 2 ≤ g := by
      rcases hrow.2 with ⟨_, h0⟩ | ⟨g, c, cur, rfl, hAg, _⟩
      · omega
      · exact ⟨g, c, rfl, hAg⟩
    have hLs : LstI W.heap.size W (.slice (some ⟨w.heap.size + 1, 0, none⟩) M M) fs := by
      have h2 : Lst.Own w.heap.size W.heap.size W (.slice (some ⟨w.heap.size + 1, 0, none⟩) M M) 2 1 fs.length (fs.map (Value.int .i64)) := by rw [hlf]; exact Lst.Own.new hFr (by unfold maxLen; omega)
      exact h2.lstI (Nat.le_refl _)
    have hMx := Lib.hid (fun dm => slicesMax_any W.heap.size _ fs (W.drewN dm) hLs (by rw [hlf]; exact m1))
    rw [hlf] at hMx
    have c3 := b3.cell
    have c4 := bF.cell
    have hPP := Lib.hid (hPo.out · pl fs · hU)
    have hBx := Lib.hid (And.intro b3 (And.intro hrow (And.intro hbw hK)))
    clear hLs hPo hX hRd hFit hUl hT hFr hSm bF b3 hrow hbw hK hlf
    generalize maxTo fs (M - 1) = mx at *
    gi_wp2
    refine wpIn_wide.2 ?_
    go_quiet ((go_at_call 63; exact Ret.quiet (Ret.same (hMx.out _))))
    obtain ⟨b3, hrow, hbw, hK⟩ := hBx.out
    gi_wp2
    have hK9 : (W.drewN nq).heap[D]? = some (.deferred (some [])) := hK
    have hr9 : (W.drewN nq).ownsRow w.heap.size 2 1 (.slice (some ⟨g, 0, none⟩) Jn c) Jn (pl.map (Value.int .i64)) := ownsRow_mono (show (W.drewN nq).ownsRow (w.heap.size + 2) 2 1 (.slice (some ⟨g, 0, none⟩) Jn c) Jn (pl.map (Value.int .i64)) from hrow) (by omega)
    refine ⟨by simp, .inl ⟨_, _, rfl, run_takeDeferred hK9, ?_⟩⟩
    refine ⟨.tuple #[.slice (some ⟨g, 0, none⟩) Jn c, .int .i64 mx, .bool true], by simp [results, Try.f17, go_sem], hPP.out _ _ ?_ ?_⟩
    · rw [hlp]
      exact Lst.Own.new (ownsRow_putObj hr9 _ hK9 rfl) (by unfold maxLen; omega)
    · exact (Lst.Below.drewN hbw nq).trans (belowK_b (w := W0) (by omega) _ D _ _ hD hK9 rfl rfl)
  case stop =>
    rintro D c pre W _ _ h _
    exact h.elim
theorem implUnlike_any (B : Nat) (v : Value) (ts : List Int) (m : Int) (w : World) (h : LstI B w v ts) (hB : B ≤ w.heap.size) :
    Calls Try.prog 17 #[v, .int .i64 m] w (UnPost ts m w) := by
  cases hq : unOk ts m
  · exact implUnlike_no B v ts m w h hq
  · have hq' := hq
    unfold unOk unLen at hq'
    simp only [Bool.and_eq_true, decide_eq_true_eq] at hq'
    obtain ⟨⟨hm, u1, u2, u3⟩, hok⟩ := hq'
    obtain ⟨m1, m2⟩ := inB_true hm
    obtain ⟨M, rfl⟩ : ∃ M : Nat, m = M := ⟨m.toNat, by omega⟩
    rw [Int.toNat_natCast] at u2 u3
    have hJ : ts.length = ts.length / M * M := by have := Nat.div_add_mod ts.length M; rw [u2, Nat.mul_comm] at this; omega
    have hJ1 : 1 ≤ ts.length / M := by
      rcases Nat.eq_zero_or_pos (ts.length / M) with h0 | h0
      · rw [h0] at hJ; omega
      · exact h0
    obtain ⟨a, cap, rfl, _⟩ := h.at_
    obtain ⟨b, o, rfl, hbB⟩ := lstI_block h (by omega)
    generalize hJn : ts.length / M = Jn at *
    rw [hJ] at h
    rw [hJ]
    exact implUnlike_run B b o cap M Jn ts w h hB hbB hJ (by omega) (by omega) hJ1 u3 hok hq
theorem unRes_len (ts : List Int) (m : Int) : (unRes ts m).length ≤ 1048576 := by
  unfold unRes
  split
  · rename_i h
    rw [(unTo_length _ _ _).1]
    unfold unOk unLen at h
    simp only [Bool.and_eq_true, decide_eq_true_eq] at h
    obtain ⟨⟨_, _, _, u3⟩, _⟩ := h
    omega
  · simp
theorem unlikeList_both (ts : List Int) (m : Int) (_ : ∀ x ∈ ts, (Lit.int .i64 x).wf = true) (_ : (Lit.int .i64 m).wf = true) : ∃ (r0 : List Int) (r1 : Int) (r2 : Bool), r0.length ≤ 1048576 ∧
    (∀ (B : Nat) (v0 : Value) (w : World), LstI B w v0 ts → B ≤ w.heap.size → Calls Try.prog 15 #[v0, .int .i64 m] w fun e w' => ∃ v', e = .returned (.tuple #[v', .int .i64 r1, .bool r2]) ∧ Lst.Own w.heap.size w'.heap.size w' v' 2 1 r0.length (r0.map (Value.int .i64)) ∧ Below w.heap.size w w') ∧
    (∀ (B : Nat) (v0 : Value) (w : World), LstI B w v0 ts → B ≤ w.heap.size → Calls Try.prog 17 #[v0, .int .i64 m] w fun e w' => ∃ v', e = .returned (.tuple #[v', .int .i64 r1, .bool r2]) ∧ Lst.Own w.heap.size w'.heap.size w' v' 2 1 r0.length (r0.map (Value.int .i64)) ∧ Below w.heap.size w w') :=
  ⟨unRes ts m, unLast ts m, unOk ts m, unRes_len ts m, fun B v w h hB => specUnlike_any B v ts m w h hB, fun B v w h hB => implUnlike_any B v ts m w h hB⟩
end Go.Proofs.Ytpnndajfaghaaaa
