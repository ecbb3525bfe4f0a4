/- Contracts: which lists are talks; the program's side, with the list of talks. -/
import Derived.Test.YtehobcmjjcmfnaaPairs
import Derived.Test.YtehobcmjjcmfnaaPost
namespace Go.Proofs.Ytehobcmjjcmfnaa
open Go.RowKit Go.Lst Go.Shelf

attribute [local go_sem] Oper.semAt_some

theorem ownsRow_slice {W : World} {A e k n : Nat} {v : Value} {cs : List Value} (h : W.ownsRow A e k v n cs) : ∃ p m c, v = .slice p m c := by
  rcases h.2 with ⟨rfl, _⟩ | ⟨g, cap, _, rfl, _⟩
  · exact ⟨_, _, _, rfl⟩
  · exact ⟨_, _, _, rfl⟩
/-- What keeps a list from being talks ahead of its pairs. -/
def talksNo (xs : List Int) : Bool := !(decide (2 ≤ xs.length) && decide (xs.length ≤ 64) && decide (xs.length % 2 = 0) && allIn xs 0 10000)
theorem talksOk_no {xs : List Int} (h : talksNo xs = true) : talksOk xs = false := by
  unfold talksNo at h
  unfold talksOk
  rw [Bool.not_eq_true'] at h
  rw [h, Bool.false_and]
theorem talksOk_of {xs : List Int} (h : talksNo xs = false) : talksOk xs = risePairs (pairsL xs) := by
  unfold talksNo at h
  unfold talksOk
  rw [Bool.not_eq_false'] at h
  rw [h, Bool.true_and]
theorem talksNo_in {xs : List Int} (h : talksNo xs = false) : 2 ≤ xs.length ∧ xs.length ≤ 64 ∧ xs.length % 2 = 0 ∧ allIn xs 0 10000 = true := by
  unfold talksNo at h
  rw [Bool.not_eq_false'] at h
  simp only [Bool.and_eq_true, decide_eq_true_eq] at h
  obtain ⟨⟨⟨q1, q2⟩, q3⟩, q4⟩ := h
  exact ⟨q1, q2, q3, q4⟩
/-- The numbers of pairs, one behind the other. -/
def flatP (ps : List (Int × Int)) : List Int := ps.flatMap fun p => [p.1, p.2]
theorem flatP_snoc (ps : List (Int × Int)) (p : Int × Int) : flatP (ps ++ [p]) = flatP ps ++ [p.1, p.2] := by simp [flatP]
theorem flatP_length (ps : List (Int × Int)) : (flatP ps).length = ps.length * 2 := by
  induction ps with
  | nil => rfl
  | cons p ps ih =>
    have : flatP (p :: ps) = p.1 :: p.2 :: flatP ps := rfl
    rw [this, List.length_cons, List.length_cons, ih, List.length_cons]; omega
theorem flatP_to (xs : List Int) : ∀ k, 2 * k ≤ xs.length → flatP (pairsTo xs k) = xs.take (2 * k)
  | 0, _ => by simp [pairsTo, flatP]
  | k + 1, h => by
    rw [pairsTo_succ, flatP_snoc, flatP_to xs k (by omega), show 2 * (k + 1) = 2 * k + 1 + 1 by omega, List.take_add_one, List.take_add_one, List.getElem?_eq_getElem (by omega : 2 * k < xs.length), List.getElem?_eq_getElem (by omega : 2 * k + 1 < xs.length)]
    unfold pairAt
    simp only [List.getD_eq_getElem?_getD, List.getElem?_eq_getElem (by omega : 2 * k < xs.length), List.getElem?_eq_getElem (by omega : 2 * k + 1 < xs.length), Option.getD_some, Option.toList_some, List.append_assoc, List.cons_append, List.nil_append]
theorem flatP_all (xs : List Int) (h : xs.length % 2 = 0) : flatP (pairsL xs) = xs := by
  unfold pairsL
  rw [flatP_to xs _ (by omega), List.take_of_length_le (by omega)]
theorem rise_of {ps qs : List (Int × Int)} (h : ps <+: qs) (hn : risePairs ps = false) : risePairs qs = false := by
  obtain ⟨r, rfl⟩ := h
  unfold risePairs at *
  rw [List.all_append, hn, Bool.false_and]
theorem rise_snoc (ps : List (Int × Int)) (p : Int × Int) : risePairs (ps ++ [p]) = (risePairs ps && decide (p.1 < p.2)) := by unfold risePairs; rw [List.all_append]; simp

set_option maxHeartbeats 4000000 in
set_option maxRecDepth 100000 in
theorem talksOf_no (B : Nat) (v : Value) (xs : List Int) (w : World) (h : LstI B w v xs) (hB : B ≤ w.heap.size) (hq : talksNo xs = true) :
    Calls Try.prog 50 #[v] w fun x w' => x = .returned (.tuple #[.slice none 0 0, .bool false]) ∧ Below w.heap.size w w' := by
  have hA : Hid (∀ w', Below w.heap.size w w' → Calls Try.prog 61 #[v, .int .i64 0, .int .i64 10000] w' fun x w'' => x = .returned (.bool (allIn xs 0 10000)) ∧ w' = w'') := Lib.hid fun w' hb => areWithin_any B v xs 0 10000 w' (h.below hb hB).lst
  obtain ⟨a, cap, rfl, hl, hcap, hcm, _⟩ := h.at_
  clear h
  unfold talksNo at hq
  generalize allIn xs 0 10000 = al at *
  generalize xs.length = n at *
  unfold maxLen at hl hcm
  have hb1 := Lib.hid (below_alloc (below_alloc (Below.refl w.heap.size w) (.cells #[.slice none 0 0] 66)) (.cells #[.bool false] 4))
  by_cases h0 : n < 1
  · have d0 : (n : Int) < 1 := by omega
    go_enter Try.func50, Try.ntmps50
    go_wp2_with fail
    exact bodyPost_ret (v := .tuple #[.slice none 0 0, .bool false]) (by simp [results, Try.results50, go_sem]) rfl ⟨rfl, hb1.out⟩
  · have d0 : decide ((n : Int) < 1) = false := decide_eq_false (by omega)
    by_cases h2 : n ≤ 64
    · have d2 : decide ((64 : Int) < (n : Int)) = false := decide_eq_false (by omega)
      by_cases h3 : n % 2 = 0
      · have h3b : ((n : Int) % 2 != 0) = false := by rw [bne_eq_false_iff_eq]; omega
        rw [decide_eq_true h2, decide_eq_true h3, decide_eq_true (show 2 ≤ n by omega)] at hq
        simp only [Bool.true_and, Bool.not_eq_true'] at hq
        subst hq
        have hA1 := Lib.hid (hA.out _ hb1.out)
        go_enter Try.func50, Try.ntmps50
        go_wp2_with (go_at_call 61; (with_reducible refine hA1.out.mono ?_); rintro e' w' ⟨rfl, rfl⟩)
        exact bodyPost_ret (v := .tuple #[.slice none 0 0, .bool false]) (by simp [results, Try.results50, go_sem]) rfl ⟨rfl, hb1.out⟩
      · have h3b : ((n : Int) % 2 != 0) = true := by rw [bne_iff_ne]; omega
        go_enter Try.func50, Try.ntmps50
        go_wp2_with fail
        exact bodyPost_ret (v := .tuple #[.slice none 0 0, .bool false]) (by simp [results, Try.results50, go_sem]) rfl ⟨rfl, hb1.out⟩
    · have d2 : (64 : Int) < (n : Int) := by omega
      go_enter Try.func50, Try.ntmps50
      go_wp2_with fail
      exact bodyPost_ret (v := .tuple #[.slice none 0 0, .bool false]) (by simp [results, Try.results50, go_sem]) rfl ⟨rfl, hb1.out⟩

theorem infoTalk : (Try.prog.info? 71).map (fun i => (i.zero, i.size, i.bytes)) = some (some (.agg #[.int .i64 0, .int .i64 0]), 2, 16) := by kernel_rfl
theorem news2 (w : World) (t : TypeId) (u v : Value) : ∀ (j : Nat) (x : Value), [u, v][j]? = some x → (w.alloc (.cells #[u, v] t)).cell? ((⟨w.heap.size, 0, none⟩ : Addr).add j) = some x := fun j x hj => by
  match j, hj with
  | 0, hj =>
    obtain rfl : u = x := by simpa using hj
    exact (Whole.made w t #[u, v] rfl).at_ rfl
  | 1, hj =>
    obtain rfl : v = x := by simpa using hj
    exact (Whole.made w t #[u, v] rfl).at_ rfl
  | j + 2, hj => simp at hj
theorem two_ints (x y : Int) : ∀ u ∈ [Value.int .i64 x, Value.int .i64 y], u.oneCell' = true := by simp [Value.oneCell']
set_option maxHeartbeats 8000000 in
set_option maxRecDepth 100000 in
theorem talksOf_pairs (B : Nat) (v : Value) (xs : List Int) (w : World) (h : LstI B w v xs) (hB : B ≤ w.heap.size) (hq : talksNo xs = false) :
    Calls Try.prog 50 #[v] w fun x w' => ((risePairs (pairsL xs) = false ∧ x = .returned (.tuple #[.slice none 0 0, .bool false])) ∨
      (risePairs (pairsL xs) = true ∧ ∃ v', x = .returned (.tuple #[v', .bool true]) ∧ w'.ownsRow w.heap.size 71 2 v' (xs.length / 2) (xs.map (Value.int .i64)))) ∧ Below w.heap.size w w' := by
  have hA : Hid (∀ w', Below w.heap.size w w' → Calls Try.prog 61 #[v, .int .i64 0, .int .i64 10000] w' fun x w'' => x = .returned (.bool (allIn xs 0 10000)) ∧ w' = w'') := Lib.hid fun w' hb => areWithin_any B v xs 0 10000 w' (h.below hb hB).lst
  have hLw := Lib.hid h
  obtain ⟨a, cap, rfl, hl, hcap, hcm, _⟩ := h.at_
  clear h
  obtain ⟨q1, q2, q3, q4⟩ := talksNo_in hq
  rw [q4] at hA
  have hP := Lib.hid (fun n w' a' cap' => pairsOf_any a' n cap' w')
  have hLen := Lib.hid q3
  have hL2 := Lib.hid q2
  have hFl := Lib.hid (flatP_all xs q3)
  have hQ : Hid (∀ (x : Ending) (w' : World), ((risePairs (pairsL xs) = false ∧ x = .returned (.tuple #[.slice none 0 0, .bool false])) ∨ (risePairs (pairsL xs) = true ∧ ∃ v', x = .returned (.tuple #[v', .bool true]) ∧ w'.ownsRow w.heap.size 71 2 v' (pairsL xs).length (xs.map (Value.int .i64)))) ∧ Below w.heap.size w w' →
      ((risePairs (pairsL xs) = false ∧ x = .returned (.tuple #[.slice none 0 0, .bool false])) ∨ (risePairs (pairsL xs) = true ∧ ∃ v', x = .returned (.tuple #[v', .bool true]) ∧ w'.ownsRow w.heap.size 71 2 v' (xs.length / 2) (xs.map (Value.int .i64)))) ∧ Below w.heap.size w w') := Lib.hid fun x w' hh => by rwa [pairsL_length] at hh
  generalize hPst : (fun (x : Ending) (w' : World) => ((risePairs (pairsL xs) = false ∧ x = .returned (.tuple #[.slice none 0 0, .bool false])) ∨ (risePairs (pairsL xs) = true ∧ ∃ v', x = .returned (.tuple #[v', .bool true]) ∧ w'.ownsRow w.heap.size 71 2 v' (xs.length / 2) (xs.map (Value.int .i64)))) ∧ Below w.heap.size w w') = Pst
  have hPo : Hid (∀ x w', ((risePairs (pairsL xs) = false ∧ x = .returned (.tuple #[.slice none 0 0, .bool false])) ∨ (risePairs (pairsL xs) = true ∧ ∃ v', x = .returned (.tuple #[v', .bool true]) ∧ w'.ownsRow w.heap.size 71 2 v' (pairsL xs).length (xs.map (Value.int .i64)))) ∧ Below w.heap.size w w' → Pst x w') := Lib.hid fun x w' hh => by rw [← hPst]; exact hQ.out x w' hh
  clear hQ hPst
  generalize hxl : xs.length = n at *
  have hXl := Lib.hid hxl
  clear hxl
  unfold maxLen at hl hcm
  have d0 : decide ((n : Int) < 1) = false := decide_eq_false (by omega)
  have h3b : ((n : Int) % 2 != 0) = false := by rw [bne_eq_false_iff_eq]; omega
  have d2 : decide ((64 : Int) < (n : Int)) = false := decide_eq_false (by omega)
  have hb1 := Lib.hid (below_alloc (below_alloc (Below.refl w.heap.size w) (.cells #[.slice none 0 0] 66)) (.cells #[.bool false] 4))
  have hA1 := Lib.hid (hA.out _ hb1.out)
  obtain ⟨i0, hi, hz0, hz1, hz2⟩ := info_parts infoTalk
  refine (callsIn_wide (n := 5)).1 ?_
  have h1 : 1 ≤ 5 := by omega
  have h4 : 1 ≤ 5 - 1 := by omega
  refine callsIn_of_wp_marks Try.func50 rfl trivial ?_ rfl
  simp only [Try.ntmps50, List.size_toArray, List.length_cons, List.length_nil, Nat.reduceAdd, Nat.reduceSub, Array.replicate_succ, Array.replicate_zero, List.push_toArray, List.append_toArray, List.nil_append, List.cons_append]
  gi_wp2_with (first | (refine ⟨trivial, ?_⟩; gi_at_call 61; (with_reducible refine (callsIn_wide.2 hA1.out).mono ?_); rintro e' w' ⟨rfl, rfl⟩) | (refine ⟨trivial, ?_⟩; gi_at_call 79; (with_reducible refine (callsIn_wide.2 (hP.out _ _ _ _)).mono ?_); rintro e' w' ⟨rfl, rfl⟩))
  have hxs : xs.length % 2 = 0 := by rw [hXl.out]; exact hLen.out
  have hxs2 : xs.length ≤ 2000 := by rw [hXl.out]; have := hL2.out; omega
  have y1 := ((((Boxed.new w 66 (.slice none 0 0)).alloc (.cells #[.bool false] 4)).alloc (.cells #[.slice none 0 0] 66)).alloc (.cells #[.slice a n cap] 22))
  have y2 := (((Boxed.new (w.alloc (.cells #[.slice none 0 0] 66)) 4 (.bool false)).alloc (.cells #[.slice none 0 0] 66)).alloc (.cells #[.slice a n cap] 22))
  have y3 := ((Boxed.new ((w.alloc (.cells #[.slice none 0 0] 66)).alloc (.cells #[.bool false] 4)) 66 (.slice none 0 0)).alloc (.cells #[.slice a n cap] 22))
  have y4 := Boxed.new (((w.alloc (.cells #[.slice none 0 0] 66)).alloc (.cells #[.bool false] 4)).alloc (.cells #[.slice none 0 0] 66)) 22 (.slice a n cap)
  have hBel : Below w.heap.size w ((((w.alloc (.cells #[.slice none 0 0] 66)).alloc (.cells #[.bool false] 4)).alloc (.cells #[.slice none 0 0] 66)).alloc (.cells #[.slice a n cap] 22)) := below_alloc (below_alloc hb1.out _) _
  have z1 : w.heap.size + 1 + 1 + 1 < ((((w.alloc (.cells #[.slice none 0 0] 66)).alloc (.cells #[.bool false] 4)).alloc (.cells #[.slice none 0 0] 66)).alloc (.cells #[.slice a n cap] 22)).heap.size := by simp
  simp only [World.size_alloc] at y2 y3 y4
  have hcB := y4.cell
  have hO0 : ((((w.alloc (.cells #[.slice none 0 0] 66)).alloc (.cells #[.bool false] 4)).alloc (.cells #[.slice none 0 0] 66)).alloc (.cells #[.slice a n cap] 22)).ownsRow w.heap.size 71 2 (.slice none 0 0) 0 [] := ⟨rfl, .inl ⟨rfl, rfl⟩⟩
  have hF : Hid (Boxed ((((w.alloc (.cells #[.slice none 0 0] 66)).alloc (.cells #[.bool false] 4)).alloc (.cells #[.slice none 0 0] 66)).alloc (.cells #[.slice a n cap] 22)) w.heap.size 66 (.slice none 0 0) ∧ Boxed ((((w.alloc (.cells #[.slice none 0 0] 66)).alloc (.cells #[.bool false] 4)).alloc (.cells #[.slice none 0 0] 66)).alloc (.cells #[.slice a n cap] 22)) (w.heap.size + 1) 4 (.bool false) ∧ Boxed ((((w.alloc (.cells #[.slice none 0 0] 66)).alloc (.cells #[.bool false] 4)).alloc (.cells #[.slice none 0 0] 66)).alloc (.cells #[.slice a n cap] 22)) (w.heap.size + 1 + 1) 66 (.slice none 0 0)) := Lib.hid ⟨y1, y2, y3⟩
  generalize (((w.alloc _).alloc _).alloc _).alloc _ = W0 at *
  clear y1 y2 y3 y4
  obtain ⟨f1, f2, f3⟩ := hF.out
  have hLW : LstI w.heap.size W0 (.slice a n cap) xs := (hLw.out.below hBel hB).mono hB
  refine wpIn_rangeFunc_ownG rfl h1 (gf := 85) (lb := #[.pointer (some ⟨w.heap.size + 1 + 1 + 1, 0, none⟩)]) rfl trivial (enters_of Try.func85 (by kernel_rfl) rfl)
    (pairs_stops (5 - 1) (w.heap.size + 1 + 1 + 1) w.heap.size (by omega) _ xs W0 (by omega) (by omega) hcB hLW hxs hxs2) KeptA.t (KeptA.b (by omega)) (Below.refl _ _) (fun _ => rfl)
    (fun pre W => (∃ v, Boxed W (w.heap.size + 1 + 1) 66 v ∧ W.ownsRow w.heap.size 71 2 v pre.length ((flatP (pre.map (·.1))).map (Value.int .i64)) ∧ True) ∧ (risePairs (pre.map (·.1)) = true ∧ (Boxed W w.heap.size 66 (.slice none 0 0) ∧ Boxed W (w.heap.size + 1) 4 (.bool false)) ∧ Below w.heap.size w W ∧ W0.heap.size ≤ W.heap.size))
    (fun c pre W => c = .ret ∧ risePairs (pre.map (·.1)) = false ∧ (Boxed W w.heap.size 66 (.slice none 0 0) ∧ Boxed W (w.heap.size + 1) 4 (.bool false)) ∧ Below w.heap.size w W ∧ W0.heap.size ≤ W.heap.size)
    (OwnFrom.and ((holdsRow_own w.heap.size (w.heap.size + 1 + 1) 66 71 2 (fun pre : List (PairIn xs) => pre.length) (fun pre => (flatP (pre.map (·.1))).map (Value.int .i64)) (fun _ _ => True)).from _)
      (ownFrom_of_below (fun s W h => h.2.2.2) fun s W W' h hb => ⟨h.1, ⟨boxed_below h.2.1.1 hb (by omega), boxed_below h.2.1.2 hb (by omega)⟩, h.2.2.1.trans (hb.mono (by omega)), Nat.le_trans h.2.2.2 hb.size⟩))
    (fun c => ownFrom_of_below (fun s W h => h.2.2.2.2) fun s W W' h hb => ⟨h.1, h.2.1, ⟨boxed_below h.2.2.1.1 hb (by omega), boxed_below h.2.2.1.2 hb (by omega)⟩, h.2.2.2.1.trans (hb.mono (by omega)), Nat.le_trans h.2.2.2.2 hb.size⟩)
    ⟨⟨_, f3, hO0, trivial⟩, rfl, ⟨f1, f2⟩, hBel, Nat.le_refl _⟩
    (fun x => { tmps := #[.slice a n cap, undef, .pointer (some ⟨w.heap.size, 0, none⟩), .pointer (some ⟨w.heap.size + 1, 0, none⟩), .pointer (some ⟨w.heap.size + 1 + 1, 0, none⟩), .int .i64 x.1.1, .int .i64 x.1.2, .slice a n cap, .int .i64 n, .bool false, .bool false, .slice a n cap, .int .i64 n, .bool false, .bool false, .bool false, .slice a n cap, .int .i64 n, .int .i64 ((n : Int) % 2), .bool false, .bool false, .bool false, .slice a n cap, .bool true, .bool false, .bool false, .slice a n cap, .func (.func 85) #[] #[.pointer (some ⟨w.heap.size + 1 + 1 + 1, 0, none⟩)], .int .i64 x.1.1, .int .i64 x.1.2, undef, undef, undef, undef, undef, undef, undef, undef, undef, undef], defers := [] }) ?assign ?body ?done ?stop
  case assign =>
    intro l x W K hK
    gi_wp2
    exact hK
  case body =>
    rintro l pre ⟨⟨pa, pb⟩, hx⟩ W ⟨⟨v, b3, hrow, _⟩, hn, ⟨b1, b2⟩, hbw, hsw⟩ hlt
    have hL64 : pre.length ≤ 64 := by have := hL2.out; have := hXl.out; omega
    by_cases hq : pa < pb
    · have d9 : ¬ pb ≤ pa := by omega
      have hng : risePairs (pre.map (·.1) ++ [(pa, pb)]) = true := by rw [rise_snoc, hn]; simp [hq]
      have hEnd := Lib.hid (And.intro hng (And.intro b1 (And.intro b2 (And.intro b3 (And.intro hrow hbw)))))
      have c3 := b3.cell
      have hle : w.heap.size ≤ W.heap.size := by omega
      clear b1 b2 hng hbw hn hq
      gi_wp2_with (gi_at_builtin; refine wpListIn_append_own _ rfl _ _ _ rfl w.heap.size 71 i0 (.agg #[.int .i64 0, .int .i64 0]) 2 16 Try.underlying66 hi hz0 hz1 hz2 rfl (by decide) _ pre.length _ rfl (hrow.alloc _) ⟨W.heap.size, 0, none⟩ 1 1 [.int .i64 pa, .int .i64 pb] rfl rfl (news2 W _ _ _) (two_ints _ _) (by unfold maxLen; omega) (by omega) (by simp; omega) ?_; intro v' w6 hown6 hgrow6 _; obtain ⟨g', cap', rfl⟩ := ownsRow_succ hown6; obtain ⟨hv1, hv2, hr2, hk2, hb2⟩ := b3.appended (by decide) hrow hle (by omega) hown6 hgrow6; have hc1 := hv1.cell; have hf1 := hv1.frozen)
      obtain ⟨hng, b1, b2, _, _, hbw⟩ := hEnd.out
      have hr3 : (w6.setCell ⟨w.heap.size + 1 + 1, 0, none⟩ (.slice (some ⟨g', 0, none⟩) (pre.length + 1) cap')).ownsRow w.heap.size 71 2 (.slice (some ⟨g', 0, none⟩) (pre.length + 1) cap') (pre ++ [(⟨(pa, pb), hx⟩ : PairIn xs)]).length ((flatP ((pre ++ [(⟨(pa, pb), hx⟩ : PairIn xs)]).map (·.1))).map (Value.int .i64)) := by
        rw [List.map_append, List.length_append]
        show World.ownsRow _ _ _ _ _ (pre.length + 1) ((flatP (pre.map (·.1) ++ [(pa, pb)])).map _)
        rw [flatP_snoc, List.map_append]
        exact hr2
      refine ⟨hk2.from _, (kept_append (by decide) hrow hle hgrow6).set (p := ⟨w.heap.size + 1 + 1, 0, none⟩) (show w.heap.size ≤ w.heap.size + 1 + 1 by omega) (show w.heap.size + 1 + 1 < W0.heap.size by omega) _, ⟨_, hv2, hr3⟩, by rw [List.map_append]; exact hng, ⟨boxed_apart (boxed_append b1 (by decide) hrow hgrow6) (show w.heap.size ≠ w.heap.size + 1 + 1 by omega) _, boxed_apart (boxed_append b2 (by decide) hrow hgrow6) (show w.heap.size + 1 ≠ w.heap.size + 1 + 1 by omega) _⟩, hbw.trans hb2, Nat.le_trans hsw hb2.size⟩
    · have d9 : pb ≤ pa := by omega
      have hng : risePairs (pre.map (·.1) ++ [(pa, pb)]) = false := by rw [rise_snoc, hn]; simp [hq]
      have hEnd := Lib.hid (And.intro hng (And.intro b1 (And.intro b2 hbw)))
      have c1 := b1.cell
      have c2 := b2.cell
      have f1 := b1.frozen
      have f2 := b2.frozen
      clear b1 b2 b3 hrow hng hbw hn hq
      gi_wp2
      obtain ⟨hng, b1, b2, hbw⟩ := hEnd.out
      have hwi : Within w.heap.size W0.heap.size W ((W.setCell ⟨w.heap.size, 0, none⟩ (.slice none 0 0)).setCell ⟨w.heap.size + 1, 0, none⟩ (.bool false)) := ((Within.refl _ _ W).set (p := ⟨w.heap.size, 0, none⟩) (Nat.le_refl _) (show w.heap.size < W0.heap.size by omega) _).set (p := ⟨w.heap.size + 1, 0, none⟩) (Nat.le_succ _) (show w.heap.size + 1 < W0.heap.size by omega) _
      exact ⟨hwi.from, rfl, by rw [List.map_append]; exact hng, boxed_two b1 b2 (by omega) _ _, hbw.trans hwi.1, Nat.le_trans hsw hwi.1.size⟩
  case done =>
    rintro D ys W hD hys ⟨⟨v, b3, hrow, _⟩, hn, ⟨b1, b2⟩, hbw, hsw⟩ hK
    have c1 := b1.cell
    have c2 := b2.cell
    have c3 := b3.cell
    have f1 := b1.frozen
    have f2 := b2.frozen
    have hys2 : ys.map (·.1) = pairsL xs := hys
    have hyl : ys.length = (pairsL xs).length := by rw [← hys2, List.length_map]
    rw [hys2] at hn hrow
    rw [hyl, hFl.out] at hrow
    obtain ⟨p, m, c, hv⟩ := ownsRow_slice hrow
    subst hv
    gi_wp2
    have hK2 := others_two hK rfl ⟨w.heap.size, 0, none⟩ ⟨w.heap.size + 1, 0, none⟩ (.slice p m c) (.bool true)
    obtain ⟨n1, n2⟩ := boxed_two b1 b2 (by omega) (.slice p m c) (.bool true)
    have e1 := cell_put (.deferred none) n1.cell hK2 rfl
    have e2 := cell_put (.deferred none) n2.cell hK2 rfl
    refine ⟨by simp, .inl ⟨_, _, rfl, run_takeDeferred hK2, ?_⟩⟩
    refine ⟨.tuple #[.slice p m c, .bool true], ?_, hPo.out _ _ ⟨.inr ⟨hn, _, rfl, ?_⟩, ?_⟩⟩
    · simp [results, Try.f50, go_sem, e1, e2]
    · refine ownsRow_putObj ?_ _ hK2 rfl
      exact (hrow.kept (grownBy_setCell' W w.heap.size (.slice p m c)) (.inr (fun e => b1.not_row (by decide) hrow e.symm))).kept (grownBy_setCell' _ (w.heap.size + 1) (.bool true)) (.inr (fun e => b2.not_row (by decide) hrow e.symm))
    · exact ((hbw.setCell (p := ⟨w.heap.size, 0, none⟩) (Nat.le_refl _) _).setCell (p := ⟨w.heap.size + 1, 0, none⟩) (Nat.le_succ _) _).trans (belowK_b (w := W0) (by omega) _ D _ _ hD hK2 rfl rfl)
  case stop =>
    rintro D c pre W hD hpre ⟨rfl, hn, ⟨b1, b2⟩, hbw, hsw⟩ hK
    have c1 := b1.cell
    have c2 := b2.cell
    gi_wp2
    have e1 := cell_put (.deferred none) c1 hK rfl
    have e2 := cell_put (.deferred none) c2 hK rfl
    refine ⟨by simp, .inl ⟨_, _, rfl, run_takeDeferred hK, ?_⟩⟩
    refine ⟨.tuple #[.slice none 0 0, .bool false], ?_, hPo.out _ _ ⟨.inl ⟨rise_of hpre hn, rfl⟩, ?_⟩⟩
    · simp [results, Try.f50, go_sem, e1, e2]
    · exact hbw.trans (belowK_b (w := W0) (by omega) _ D _ _ hD hK rfl rfl)
theorem talksOf_any (B : Nat) (v : Value) (xs : List Int) (w : World) (h : LstI B w v xs) (hB : B ≤ w.heap.size) :
    Calls Try.prog 50 #[v] w fun x w' => ((talksOk xs = false ∧ x = .returned (.tuple #[.slice none 0 0, .bool false])) ∨
      (talksOk xs = true ∧ ∃ v', x = .returned (.tuple #[v', .bool true]) ∧ w'.ownsRow w.heap.size 71 2 v' (xs.length / 2) (xs.map (Value.int .i64)))) ∧ Below w.heap.size w w' := by
  cases hn : talksNo xs
  · rw [talksOk_of hn]
    exact talksOf_pairs B v xs w h hB hn
  · refine (talksOf_no B v xs w h hB hn).mono ?_
    rintro x w' ⟨rfl, hb⟩
    exact ⟨.inl ⟨talksOk_no hn, rfl⟩, hb⟩
theorem talks_two {xs : List Int} {x : Ending} {w w' : World} (h : ((talksOk xs = false ∧ x = .returned (.tuple #[.slice none 0 0, .bool false])) ∨
      (talksOk xs = true ∧ ∃ v', x = .returned (.tuple #[v', .bool true]) ∧ w'.ownsRow w.heap.size 71 2 v' (xs.length / 2) (xs.map (Value.int .i64)))) ∧ Below w.heap.size w w') :
    ∃ (a : Option Addr) (n c : Nat), x = .returned (.tuple #[.slice a n c, .bool (talksOk xs)]) ∧ Below w.heap.size w w' := by
  rcases h with ⟨⟨h1, rfl⟩ | ⟨h1, v', rfl, ho⟩, hb⟩
  · exact ⟨none, 0, 0, by rw [h1], hb⟩
  · obtain ⟨p, m, c, rfl⟩ := ownsRow_slice ho
    exact ⟨p, m, c, by rw [h1], hb⟩
end Go.Proofs.Ytehobcmjjcmfnaa
