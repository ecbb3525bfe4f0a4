/- Contracts: which clashes are such, and their sets. -/
import Derived.Test.YtfidppepchobeaaPairs
import Derived.Test.YtfidppepchobeaaSets
namespace Go.Proofs.Ytfidppepchobeaa
open Go.RowKit Go.Lst Go.Shelf

attribute [local go_sem] Oper.semAt_some

theorem isWithin_is {q : Bool} (n lo hi : Int) (h : inB n lo hi = q) (w : World) : Calls Try.prog 89 #[.int .i64 n, .int .i64 lo, .int .i64 hi] w fun e w' => e = .returned (.bool q) ∧ w = w' := by
  rw [← h]; exact isWithin_any n lo hi w
theorem areWithin_is {q : Bool} (B : Nat) (v : Value) (xs : List Int) (lo hi : Int) (hq : allIn xs lo hi = q) (w : World) (h : Lst B w v (xs.map (Value.int .i64))) : Calls Try.prog 99 #[v, .int .i64 lo, .int .i64 hi] w fun e w' => e = .returned (.bool q) ∧ w = w' := by
  rw [← hq]; exact areWithin_any B v xs lo hi w h
/-- What keeps clashes from being such ahead of their pairs. -/
def clashNo (e : Int) (xs : List Int) : Bool := !(inB e 1 12 && decide (xs.length ≤ 64) && decide (xs.length % 2 = 0) && allIn xs 0 (e - 1))
theorem noPairs_of {ps qs : List (Int × Int)} (h : ps <+: qs) (hn : noPairs ps = false) : noPairs qs = false := by
  obtain ⟨r, rfl⟩ := h
  unfold noPairs at *
  rw [List.all_append, hn, Bool.false_and]
set_option maxHeartbeats 4000000 in
set_option maxRecDepth 100000 in
theorem clashesOf_no (B : Nat) (v : Value) (xs : List Int) (e : Int) (w : World) (h : LstI B w v xs) (hB : B ≤ w.heap.size) (hq : clashNo e xs = true) :
    Calls Try.prog 51 #[.int .i64 e, v] w fun x w' => x = .returned (.tuple #[.slice none 0 0, .bool false]) ∧ Below w.heap.size w w' := by
  have hA : Hid (∀ w', Below w.heap.size w w' → Calls Try.prog 99 #[v, .int .i64 0, .int .i64 (e - 1)] w' fun x w'' => x = .returned (.bool (allIn xs 0 (e - 1))) ∧ w' = w'') := Lib.hid fun w' hb => areWithin_any B v xs 0 (e - 1) w' (h.below hb hB).lst
  obtain ⟨a, cap, rfl, hl, hcap, hcm, _⟩ := h.at_
  clear h
  unfold clashNo at hq
  generalize allIn xs 0 (e - 1) = al at *
  generalize xs.length = n at *
  unfold maxLen at hl hcm
  have hb1 := Lib.hid (below_alloc (below_alloc (Below.refl w.heap.size w) (.cells #[.slice none 0 0] 75)) (.cells #[.bool false] 4))
  cases h1 : inB e 1 12
  · go_enter Try.func51, Try.ntmps51
    go_wp2_with (go_at_call 89; (with_reducible refine (isWithin_is _ _ _ h1 _).mono ?_); rintro e' w' ⟨rfl, rfl⟩)
    exact bodyPost_ret (v := .tuple #[.slice none 0 0, .bool false]) (by simp [results, Try.results51, go_sem]) rfl ⟨rfl, hb1.out⟩
  · cases h2 : decide (n ≤ 64)
    · have h2b : (64 : Int) < (n : Int) := by have := of_decide_eq_false h2; omega
      go_enter Try.func51, Try.ntmps51
      go_wp2_with (go_at_call 89; (with_reducible refine (isWithin_is _ _ _ h1 _).mono ?_); rintro e' w' ⟨rfl, rfl⟩)
      exact bodyPost_ret (v := .tuple #[.slice none 0 0, .bool false]) (by simp [results, Try.results51, go_sem]) rfl ⟨rfl, hb1.out⟩
    · have h2b : ¬ (64 : Int) < (n : Int) := by have := of_decide_eq_true h2; omega
      cases h3 : decide (n % 2 = 0)
      · have h3b : (n : Int) % 2 ≠ 0 := by have := of_decide_eq_false h3; omega
        go_enter Try.func51, Try.ntmps51
        go_wp2_with (go_at_call 89; (with_reducible refine (isWithin_is _ _ _ h1 _).mono ?_); rintro e' w' ⟨rfl, rfl⟩)
        exact bodyPost_ret (v := .tuple #[.slice none 0 0, .bool false]) (by simp [results, Try.results51, go_sem]) rfl ⟨rfl, hb1.out⟩
      · have h3b : ((n : Int) % 2 != 0) = false := by rw [bne_eq_false_iff_eq]; have := of_decide_eq_true h3; omega
        have d2 : decide ((64 : Int) < (n : Int)) = false := decide_eq_false h2b
        obtain ⟨g1, g2⟩ := inB_true h1
        have hw1 : IntKind.i64.wrap (e - 1) = e - 1 := IntWalk.i64_in _ (by omega)
        rw [h1, h2, h3] at hq
        simp only [Bool.true_and, Bool.not_eq_true'] at hq
        subst hq
        have hA1 := hA.out _ hb1.out
        go_enter Try.func51, Try.ntmps51
        go_wp2_with (first | (go_at_call 89; (with_reducible refine (isWithin_is _ _ _ h1 _).mono ?_); rintro e' w' ⟨rfl, rfl⟩) | (go_at_call 99; (with_reducible refine hA1.mono ?_); rintro e' w' ⟨rfl, rfl⟩))
        exact bodyPost_ret (v := .tuple #[.slice none 0 0, .bool false]) (by simp [results, Try.results51, go_sem]) rfl ⟨rfl, hb1.out⟩

theorem infoN : (Try.prog.info? 3).map (fun i => (i.zero, i.size, i.bytes)) = some (some (.int .i64 0), 1, 8) := by kernel_rfl
set_option maxHeartbeats 8000000 in
set_option maxRecDepth 100000 in
theorem clashesOf_pairs (B : Nat) (v : Value) (xs : List Int) (E : Nat) (w : World) (h : LstI B w v xs) (hB : B ≤ w.heap.size) (hq : clashNo E xs = false) :
    Calls Try.prog 51 #[.int .i64 E, v] w fun x w' => ((noPairs (pairsL xs) = false ∧ x = .returned (.tuple #[.slice none 0 0, .bool false])) ∨
      (noPairs (pairsL xs) = true ∧ ∃ g, x = .returned (.tuple #[.slice (some ⟨g, 0, none⟩) E E, .bool true]) ∧ w'.ownsRow w.heap.size 3 1 (.slice (some ⟨g, 0, none⟩) E E) E ((setsN E (pairsL xs)).map (Value.int .i64)))) ∧ Below w.heap.size w w' := by
  have hA : Hid (∀ w', Below w.heap.size w w' → Calls Try.prog 99 #[v, .int .i64 0, .int .i64 ((E : Int) - 1)] w' fun x w'' => x = .returned (.bool (allIn xs 0 ((E : Int) - 1))) ∧ w' = w'') := Lib.hid fun w' hb => areWithin_any B v xs 0 ((E : Int) - 1) w' (h.below hb hB).lst
  have hLw := Lib.hid h
  obtain ⟨a, cap, rfl, hl, hcap, hcm, _⟩ := h.at_
  clear h
  unfold clashNo at hq
  simp only [Bool.not_eq_false', Bool.and_eq_true, decide_eq_true_eq] at hq
  obtain ⟨⟨⟨q1, q2⟩, q3⟩, q4⟩ := hq
  have hIn := Lib.hid q4
  rw [q4] at hA
  obtain ⟨g1, g2⟩ := inB_true q1
  have hP := Lib.hid (fun n w' a' cap' => pairsOf_any a' n cap' w')
  have hLen := Lib.hid q3
  have hL2 := Lib.hid q2
  generalize hxl : xs.length = n at *
  have hXl := Lib.hid hxl
  clear hxl
  unfold maxLen at hl hcm
  have h3b : ((n : Int) % 2 != 0) = false := by rw [bne_eq_false_iff_eq]; omega
  have d2 : decide ((64 : Int) < (n : Int)) = false := decide_eq_false (by omega)
  have hw1 : IntKind.i64.wrap ((E : Int) - 1) = (E : Int) - 1 := IntWalk.i64_in _ (by omega)
  have hb1 := Lib.hid (below_alloc (below_alloc (Below.refl w.heap.size w) (.cells #[.slice none 0 0] 75)) (.cells #[.bool false] 4))
  have hA1 := Lib.hid (hA.out _ hb1.out)
  obtain ⟨i0, hi, hz0, hz1, hz2⟩ := info_parts infoN
  refine (callsIn_wide (n := 5)).1 ?_
  have h1 : 1 ≤ 5 := by omega
  have h4 : 1 ≤ 5 - 1 := by omega
  refine callsIn_of_wp_marks Try.func51 rfl trivial ?_ rfl
  simp only [Try.ntmps51, List.size_toArray, List.length_cons, List.length_nil, Nat.reduceAdd, Nat.reduceSub, Array.replicate_succ, Array.replicate_zero, List.push_toArray, List.append_toArray, List.nil_append, List.cons_append]
  gi_wp2_with (first | (refine ⟨trivial, ?_⟩; gi_at_call 89; (with_reducible refine (callsIn_wide.2 (isWithin_is _ _ _ q1 _)).mono ?_); rintro e' w' ⟨rfl, rfl⟩) | (refine ⟨trivial, ?_⟩; gi_at_call 99; (with_reducible refine (callsIn_wide.2 hA1.out).mono ?_); rintro e' w' ⟨rfl, rfl⟩) | (gi_at_make; refine wpListIn_made _ rfl _ _ _ rfl w.heap.size _ i0 (.int .i64 0) 1 Try.underlying75 hi hz0 hz1 _ _ _ _ E rfl rfl rfl rfl ?c1 ?c2 ?c3 ?_))
  case c1 => rw [hz2]; omega
  case c2 => unfold maxLen; omega
  case c3 => simp; omega
  intro w2 hown2 hg2
  have x1 : Boxed w2 w.heap.size 75 (.slice none 0 0) := ((Boxed.new w _ _).alloc _).kept hg2 (by simp)
  have x2 : Boxed w2 (w.heap.size + 1) 4 (.bool false) := by
    have := Boxed.new (w.alloc (.cells #[.slice none 0 0] 75)) 4 (.bool false)
    rw [World.size_alloc] at this
    exact this.kept hg2 (by simp)
  have x3 : w2.ownsRow w.heap.size 3 1 (.slice (some ⟨w.heap.size + 1 + 1, 0, none⟩) E E) E ((setsN E []).map (Value.int .i64)) := by
    rw [toList_madeCells_one] at hown2
    rw [setsN_nil, List.map_replicate]
    exact hown2
  have x4 : Below w.heap.size w w2 := hb1.out.grown hg2 (by simp; omega) (fun k hk => by cases hk)
  have x5 : w.heap.size + 1 + 1 < w2.heap.size := (ownsRow_lt x3).2
  have X := Lib.hid (And.intro x1 (And.intro x2 (And.intro x3 (And.intro x4 x5))))
  clear x1 x2 x3 x4 x5 hown2 hg2
  gi_wp2_with (refine ⟨trivial, ?_⟩; gi_at_call 100; (with_reducible refine (callsIn_wide.2 (hP.out _ _ _ _)).mono ?_); rintro e' w' ⟨rfl, rfl⟩)
  obtain ⟨x1, x2, x3, x4, x5⟩ := X.out
  have hxs : xs.length % 2 = 0 := by rw [hXl.out]; exact hLen.out
  have hxs2 : xs.length ≤ 2000 := by rw [hXl.out]; have := hL2.out; omega
  have bS := Boxed.new w2 75 (.slice (some ⟨w.heap.size + 1 + 1, 0, none⟩) E E)
  have bL := Boxed.new (w2.alloc (.cells #[.slice (some ⟨w.heap.size + 1 + 1, 0, none⟩) E E] 75)) 22 (.slice a n cap)
  rw [World.size_alloc] at bL
  have hBel : Below w.heap.size w ((w2.alloc (.cells #[.slice (some ⟨w.heap.size + 1 + 1, 0, none⟩) E E] 75)).alloc (.cells #[.slice a n cap] 22)) := (x4.alloc x4.size _).alloc (by simp; omega) _
  have hsz : ((w2.alloc (.cells #[.slice (some ⟨w.heap.size + 1 + 1, 0, none⟩) E E] 75)).alloc (.cells #[.slice a n cap] 22)).heap.size = w2.heap.size + 2 := by simp
  have hF : Hid (Boxed ((w2.alloc (.cells #[.slice (some ⟨w.heap.size + 1 + 1, 0, none⟩) E E] 75)).alloc (.cells #[.slice a n cap] 22)) w.heap.size 75 (.slice none 0 0) ∧ Boxed ((w2.alloc (.cells #[.slice (some ⟨w.heap.size + 1 + 1, 0, none⟩) E E] 75)).alloc (.cells #[.slice a n cap] 22)) (w.heap.size + 1) 4 (.bool false) ∧
      Boxed ((w2.alloc (.cells #[.slice (some ⟨w.heap.size + 1 + 1, 0, none⟩) E E] 75)).alloc (.cells #[.slice a n cap] 22)) w2.heap.size 75 (.slice (some ⟨w.heap.size + 1 + 1, 0, none⟩) E E) ∧ ((w2.alloc (.cells #[.slice (some ⟨w.heap.size + 1 + 1, 0, none⟩) E E] 75)).alloc (.cells #[.slice a n cap] 22)).ownsRow w.heap.size 3 1 (.slice (some ⟨w.heap.size + 1 + 1, 0, none⟩) E E) E ((setsN E []).map (Value.int .i64))) :=
    Lib.hid ⟨(x1.alloc _).alloc _, (x2.alloc _).alloc _, bS.alloc _, (x3.alloc _).alloc _⟩
  have hcB := bL.cell
  generalize (w2.alloc _).alloc _ = W0 at *
  clear x1 x2 x3 x4 X bS bL
  generalize hS : w2.heap.size = S at *
  have hGs : w.heap.size + 1 + 1 < S := x5
  have hLW : LstI w.heap.size W0 (.slice a n cap) xs := (hLw.out.below hBel hB).mono hB
  have z1 : S + 1 < W0.heap.size := by omega
  clear hsz hS x5
  have hmem : Hid (∀ x ∈ xs, 0 ≤ x ∧ x ≤ (E : Int) - 1) := Lib.hid fun x hx => inB_true (List.all_eq_true.1 hIn.out x hx)
  have hE12 : E ≤ 12 := by omega
  refine wpIn_rangeFunc_ownG rfl h1 (gf := 127) (lb := #[.pointer (some ⟨S + 1, 0, none⟩)]) rfl trivial (enters_of Try.func127 (by kernel_rfl) rfl)
    (pairs_stops (5 - 1) (S + 1) w.heap.size (by omega) _ xs W0 (by omega) (by omega) hcB hLW hxs hxs2) KeptA.t (KeptA.b (by omega)) (Below.refl _ _) (fun _ => rfl)
    (fun pre W => (noPairs (pre.map (·.1)) = true ∧ PairsIn E (pre.map (·.1))) ∧ (Boxed W w.heap.size 75 (.slice none 0 0) ∧ Boxed W (w.heap.size + 1) 4 (.bool false) ∧ Boxed W S 75 (.slice (some ⟨w.heap.size + 1 + 1, 0, none⟩) E E) ∧ W.ownsRow w.heap.size 3 1 (.slice (some ⟨w.heap.size + 1 + 1, 0, none⟩) E E) E ((setsN E (pre.map (·.1))).map (Value.int .i64))) ∧ Below w.heap.size w W ∧ W0.heap.size ≤ W.heap.size)
    (fun c pre W => c = .ret ∧ noPairs (pre.map (·.1)) = false ∧ (Boxed W w.heap.size 75 (.slice none 0 0) ∧ Boxed W (w.heap.size + 1) 4 (.bool false)) ∧ Below w.heap.size w W ∧ W0.heap.size ≤ W.heap.size)
    (ownFrom_of_below (fun s W h => h.2.2.2) fun s W W' h hb => ⟨h.1, ⟨boxed_below h.2.1.1 hb (by omega), boxed_below h.2.1.2.1 hb (by omega), boxed_below h.2.1.2.2.1 hb (by omega), ownsRow_below h.2.1.2.2.2 hb (by omega)⟩, h.2.2.1.trans (hb.mono (by omega)), Nat.le_trans h.2.2.2 hb.size⟩)
    (fun c => ownFrom_of_below (fun s W h => h.2.2.2.2) fun s W W' h hb => ⟨h.1, h.2.1, ⟨boxed_below h.2.2.1.1 hb (by omega), boxed_below h.2.2.1.2 hb (by omega)⟩, h.2.2.2.1.trans (hb.mono (by omega)), Nat.le_trans h.2.2.2.2 hb.size⟩)
    ⟨⟨rfl, fun p hp => by cases hp⟩, hF.out, hBel, Nat.le_refl _⟩
    (fun x => { tmps := #[.int .i64 E, .slice a n cap, undef, undef, .pointer (some ⟨w.heap.size, 0, none⟩), .pointer (some ⟨w.heap.size + 1, 0, none⟩), .pointer (some ⟨S, 0, none⟩), .int .i64 x.1.1, .int .i64 x.1.2, .int .i64 E, .bool true, .bool false, .bool false, .slice a n cap, .int .i64 n, .bool false, .bool false, .bool false, .slice a n cap, .int .i64 n, .int .i64 ((n : Int) % 2), .bool false, .bool false, .bool false, .slice a n cap, .int .i64 E, .int .i64 ((E : Int) - 1), .bool true, .bool false, .bool false, .int .i64 E, .slice (some ⟨w.heap.size + 1 + 1, 0, none⟩) E E, .slice a n cap, .func (.func 127) #[] #[.pointer (some ⟨S + 1, 0, none⟩)], .int .i64 x.1.1, .int .i64 x.1.2, undef, undef, undef, undef, undef, undef, undef, undef], defers := [] }) ?assign ?body ?done ?stop
  case assign =>
    intro l x W K hK
    gi_wp2
    exact hK
  case body =>
    rintro l pre ⟨⟨pa, pb⟩, hx⟩ W ⟨⟨hn, hpi⟩, ⟨b1, b2, b3, b4⟩, hbw, hsw⟩ hlt
    have hm := pair_mem hx
    have m1 := hmem.out _ hm.1
    have m2 := hmem.out _ hm.2
    have c1 := b1.cell
    have c2 := b2.cell
    have c3 := b3.cell
    have f1 := b1.frozen
    have f2 := b2.frozen
    have f3 := b3.frozen
    cases hq : (pa == pb)
    · obtain ⟨ka, rfl⟩ : ∃ k : Nat, pa = (k : Int) := ⟨pa.toNat, by omega⟩
      obtain ⟨kb, rfl⟩ : ∃ k : Nat, pb = (k : Int) := ⟨pb.toNat, by omega⟩
      have hab : ka ≠ kb := fun e => by rw [e] at hq; simp at hq
      dsimp only at m1 m2
      have hAdd := Lib.hid (add_any w.heap.size (w.heap.size + 1 + 1) E ka kb (pre.map (·.1)) W b4 hE12 (by omega) (by omega) hab hpi)
      have hps : PairsIn E (pre.map (·.1) ++ [((ka : Int), (kb : Int))]) := hpi.snoc ⟨by omega, by omega, by omega, by omega, by dsimp only; omega⟩
      have hnp : noPairs (pre.map (·.1) ++ [((ka : Int), (kb : Int))]) = true := by unfold noPairs at hn ⊢; rw [List.all_append, hn]; simp [hq]
      have hEnd := Lib.hid (And.intro hps (And.intro hnp (And.intro b1 (And.intro b2 (And.intro b3 hbw)))))
      clear b1 b2 b3 b4 hpi hn hps hnp hbw hm
      gi_wp2_with (refine ⟨trivial, ?_⟩; gi_at_call 101; (with_reducible refine (CallsIn.inRound l (callsIn_wide.2 hAdd.out)).mono ?_); rintro e' w' ⟨⟨v', rfl⟩, ho, hg⟩)
      obtain ⟨hps, hnp, b1, b2, b3, hbw⟩ := hEnd.out
      have hwi : Within w.heap.size W0.heap.size W w' := Within.grown hg (by omega) fun g e => by cases e; omega
      refine ⟨hwi.from, hwi.kept, ⟨?_, ?_⟩, ⟨b1.kept hg (by intro e; injection e; omega), b2.kept hg (by intro e; injection e; omega), b3.kept hg (by intro e; injection e; omega), ?_⟩, hbw.trans hwi.1, Nat.le_trans hsw hg.size⟩
      · rw [List.map_append]; exact hnp
      · rw [List.map_append]; exact hps
      · rw [List.map_append]; exact ho
    · have hnp : noPairs (pre.map (·.1) ++ [(pa, pb)]) = false := by unfold noPairs; rw [List.all_append]; simp [hq]
      have hEnd := Lib.hid (And.intro hnp (And.intro b1 (And.intro b2 hbw)))
      clear b1 b2 b3 b4 hpi hn hnp hbw hm
      gi_wp2
      obtain ⟨hnp, b1, b2, hbw⟩ := hEnd.out
      have hwi : Within w.heap.size W0.heap.size W ((W.setCell ⟨w.heap.size, 0, none⟩ (.slice none 0 0)).setCell ⟨w.heap.size + 1, 0, none⟩ (.bool false)) := ((Within.refl _ _ W).set (p := ⟨w.heap.size, 0, none⟩) (Nat.le_refl _) (show w.heap.size < W0.heap.size by omega) _).set (p := ⟨w.heap.size + 1, 0, none⟩) (Nat.le_succ _) (show w.heap.size + 1 < W0.heap.size by omega) _
      refine ⟨hwi.from, rfl, ?_, ⟨boxed_apart (b1.set _) (by show w.heap.size ≠ w.heap.size + 1; omega) _, (boxed_apart b2 (by show w.heap.size + 1 ≠ w.heap.size; omega) _).set _⟩, hbw.trans hwi.1, Nat.le_trans hsw hwi.1.size⟩
      rw [List.map_append]; exact hnp
  case done =>
    rintro D ys W hD hys ⟨⟨hn, hpi⟩, ⟨b1, b2, b3, b4⟩, hbw, hsw⟩ hK
    have c1 := b1.cell
    have c2 := b2.cell
    have c3 := b3.cell
    have f1 := b1.frozen
    have f2 := b2.frozen
    gi_wp2
    have hys2 : ys.map (·.1) = pairsL xs := hys
    rw [hys2] at hn b4
    have hK' := (KeepsOthers.setCell (W.setCell ⟨w.heap.size, 0, none⟩ (.slice (some ⟨w.heap.size + 1 + 1, 0, none⟩) E E)) ⟨w.heap.size + 1, 0, none⟩ (.bool true)).same D _ ((KeepsOthers.setCell W ⟨w.heap.size, 0, none⟩ (.slice (some ⟨w.heap.size + 1 + 1, 0, none⟩) E E)).same D _ hK rfl) rfl
    have e1 := cell_put (.deferred none) (boxed_apart (b1.set (.slice (some ⟨w.heap.size + 1 + 1, 0, none⟩) E E)) (p := ⟨w.heap.size + 1, 0, none⟩) (by show w.heap.size ≠ w.heap.size + 1; omega) (.bool true)).cell hK' rfl
    have e2 := cell_put (.deferred none) ((boxed_apart b2 (p := ⟨w.heap.size, 0, none⟩) (by show w.heap.size + 1 ≠ w.heap.size; omega) (.slice (some ⟨w.heap.size + 1 + 1, 0, none⟩) E E)).set (.bool true)).cell hK' rfl
    have hB9 : Below w.heap.size w ((W.setCell ⟨w.heap.size, 0, none⟩ (.slice (some ⟨w.heap.size + 1 + 1, 0, none⟩) E E)).setCell ⟨w.heap.size + 1, 0, none⟩ (.bool true)) := (hbw.setCell (p := ⟨w.heap.size, 0, none⟩) (Nat.le_refl _) _).setCell (p := ⟨w.heap.size + 1, 0, none⟩) (Nat.le_succ _) _
    refine ⟨by simp, .inl ⟨_, _, rfl, run_takeDeferred hK', ?_⟩⟩
    refine ⟨.tuple #[.slice (some ⟨w.heap.size + 1 + 1, 0, none⟩) E E, .bool true], ?_, .inr ⟨hn, _, rfl, ?_⟩, ?_⟩
    · simp [results, Try.f51, go_sem, e1, e2]
    · refine ownsRow_putObj ?_ _ hK' rfl
      have g1 := b4.kept (grownBy_setCell' W w.heap.size (.slice (some ⟨w.heap.size + 1 + 1, 0, none⟩) E E)) (.inr (by simp [Value.ownBlock] <;> omega))
      exact g1.kept (grownBy_setCell' _ (w.heap.size + 1) (.bool true)) (.inr (by simp [Value.ownBlock] <;> omega))
    · exact hB9.trans (belowK_b (w := W0) (by omega) _ D _ _ hD hK' rfl rfl)
  case stop =>
    rintro D c pre W hD hpre ⟨rfl, hn, ⟨b1, b2⟩, hbw, hsw⟩ hK
    have c1 := b1.cell
    have c2 := b2.cell
    gi_wp2
    have e1 := cell_put (.deferred none) c1 hK rfl
    have e2 := cell_put (.deferred none) c2 hK rfl
    refine ⟨by simp, .inl ⟨_, _, rfl, run_takeDeferred hK, ?_⟩⟩
    refine ⟨.tuple #[.slice none 0 0, .bool false], ?_, .inl ⟨noPairs_of hpre hn, rfl⟩, ?_⟩
    · simp [results, Try.f51, go_sem, e1, e2]
    · exact hbw.trans (belowK_b (w := W0) (by omega) _ D _ _ hD hK rfl rfl)
/-- The program's side, both ways in one. -/
theorem clashOk_no {e : Int} {xs : List Int} (h : clashNo e xs = true) : clashOk e xs = false := by
  unfold clashNo at h
  unfold clashOk
  rw [Bool.not_eq_true'] at h
  rw [h, Bool.false_and]
theorem clashOk_of {e : Int} {xs : List Int} (h : clashNo e xs = false) : clashOk e xs = noPairs (pairsL xs) := by
  unfold clashNo at h
  unfold clashOk
  rw [Bool.not_eq_false'] at h
  rw [h, Bool.true_and]
theorem clashNo_in {e : Int} {xs : List Int} (h : clashNo e xs = false) : 1 ≤ e ∧ e ≤ 12 ∧ xs.length ≤ 64 ∧ xs.length % 2 = 0 ∧ ∀ x ∈ xs, 0 ≤ x ∧ x ≤ e - 1 := by
  unfold clashNo at h
  rw [Bool.not_eq_false'] at h
  simp only [Bool.and_eq_true, decide_eq_true_eq] at h
  obtain ⟨⟨⟨q1, q2⟩, q3⟩, q4⟩ := h
  exact ⟨(inB_true q1).1, (inB_true q1).2, q2, q3, fun x hx => inB_true (List.all_eq_true.1 q4 x hx)⟩
theorem clashOk_in {e : Int} {xs : List Int} (h : clashOk e xs = true) : clashNo e xs = false ∧ noPairs (pairsL xs) = true := by
  cases hn : clashNo e xs
  · exact ⟨rfl, by rw [← clashOk_of hn]; exact h⟩
  · rw [clashOk_no hn] at h; cases h
theorem clash_pairs {E : Nat} {xs : List Int} (h : clashOk E xs = true) : PairsIn E (pairsL xs) := fun p hp => by
  obtain ⟨h1, h2⟩ := clashOk_in h
  obtain ⟨_, _, _, _, h3⟩ := clashNo_in h1
  have hm := pair_mem hp
  have m1 := h3 _ hm.1
  have m2 := h3 _ hm.2
  have := List.all_eq_true.1 h2 p hp
  exact ⟨by omega, by omega, by omega, by omega, by simpa using this⟩

theorem clashesOf_any (B : Nat) (v : Value) (xs : List Int) (e : Int) (w : World) (h : LstI B w v xs) (hB : B ≤ w.heap.size) :
    Calls Try.prog 51 #[.int .i64 e, v] w fun x w' => ((clashOk e xs = false ∧ x = .returned (.tuple #[.slice none 0 0, .bool false])) ∨
      (clashOk e xs = true ∧ ∃ g, x = .returned (.tuple #[.slice (some ⟨g, 0, none⟩) e.toNat e.toNat, .bool true]) ∧ w'.ownsRow w.heap.size 3 1 (.slice (some ⟨g, 0, none⟩) e.toNat e.toNat) e.toNat ((setsN e.toNat (pairsL xs)).map (Value.int .i64)))) ∧ Below w.heap.size w w' := by
  cases hn : clashNo e xs
  · obtain ⟨E, rfl⟩ : ∃ E : Nat, e = (E : Int) := ⟨e.toNat, by have := clashNo_in hn; omega⟩
    rw [clashOk_of hn, Int.toNat_natCast]
    exact clashesOf_pairs B v xs E w h hB hn
  · refine (clashesOf_no B v xs e w h hB hn).mono ?_
    rintro x w' ⟨rfl, hb⟩
    exact ⟨.inl ⟨clashOk_no hn, rfl⟩, hb⟩
theorem clashes_two {e : Int} {xs : List Int} {x : Ending} {w w' : World} (h : ((clashOk e xs = false ∧ x = .returned (.tuple #[.slice none 0 0, .bool false])) ∨
      (clashOk e xs = true ∧ ∃ g, x = .returned (.tuple #[.slice (some ⟨g, 0, none⟩) e.toNat e.toNat, .bool true]) ∧ w'.ownsRow w.heap.size 3 1 (.slice (some ⟨g, 0, none⟩) e.toNat e.toNat) e.toNat ((setsN e.toNat (pairsL xs)).map (Value.int .i64)))) ∧ Below w.heap.size w w') :
    ∃ (a : Option Addr) (n c : Nat), x = .returned (.tuple #[.slice a n c, .bool (clashOk e xs)]) ∧ Below w.heap.size w w' := by
  rcases h with ⟨⟨h1, rfl⟩ | ⟨h1, g, rfl, _⟩, hb⟩
  · exact ⟨none, 0, 0, by rw [h1], hb⟩
  · exact ⟨_, _, _, by rw [h1], hb⟩
end Go.Proofs.Ytfidppepchobeaa
