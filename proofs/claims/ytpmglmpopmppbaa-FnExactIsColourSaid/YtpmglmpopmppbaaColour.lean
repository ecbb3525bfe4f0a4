/- Contracts: colours without clashes; the program's side. -/
import Derived.Test.YtpmglmpopmppbaaClash
import Derived.Test.YtpmglmpopmppbaaInRound
namespace Go.Proofs.Ytpmglmpopmppbaa
open Go.RowKit Go.Lst Go.Shelf

attribute [local go_sem] Oper.semAt_some

/-- As many colours as exams, from 0 to 11. -/
def colOk (e : Int) (xs cs : List Int) : Bool := clashOk e xs && decide ((cs.length : Int) = e) && allIn cs 0 11
def goodPair (cs : List Int) (p : Int × Int) : Bool := !(cs.getD p.1.toNat 0 == cs.getD p.2.toNat 0)
def colGood (cs : List Int) (ps : List (Int × Int)) : Bool := ps.all (goodPair cs)
theorem colGood_snoc (cs : List Int) (ps : List (Int × Int)) (p : Int × Int) : colGood cs (ps ++ [p]) = (colGood cs ps && goodPair cs p) := by unfold colGood; rw [List.all_append]; simp
theorem colGood_of {cs : List Int} {ps qs : List (Int × Int)} (h : ps <+: qs) (hn : colGood cs ps = false) : colGood cs qs = false := by
  obtain ⟨r, rfl⟩ := h
  unfold colGood at *
  rw [List.all_append, hn, Bool.false_and]
theorem areClashes_is {q : Bool} (B : Nat) (v : Value) (xs : List Int) (e : Int) (w : World) (h : LstI B w v xs) (hB : B ≤ w.heap.size) (hq : clashOk e xs = q) :
    Calls Try.prog 37 #[.int .i64 e, v] w fun x w' => x = .returned (.bool q) ∧ Below w.heap.size w w' := by
  rw [← hq]; exact implAreClashes_any B v xs e w h hB
set_option maxHeartbeats 4000000 in
set_option maxRecDepth 100000 in
theorem implIsColour_no (B : Nat) (v1 v2 : Value) (xs cs : List Int) (e : Int) (w : World) (h1 : LstI B w v1 xs) (h2 : LstI B w v2 cs) (hB : B ≤ w.heap.size) (hq : colOk e xs cs = false) :
    Calls Try.prog 39 #[.int .i64 e, v1, v2] w fun x w' => x = .returned (.tuple #[.bool false, .bool false]) ∧ Below w.heap.size w w' := by
  have hC : Hid (∀ w', Below w.heap.size w w' → Calls Try.prog 37 #[.int .i64 e, v1] w' fun x w'' => x = .returned (.bool (clashOk e xs)) ∧ Below w'.heap.size w' w'') := Lib.hid fun w' hb => implAreClashes_any B v1 xs e w' (h1.below hb hB) (Nat.le_trans hB hb.size)
  have hA : Hid (∀ w', Below w.heap.size w w' → Calls Try.prog 56 #[v2, .int .i64 0, .int .i64 11] w' fun x w'' => x = .returned (.bool (allIn cs 0 11)) ∧ w' = w'') := Lib.hid fun w' hb => areWithin_any B v2 cs 0 11 w' (h2.below hb hB).lst
  obtain ⟨a1, cap1, rfl, _⟩ := h1.at_
  obtain ⟨a2, cap2, rfl, hl, hcap, hcm, _⟩ := h2.at_
  clear h1 h2
  unfold colOk at hq
  generalize xs.length = n1 at *
  generalize cs.length = n2 at *
  unfold maxLen at hl hcm
  have hb1 := Lib.hid (below_alloc (below_alloc (below_alloc (Below.refl w.heap.size w) (.cells #[.slice a2 n2 cap2] 22)) (.cells #[.bool false] 4)) (.cells #[.bool false] 4))
  have hC1 := Lib.hid (hC.out _ hb1.out)
  clear hC
  generalize hcq : clashOk e xs = cq at *
  clear hcq
  have x1 := (((Boxed.new w 22 (.slice a2 n2 cap2)).alloc (.cells #[.bool false] 4)).alloc (.cells #[.bool false] 4))
  have x2 := (Boxed.new (w.alloc (.cells #[.slice a2 n2 cap2] 22)) 4 (.bool false)).alloc (.cells #[.bool false] 4)
  have x3 := Boxed.new ((w.alloc (.cells #[.slice a2 n2 cap2] 22)).alloc (.cells #[.bool false] 4)) 4 (.bool false)
  rw [World.size_alloc] at x2
  rw [World.size_alloc, World.size_alloc] at x3
  have hX := Lib.hid (And.intro x1 (And.intro x2 x3))
  clear x1 x2 x3
  cases cq
  · go_enter Try.func39, Try.ntmps39
    go_wp2_with (go_at_call 37; (with_reducible refine hC1.out.mono ?_); rintro e' w5 ⟨rfl, hb5⟩; have hB5 := Lib.hid (below_on hb1.out (Nat.le_refl _) hb5); have y1 := boxed_below hX.out.1 hb5 hX.out.1.lt; have y2 := boxed_below hX.out.2.1 hb5 hX.out.2.1.lt; have y3 := boxed_below hX.out.2.2 hb5 hX.out.2.2.lt; have c1 := y1.cell; have c2 := y2.cell; have c3 := y3.cell; have f2 := y2.frozen; have f3 := y3.frozen; have hY := Lib.hid (And.intro y1 (And.intro y2 y3)); clear hb5 y1 y2 y3)
    have y2 := boxed_apart (hY.out.2.1.set (.bool false)) (p := ⟨w.heap.size + 1 + 1, 0, none⟩) (by show w.heap.size + 1 ≠ w.heap.size + 1 + 1; omega) (.bool false)
    have y3 := (boxed_apart hY.out.2.2 (p := ⟨w.heap.size + 1, 0, none⟩) (by show w.heap.size + 1 + 1 ≠ w.heap.size + 1; omega) (.bool false)).set (.bool false)
    have e2 := y2.cell
    have e3 := y3.cell
    exact bodyPost_ret (v := .tuple #[.bool false, .bool false]) (by simp [results, Try.results39, go_sem, e2, e3]) rfl ⟨rfl, (hB5.out.setCell (p := ⟨w.heap.size + 1, 0, none⟩) (Nat.le_succ _) _).setCell (p := ⟨w.heap.size + 1 + 1, 0, none⟩) (by show w.heap.size ≤ w.heap.size + 1 + 1; omega) _⟩
  · by_cases h2 : (n2 : Int) = e
    · have d2 : ((n2 : Int) != e) = false := by rw [bne_eq_false_iff_eq]; exact h2
      rw [decide_eq_true h2, Bool.true_and, Bool.true_and] at hq
      rw [hq] at hA
      clear h2
      go_enter Try.func39, Try.ntmps39
      go_wp2_with (first | (go_at_call 37; (with_reducible refine hC1.out.mono ?_); rintro e' w5 ⟨rfl, hb5⟩; have hB5 := Lib.hid (below_on hb1.out (Nat.le_refl _) hb5); have y1 := boxed_below hX.out.1 hb5 hX.out.1.lt; have y2 := boxed_below hX.out.2.1 hb5 hX.out.2.1.lt; have y3 := boxed_below hX.out.2.2 hb5 hX.out.2.2.lt; have c1 := y1.cell; have c2 := y2.cell; have c3 := y3.cell; have f2 := y2.frozen; have f3 := y3.frozen; have hY := Lib.hid (And.intro y1 (And.intro y2 y3)); clear hb5 y1 y2 y3) | (go_at_call 56; (with_reducible refine (hA.out _ hB5.out).mono ?_); rintro e6 w6 ⟨rfl, rfl⟩))
      have y2 := boxed_apart (hY.out.2.1.set (.bool false)) (p := ⟨w.heap.size + 1 + 1, 0, none⟩) (by show w.heap.size + 1 ≠ w.heap.size + 1 + 1; omega) (.bool false)
      have y3 := (boxed_apart hY.out.2.2 (p := ⟨w.heap.size + 1, 0, none⟩) (by show w.heap.size + 1 + 1 ≠ w.heap.size + 1; omega) (.bool false)).set (.bool false)
      have e2 := y2.cell
      have e3 := y3.cell
      exact bodyPost_ret (v := .tuple #[.bool false, .bool false]) (by simp [results, Try.results39, go_sem, e2, e3]) rfl ⟨rfl, (hB5.out.setCell (p := ⟨w.heap.size + 1, 0, none⟩) (Nat.le_succ _) _).setCell (p := ⟨w.heap.size + 1 + 1, 0, none⟩) (by show w.heap.size ≤ w.heap.size + 1 + 1; omega) _⟩
    · have d2 : ((n2 : Int) != e) = true := by rw [bne_iff_ne]; exact h2
      clear h2
      go_enter Try.func39, Try.ntmps39
      go_wp2_with (go_at_call 37; (with_reducible refine hC1.out.mono ?_); rintro e' w5 ⟨rfl, hb5⟩; have hB5 := Lib.hid (below_on hb1.out (Nat.le_refl _) hb5); have y1 := boxed_below hX.out.1 hb5 hX.out.1.lt; have y2 := boxed_below hX.out.2.1 hb5 hX.out.2.1.lt; have y3 := boxed_below hX.out.2.2 hb5 hX.out.2.2.lt; have c1 := y1.cell; have c2 := y2.cell; have c3 := y3.cell; have f2 := y2.frozen; have f3 := y3.frozen; have hY := Lib.hid (And.intro y1 (And.intro y2 y3)); clear hb5 y1 y2 y3)
      have y2 := boxed_apart (hY.out.2.1.set (.bool false)) (p := ⟨w.heap.size + 1 + 1, 0, none⟩) (by show w.heap.size + 1 ≠ w.heap.size + 1 + 1; omega) (.bool false)
      have y3 := (boxed_apart hY.out.2.2 (p := ⟨w.heap.size + 1, 0, none⟩) (by show w.heap.size + 1 + 1 ≠ w.heap.size + 1; omega) (.bool false)).set (.bool false)
      have e2 := y2.cell
      have e3 := y3.cell
      exact bodyPost_ret (v := .tuple #[.bool false, .bool false]) (by simp [results, Try.results39, go_sem, e2, e3]) rfl ⟨rfl, (hB5.out.setCell (p := ⟨w.heap.size + 1, 0, none⟩) (Nat.le_succ _) _).setCell (p := ⟨w.heap.size + 1 + 1, 0, none⟩) (by show w.heap.size ≤ w.heap.size + 1 + 1; omega) _⟩

set_option maxHeartbeats 8000000 in
set_option maxRecDepth 100000 in
theorem implIsColour_yes (B : Nat) (v1 v2 : Value) (xs cs : List Int) (E : Nat) (w : World) (h1 : LstI B w v1 xs) (h2 : LstI B w v2 cs) (hB : B ≤ w.heap.size) (hq : colOk E xs cs = true) :
    Calls Try.prog 39 #[.int .i64 E, v1, v2] w fun x w' => x = .returned (.tuple #[.bool (colGood cs (pairsL xs)), .bool true]) ∧ Below w.heap.size w w' := by
  unfold colOk at hq
  simp only [Bool.and_eq_true, decide_eq_true_eq] at hq
  obtain ⟨⟨q1, q2⟩, q3⟩ := hq
  have hC : Hid (∀ w', Below w.heap.size w w' → Calls Try.prog 37 #[.int .i64 E, v1] w' fun x w'' => x = .returned (.bool true) ∧ Below w'.heap.size w' w'') := Lib.hid fun w' hb => areClashes_is B v1 xs E w' (h1.below hb hB) (Nat.le_trans hB hb.size) q1
  have hA : Hid (∀ w', Below w.heap.size w w' → Calls Try.prog 56 #[v2, .int .i64 0, .int .i64 11] w' fun x w'' => x = .returned (.bool true) ∧ w' = w'') := Lib.hid fun w' hb => areWithin_is B v2 cs 0 11 q3 w' (h2.below hb hB).lst
  have hPs := Lib.hid (clash_pairs q1)
  obtain ⟨r1, _⟩ := clashOk_in q1
  obtain ⟨r2, r3, r4, r5, _⟩ := clashNo_in r1
  have hLw := Lib.hid h1
  obtain ⟨a1, cap1, rfl, _⟩ := h1.at_
  obtain ⟨a2, cap2, rfl, hl, hcap, hcm, hc2⟩ := h2.at_
  clear h1 h2 q1 r1
  have hCe : Hid (∀ k, k < E → ∃ b o, a2 = some ⟨b, o, none⟩ ∧ b < w.heap.size ∧ w.cell? ⟨b, o + k, none⟩ = some (.int .i64 (cs.getD k 0))) := Lib.hid fun k hk => by
    obtain ⟨b, o, x, he, hb, hx, hcell⟩ := hc2 k (by omega)
    rw [getD_of hx]
    exact ⟨b, o, he, by omega, hcell⟩
  clear hc2
  have hP := Lib.hid (fun n w' a' cap' => pairsOf_any a' n cap' w')
  have hLen := Lib.hid r5
  have hL2 := Lib.hid r4
  generalize hxl : xs.length = n1 at *
  have hXl := Lib.hid hxl
  clear hxl r4 r5
  have q2n : cs.length = E := by omega
  rw [q2n] at hl hcap
  rw [q2n] at hA ⊢
  clear q2 q2n
  unfold maxLen at hl hcm
  have d2 : ((E : Int) != (E : Int)) = false := by simp
  have hb1 := Lib.hid (below_alloc (below_alloc (below_alloc (Below.refl w.heap.size w) (.cells #[.slice a2 E cap2] 22)) (.cells #[.bool false] 4)) (.cells #[.bool false] 4))
  have hC1 := Lib.hid (hC.out _ hb1.out)
  clear hC
  have x1 := (((Boxed.new w 22 (.slice a2 E cap2)).alloc (.cells #[.bool false] 4)).alloc (.cells #[.bool false] 4))
  have x2 := (Boxed.new (w.alloc (.cells #[.slice a2 E cap2] 22)) 4 (.bool false)).alloc (.cells #[.bool false] 4)
  have x3 := Boxed.new ((w.alloc (.cells #[.slice a2 E cap2] 22)).alloc (.cells #[.bool false] 4)) 4 (.bool false)
  rw [World.size_alloc] at x2
  rw [World.size_alloc, World.size_alloc] at x3
  have hX := Lib.hid (And.intro x1 (And.intro x2 x3))
  clear x1 x2 x3
  refine (callsIn_wide (n := 5)).1 ?_
  have h1 : 1 ≤ 5 := by omega
  have h4 : 1 ≤ 5 - 1 := by omega
  refine callsIn_of_wp_marks Try.func39 rfl trivial ?_ rfl
  simp only [Try.ntmps39, List.size_toArray, List.length_cons, List.length_nil, Nat.reduceAdd, Nat.reduceSub, Array.replicate_succ, Array.replicate_zero, List.push_toArray, List.append_toArray, List.nil_append, List.cons_append]
  gi_wp2_with (first | (refine ⟨trivial, ?_⟩; gi_at_call 37; (with_reducible refine (callsIn_wide.2 hC1.out).mono ?_); rintro e' w5 ⟨rfl, hb5⟩; have hB5 := Lib.hid (below_on hb1.out (Nat.le_refl _) hb5); have y1 := boxed_below hX.out.1 hb5 hX.out.1.lt; have y2 := boxed_below hX.out.2.1 hb5 hX.out.2.1.lt; have y3 := boxed_below hX.out.2.2 hb5 hX.out.2.2.lt; have c1 := y1.cell; have hY := Lib.hid (And.intro y1 (And.intro y2 y3)); clear hb5 y1 y2 y3) | (refine ⟨trivial, ?_⟩; gi_at_call 56; (with_reducible refine (callsIn_wide.2 (hA.out _ hB5.out)).mono ?_); rintro e6 w6 ⟨rfl, rfl⟩) | (refine ⟨trivial, ?_⟩; gi_at_call 53; (with_reducible refine (callsIn_wide.2 (hP.out _ _ _ _)).mono ?_); rintro e' w' ⟨rfl, rfl⟩))
  have hxs : xs.length % 2 = 0 := by rw [hXl.out]; exact hLen.out
  have hxs2 : xs.length ≤ 2000 := by rw [hXl.out]; have := hL2.out; omega
  obtain ⟨y1, y2, y3⟩ := hY.out
  have bL := Boxed.new w5 22 (.slice a1 n1 cap1)
  have hBel : Below w.heap.size w (w5.alloc (.cells #[.slice a1 n1 cap1] 22)) := hB5.out.alloc hB5.out.size _
  have hF : Hid (Boxed (w5.alloc (.cells #[.slice a1 n1 cap1] 22)) w.heap.size 22 (.slice a2 E cap2) ∧ Boxed (w5.alloc (.cells #[.slice a1 n1 cap1] 22)) (w.heap.size + 1) 4 (.bool false) ∧ Boxed (w5.alloc (.cells #[.slice a1 n1 cap1] 22)) (w.heap.size + 1 + 1) 4 (.bool false)) :=
    Lib.hid ⟨y1.alloc _, y2.alloc _, y3.alloc _⟩
  have z0 : w.heap.size + 1 + 1 < w5.heap.size := y3.lt
  have z1 : w5.heap.size < (w5.alloc (.cells #[.slice a1 n1 cap1] 22)).heap.size := by simp
  have hcB := bL.cell
  generalize w5.alloc _ = W0 at *
  clear y1 y2 y3 bL hY
  generalize w5.heap.size = S at *
  have hLW : LstI w.heap.size W0 (.slice a1 n1 cap1) xs := (hLw.out.below hBel hB).mono hB
  have hmix : Try.prog.follows .mixedOrders = true := by kernel_rfl
  refine wpIn_rangeFunc_ownG rfl h1 (gf := 73) (lb := #[.pointer (some ⟨S, 0, none⟩)]) rfl trivial (enters_of Try.func73 (by kernel_rfl) rfl)
    (pairs_stops (5 - 1) S w.heap.size (by omega) _ xs W0 (by omega) (by omega) hcB hLW hxs hxs2) KeptA.t (KeptA.b (by omega)) (Below.refl _ _) (fun _ => rfl)
    (fun pre W => colGood cs (pre.map (·.1)) = true ∧ (Boxed W w.heap.size 22 (.slice a2 E cap2) ∧ Boxed W (w.heap.size + 1) 4 (.bool false) ∧ Boxed W (w.heap.size + 1 + 1) 4 (.bool false)) ∧ Below w.heap.size w W ∧ W0.heap.size ≤ W.heap.size)
    (fun c pre W => c = .ret ∧ colGood cs (pre.map (·.1)) = false ∧ (Boxed W (w.heap.size + 1) 4 (.bool false) ∧ Boxed W (w.heap.size + 1 + 1) 4 (.bool true)) ∧ Below w.heap.size w W ∧ W0.heap.size ≤ W.heap.size)
    (ownFrom_of_below (fun s W h => h.2.2.2) fun s W W' h hb => ⟨h.1, ⟨boxed_below h.2.1.1 hb (by omega), boxed_below h.2.1.2.1 hb (by omega), boxed_below h.2.1.2.2 hb (by omega)⟩, h.2.2.1.trans (hb.mono (by omega)), Nat.le_trans h.2.2.2 hb.size⟩)
    (fun c => ownFrom_of_below (fun s W h => h.2.2.2.2) fun s W W' h hb => ⟨h.1, h.2.1, ⟨boxed_below h.2.2.1.1 hb (by omega), boxed_below h.2.2.1.2 hb (by omega)⟩, h.2.2.2.1.trans (hb.mono (by omega)), Nat.le_trans h.2.2.2.2 hb.size⟩)
    ⟨rfl, hF.out, hBel, Nat.le_refl _⟩
    (fun x => { tmps := #[.int .i64 E, .slice a1 n1 cap1, .slice a2 E cap2, undef, undef, .pointer (some ⟨w.heap.size, 0, none⟩), .pointer (some ⟨w.heap.size + 1, 0, none⟩), .pointer (some ⟨w.heap.size + 1 + 1, 0, none⟩), .int .i64 x.1.1, .int .i64 x.1.2, .int .i64 E, .slice a1 n1 cap1, .bool true, .bool false, .bool false, .slice a2 E cap2, .int .i64 E, .int .i64 E, .bool false, .bool false, .bool false, .slice a2 E cap2, .bool true, .bool false, .bool false, .slice a1 n1 cap1, .func (.func 73) #[] #[.pointer (some ⟨S, 0, none⟩)], .int .i64 x.1.1, .int .i64 x.1.2, undef, undef, undef, undef, undef, undef, undef, undef, undef], defers := [] }) ?assign ?body ?done ?stop
  case assign =>
    intro l x W K hK
    gi_wp2
    exact hK
  case body =>
    rintro l pre ⟨⟨pa, pb⟩, hx⟩ W ⟨hn, ⟨b1, b2, b3⟩, hbw, hsw⟩ hlt
    have hm := hPs.out _ hx
    dsimp only at hm
    obtain ⟨ka, rfl⟩ : ∃ k : Nat, pa = (k : Int) := ⟨pa.toNat, by omega⟩
    obtain ⟨kb, rfl⟩ : ∃ k : Nat, pb = (k : Int) := ⟨pb.toNat, by omega⟩
    have i1 : (ka : Int) < (E : Int) := by omega
    have i2 : (kb : Int) < (E : Int) := by omega
    obtain ⟨b, o, rfl, hbb, d1⟩ := hCe.out ka (by omega)
    obtain ⟨b', o', he, _, d3⟩ := hCe.out kb (by omega)
    injection he with he
    injection he with e1 e2 _
    subst e1 e2
    rw [← hbw.cell (p := ⟨b, o + ka, none⟩) hbb] at d1
    rw [← hbw.cell (p := ⟨b, o + kb, none⟩) hbb] at d3
    have c1 := b1.cell
    have c2 := b2.cell
    have c3 := b3.cell
    have f2 := b2.frozen
    have f3 := b3.frozen
    have hgp : goodPair cs ((ka : Int), (kb : Int)) = !(cs.getD ka 0 == cs.getD kb 0) := rfl
    cases hq : (cs.getD ka 0 == cs.getD kb 0)
    · have hng : colGood cs (pre.map (·.1) ++ [((ka : Int), (kb : Int))]) = true := by rw [colGood_snoc, hn, hgp, hq]; rfl
      have hEnd := Lib.hid (And.intro hng (And.intro b1 (And.intro b2 (And.intro b3 hbw))))
      generalize cs.getD ka 0 = ya at *
      generalize cs.getD kb 0 = yb at *
      clear b1 b2 b3 hng hbw hm hn hgp
      gi_wp2
      refine region_quiet_inRound hmix (by kernel_rfl) (by kernel_rfl) ?_
      repeat (gi_big_quiet_step (fail))
      refine wpQuietIn_nil ?_
      rintro _ ⟨nq, rfl⟩
      gi_wp2
      obtain ⟨hng, b1, b2, b3, hbw⟩ := hEnd.out
      have hwi : Within w.heap.size W0.heap.size W (W.drewN nq) := Within.of_below (by omega) (below_drawn W nq)
      exact ⟨hwi.from, hwi.kept, by rw [List.map_append]; exact hng, ⟨b1, b2, b3⟩, hbw.trans hwi.1, hsw⟩
    · have hng : colGood cs (pre.map (·.1) ++ [((ka : Int), (kb : Int))]) = false := by rw [colGood_snoc, hn, hgp, hq]; rfl
      have hEnd := Lib.hid (And.intro hng (And.intro b2 (And.intro b3 hbw)))
      generalize cs.getD ka 0 = ya at *
      generalize cs.getD kb 0 = yb at *
      clear b1 b2 b3 hng hbw hm hn hgp
      gi_wp2
      refine region_quiet_inRound hmix (by kernel_rfl) (by kernel_rfl) ?_
      repeat (gi_big_quiet_step (fail))
      refine wpQuietIn_nil ?_
      rintro _ ⟨nq, rfl⟩
      gi_wp2
      obtain ⟨hng, b2, b3, hbw⟩ := hEnd.out
      have hwi : Within w.heap.size W0.heap.size W (((W.drewN nq).setCell ⟨w.heap.size + 1, 0, none⟩ (.bool false)).setCell ⟨w.heap.size + 1 + 1, 0, none⟩ (.bool true)) :=
        ((Within.of_below (by omega) (below_drawn W nq)).set (p := ⟨w.heap.size + 1, 0, none⟩) (Nat.le_succ _) (show w.heap.size + 1 < W0.heap.size by omega) _).set (p := ⟨w.heap.size + 1 + 1, 0, none⟩) (show w.heap.size ≤ w.heap.size + 1 + 1 by omega) (show w.heap.size + 1 + 1 < W0.heap.size by omega) _
      exact ⟨hwi.from, rfl, by rw [List.map_append]; exact hng, boxed_two (W := W.drewN nq) b2 b3 (by omega) _ _, hbw.trans hwi.1, Nat.le_trans hsw hwi.1.size⟩
  case done =>
    rintro D ys W hD hys ⟨hn, ⟨b1, b2, b3⟩, hbw, hsw⟩ hK
    have c2 := b2.cell
    have c3 := b3.cell
    have f2 := b2.frozen
    have f3 := b3.frozen
    gi_wp2
    have hys2 : ys.map (·.1) = pairsL xs := hys
    rw [hys2] at hn
    have hK2 := others_two hK rfl ⟨w.heap.size + 1, 0, none⟩ ⟨w.heap.size + 1 + 1, 0, none⟩ (.bool true) (.bool true)
    obtain ⟨n2, n3⟩ := boxed_two b2 b3 (by omega) (.bool true) (.bool true)
    have e2 := cell_put (.deferred none) n2.cell hK2 rfl
    have e3 := cell_put (.deferred none) n3.cell hK2 rfl
    refine ⟨by simp, .inl ⟨_, _, rfl, run_takeDeferred hK2, ?_⟩⟩
    refine ⟨.tuple #[.bool true, .bool true], ?_, by rw [hn], ?_⟩
    · simp [results, Try.f39, go_sem, e2, e3]
    · exact ((hbw.setCell (p := ⟨w.heap.size + 1, 0, none⟩) (Nat.le_succ _) _).setCell (p := ⟨w.heap.size + 1 + 1, 0, none⟩) (show w.heap.size ≤ w.heap.size + 1 + 1 by omega) _).trans (belowK_b (w := W0) (by omega) _ D _ _ hD hK2 rfl rfl)
  case stop =>
    rintro D c pre W hD hpre ⟨rfl, hn, ⟨b2, b3⟩, hbw, hsw⟩ hK
    have c2 := b2.cell
    have c3 := b3.cell
    gi_wp2
    have e2 := cell_put (.deferred none) c2 hK rfl
    have e3 := cell_put (.deferred none) c3 hK rfl
    refine ⟨by simp, .inl ⟨_, _, rfl, run_takeDeferred hK, ?_⟩⟩
    refine ⟨.tuple #[.bool false, .bool true], ?_, by rw [colGood_of hpre hn], ?_⟩
    · simp [results, Try.f39, go_sem, e2, e3]
    · exact hbw.trans (belowK_b (w := W0) (by omega) _ D _ _ hD hK rfl rfl)
theorem implIsColour_any (B : Nat) (v1 v2 : Value) (xs cs : List Int) (e : Int) (w : World) (h1 : LstI B w v1 xs) (h2 : LstI B w v2 cs) (hB : B ≤ w.heap.size) :
    Calls Try.prog 39 #[.int .i64 e, v1, v2] w fun x w' => x = .returned (.tuple #[.bool (colOk e xs cs && colGood cs (pairsL xs)), .bool (colOk e xs cs)]) ∧ Below w.heap.size w w' := by
  cases hq : colOk e xs cs
  · exact implIsColour_no B v1 v2 xs cs e w h1 h2 hB hq
  · obtain ⟨E, rfl⟩ : ∃ E : Nat, e = (E : Int) := ⟨e.toNat, by
      unfold colOk at hq
      rw [Bool.and_eq_true, Bool.and_eq_true] at hq
      have := clashNo_in (clashOk_in hq.1.1).1
      omega⟩
    rw [Bool.true_and]
    exact implIsColour_yes B v1 v2 xs cs E w h1 h2 hB hq
end Go.Proofs.Ytpmglmpopmppbaa
