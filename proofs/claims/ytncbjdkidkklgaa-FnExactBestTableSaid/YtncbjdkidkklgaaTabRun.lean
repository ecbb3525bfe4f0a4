/- The program's CountTables and FirstTable. No condition. -/
import Derived.Test.YtncbjdkidkklgaaTabSeq
import Derived.Test.YtncbjdkidkklgaaTabSpec2
import Derived.Test.YtncbjdkidkklgaaInRound
import Derived.Test.YtncbjdkidkklgaaConcat
namespace Go.Proofs.Ytncbjdkidkklgaa
open Go.RowKit Go.Lst Go.Shelf

attribute [local go_sem] Oper.semAt_some

/-- What is known of a search that is made. -/
theorem tab_facts {e : Int} {xs : List RuleD} {p : Int} (h : okTab e xs p = true) : ∃ d P : Nat, e = ((d + 1 : Nat) : Int) ∧ p = (P : Int) ∧ d ≤ 11 ∧ 1 ≤ P ∧ P ≤ 60 ∧ P ^ d ≤ 4096 ∧ keptAll e xs p = keptTo P d xs (P ^ d) ∧ e.toNat - 1 = d ∧ p.toNat = P ∧ ∀ (i : Nat) (x : RuleD), xs[i]? = some x → okRule ((d + 1 : Nat) : Int) (P : Int) x = true := by
  obtain ⟨har, hp⟩ := okTab_of h
  obtain ⟨⟨e1, e12⟩, ⟨p1, p60⟩, _, hok⟩ := areRules_of har
  obtain ⟨d, rfl⟩ : ∃ d : Nat, e = ((d + 1 : Nat) : Int) := ⟨(e - 1).toNat, by omega⟩
  obtain ⟨P, rfl⟩ : ∃ P : Nat, p = (P : Int) := ⟨p.toNat, by omega⟩
  rw [Int.toNat_natCast, Int.toNat_natCast, show d + 1 - 1 = d by omega] at hp
  refine ⟨d, P, rfl, rfl, by omega, by omega, by omega, hp, ?_, by omega, by omega, hok⟩
  unfold keptAll
  rw [Int.toNat_natCast, Int.toNat_natCast, show d + 1 - 1 = d by omega]
set_option maxHeartbeats 4000000 in
theorem implCount_no (B : Nat) (e p : Int) (v : Value) (xs : List RuleD) (w : World) (h : LstRule B w v xs) (hB : B ≤ w.heap.size) (hq : okTab e xs p = false) : Calls Try.prog 16 #[.int .i64 e, v, .int .i64 p] w (CountPost e xs p w) := by
  have hA := Lib.hid (areForTables_any B e p v xs w h hB)
  have hN : Hid (∀ w', Below w.heap.size w w' → CountPost e xs p w (.returned (.tuple #[.int .i64 0, .bool false])) w') := Lib.hid fun w' hb => count_none hq hb
  rw [hq] at hA
  obtain ⟨a, cap, rfl, _⟩ := h
  generalize CountPost e xs p w = Q at *
  generalize xs.length = n at *
  clear hq
  go_enter Try.func16, Try.ntmps16
  go_wp2_with (go_at_call 22; (with_reducible refine (hA.out).mono ?_); rintro e' w1 ⟨rfl, hb1⟩; have hB1 := Lib.hid hb1; clear hb1)
  exact hN.out _ hB1.out
set_option maxHeartbeats 8000000 in
set_option maxRecDepth 100000 in
theorem implCount_run (B P d : Nat) (v : Value) (xs : List RuleD) (w : World) (h : LstRule B w v xs) (hB : B ≤ w.heap.size) (hq : okTab ((d + 1 : Nat) : Int) xs (P : Int) = true) (h1 : 1 ≤ P) (h2 : P ≤ 60) (hd : d ≤ 11) (hN : P ^ d ≤ 4096) (hka : keptAll ((d + 1 : Nat) : Int) xs (P : Int) = keptTo P d xs (P ^ d)) (hok : ∀ (i : Nat) (x : RuleD), xs[i]? = some x → okRule ((d + 1 : Nat) : Int) (P : Int) x = true) :
    Calls Try.prog 16 #[.int .i64 ((d + 1 : Nat) : Int), v, .int .i64 (P : Int)] w (CountPost ((d + 1 : Nat) : Int) xs (P : Int) w) := by
  have hA := Lib.hid (areForTables_any B ((d + 1 : Nat) : Int) (P : Int) v xs w h hB)
  rw [hq] at hA
  have hPo : Hid (∀ c w', c = (keptTo P d xs (P ^ d)).length → Below w.heap.size w w' → CountPost ((d + 1 : Nat) : Int) xs (P : Int) w (.returned (.tuple #[.int .i64 (c : Nat), .bool true])) w') := Lib.hid fun c w' hc hb => by
    unfold CountPost countTab; rw [hq, if_pos rfl, hka, hc]; exact ⟨rfl, hb⟩
  have hKl := Lib.hid (keptTo_length P d xs (P ^ d))
  have hLr := Lib.hid h
  obtain ⟨a, cap, rfl, _⟩ := h
  have hKt := Lib.hid (fun w' => keptTables_any ((d + 1 : Nat) : Int) (P : Int) a xs.length cap w')
  generalize CountPost ((d + 1 : Nat) : Int) xs (P : Int) w = Q at *
  have hd1 : ((d + 1 : Nat) : Int) = (d : Int) + 1 := by omega
  clear hq hka
  rw [hd1] at hA hKt ⊢
  refine (callsIn_wide (n := 5)).1 ?_
  have hf1 : 1 ≤ 5 := by omega
  have hf4 : 1 ≤ 5 - 1 := by omega
  refine callsIn_of_wp_marks Try.func16 rfl trivial ?_ rfl
  simp only [Try.ntmps16, List.size_toArray, List.length_cons, List.length_nil, Nat.reduceAdd, Nat.reduceSub, Array.replicate_succ, Array.replicate_zero, List.push_toArray, List.append_toArray, List.nil_append, List.cons_append]
  gi_wp2_with (first | (refine ⟨trivial, ?_⟩; gi_at_call 22; (with_reducible refine (callsIn_wide.2 hA.out).mono ?_); rintro e' w1 ⟨rfl, hb1⟩; have hB1 := Lib.hid hb1; clear hb1) | (refine ⟨trivial, ?_⟩; gi_at_call 23; (with_reducible refine (callsIn_wide.2 (hKt.out _)).mono ?_); rintro e' w' ⟨rfl, rfl⟩))
  have bC := (((Boxed.new w1 2 (.int .i64 0)).alloc (.cells #[.int .i64 ((d : Int) + 1)] 2)).alloc (.cells #[.slice a xs.length cap] 27)).alloc (.cells #[.int .i64 (P : Int)] 2)
  have hBel : Below w.heap.size w ((((w1.alloc (.cells #[.int .i64 0] 2)).alloc (.cells #[.int .i64 ((d : Int) + 1)] 2)).alloc (.cells #[.slice a xs.length cap] 27)).alloc (.cells #[.int .i64 (P : Int)] 2)) := (((hB1.out.alloc hB1.out.size _).alloc (by have := hB1.out.size; simp; omega) _).alloc (by have := hB1.out.size; simp; omega) _).alloc (by have := hB1.out.size; simp; omega) _
  have q1 := (((Boxed.new (w1.alloc (.cells #[.int .i64 0] 2)) 2 (.int .i64 ((d : Int) + 1))).alloc (.cells #[.slice a xs.length cap] 27)).alloc (.cells #[.int .i64 (P : Int)] 2)).cell
  have q2 := ((Boxed.new ((w1.alloc (.cells #[.int .i64 0] 2)).alloc (.cells #[.int .i64 ((d : Int) + 1)] 2)) 27 (.slice a xs.length cap)).alloc (.cells #[.int .i64 (P : Int)] 2)).cell
  have q3 := (Boxed.new (((w1.alloc (.cells #[.int .i64 0] 2)).alloc (.cells #[.int .i64 ((d : Int) + 1)] 2)).alloc (.cells #[.slice a xs.length cap] 27)) 2 (.int .i64 (P : Int))).cell
  rw [World.size_alloc] at q1
  rw [World.size_alloc, World.size_alloc] at q2
  rw [World.size_alloc, World.size_alloc, World.size_alloc] at q3
  generalize ((((w1.alloc _).alloc _).alloc _).alloc _) = W0 at *
  have hS0 : w.heap.size ≤ w1.heap.size := hB1.out.size
  generalize w1.heap.size = S at *
  have hSW : S < W0.heap.size := bC.lt
  rw [← hd1] at q1
  refine wpIn_rangeFunc_lent rfl hf1 (gf := 35) (lb := #[.pointer (some ⟨S + 1, 0, none⟩), .pointer (some ⟨S + 1 + 2, 0, none⟩), .pointer (some ⟨S + 1 + 1, 0, none⟩)]) rfl trivial (enters_of Try.func35 (by kernel_rfl) rfl)
    (kept_stops (5 - 1) (S + 1) (S + 1 + 2) (S + 1 + 1) w.heap.size (S + 1) P d _ xs h1 h2 hd hN (by omega) hok W0 q1 q3 q2 ((hLr.out.below hBel hB).mono hB) (by omega) (by omega) (by omega) (by omega)) KeptC.t (KeptC.b (by omega)) (fun x => TabLt.own _ x) (Below.refl _ _) (fun _ => rfl)
    (fun (pre : List TabV) (W : World) => Boxed W S 2 (.int .i64 (pre.length : Nat)) ∧ Below w.heap.size w W ∧ W0.heap.size ≤ W.heap.size)
    (fun (c : Code) (pre : List TabV) (W : World) => False)
    (ownLent_of_below (fun s W h => h.2.2) fun s W W' h hb => ⟨boxed_below h.1 hb hSW, h.2.1.trans (hb.mono (by omega)), Nat.le_trans h.2.2 hb.size⟩)
    (fun c => fun s X Y row h _ _ => h)
    ⟨bC, hBel, Nat.le_refl _⟩
    (fun x => { tmps := #[.int .i64 ((d : Int) + 1), .slice a xs.length cap, .int .i64 (P : Int), undef, undef, undef, .int .i64 0, .bool false, .pointer (some ⟨S, 0, none⟩), .int .i64 ((d : Int) + 1), .slice a xs.length cap, .int .i64 (P : Int), .bool true, .bool false, .int .i64 ((d : Int) + 1), .slice a xs.length cap, .int .i64 (P : Int), .func (.func 35) #[] #[.pointer (some ⟨S + 1, 0, none⟩), .pointer (some ⟨S + 1 + 2, 0, none⟩), .pointer (some ⟨S + 1 + 1, 0, none⟩)], .slice (some ⟨x.1, 0, none⟩) (d + 1) (d + 1), undef, undef, undef], defers := [] }) ?assign ?body ?done ?stop
  case assign =>
    intro l x W K hK
    gi_wp2
    first | exact hK | simpa [tabVal] using hK
  case body =>
    rintro l pre x W ⟨b1, hbw, hsw⟩ _ _ hlt
    have c1 := b1.cell
    have f1 := b1.frozen
    have hw : IntKind.i64.wrap ((pre.length : Int) + 1) = (pre.length : Int) + 1 := IntWalk.i64_in _ (by omega)
    have hln : (((pre ++ [x]).length : Nat) : Int) = (pre.length : Int) + 1 := by rw [List.length_append]; rfl
    have hEnd := Lib.hid (And.intro b1 hbw)
    have hLn := Lib.hid hln
    clear b1 hbw hln
    generalize pre.length = m at *
    gi_wp2
    obtain ⟨b1, hbw⟩ := hEnd.out
    have hwi : Within w.heap.size (S + 1) W (W.setCell ⟨S, 0, none⟩ (.int .i64 ((m : Int) + 1))) := (Within.refl _ _ W).set (p := ⟨S, 0, none⟩) hS0 (Nat.lt_succ_self S) _
    have hwj : Within w.heap.size W0.heap.size W (W.setCell ⟨S, 0, none⟩ (.int .i64 ((m : Int) + 1))) := (Within.refl _ _ W).set (p := ⟨S, 0, none⟩) hS0 hSW _
    refine ⟨hwj.from, hwi.keptC, ?_, hbw.trans hwi.1, Nat.le_trans hsw hwi.1.size⟩
    rw [hLn.out]
    exact b1.set _
  case done =>
    rintro D ys W hD hys ⟨b1, hbw, hsw⟩ hK
    have hys2 : ys.map (·.2) = keptTo P d xs (P ^ d) := hys
    have hyl := Lib.hid (show ys.length = (keptTo P d xs (P ^ d)).length by rw [← hys2, List.length_map])
    clear hys2 hys
    have c1 := b1.cell
    gi_wp2
    refine ⟨by simp, .inl ⟨_, _, rfl, run_takeDeferred hK, ?_⟩⟩
    refine ⟨.tuple #[.int .i64 (ys.length : Nat), .bool true], by simp [results, Try.f16, go_sem], hPo.out _ _ hyl.out (hbw.trans (belowK_b (w := W0) (by omega) _ D _ _ hD hK rfl rfl))⟩
  case stop =>
    rintro D c pre W _ _ h _
    exact h.elim
theorem implCount_any (B : Nat) (e p : Int) (v : Value) (xs : List RuleD) (w : World) (h : LstRule B w v xs) (hB : B ≤ w.heap.size) : Calls Try.prog 16 #[.int .i64 e, v, .int .i64 p] w (CountPost e xs p w) := by
  cases hq : okTab e xs p
  · exact implCount_no B e p v xs w h hB hq
  · obtain ⟨d, P, rfl, rfl, hd, h1, h2, hN, hka, _, _, hok⟩ := tab_facts hq
    exact implCount_run B P d v xs w h hB hq h1 h2 hd hN hka hok
set_option maxHeartbeats 4000000 in
theorem implFirst_no (B : Nat) (e p : Int) (v : Value) (xs : List RuleD) (w : World) (h : LstRule B w v xs) (hB : B ≤ w.heap.size) (hq : okTab e xs p = false) : Calls Try.prog 9 #[.int .i64 e, v, .int .i64 p] w (FirstPost e xs p w) := by
  have hb0 : Below w.heap.size w ((w.alloc (.cells #[.slice none 0 0] 24)).alloc (.cells #[.bool false] 4)) := below_alloc (below_alloc (Below.refl _ _) _) _
  have hA := Lib.hid (areForTables_any B e p v xs _ (h.below hb0 hB) (Nat.le_trans hB hb0.size))
  have hN : Hid (∀ w', Below w.heap.size w w' → FirstPost e xs p w (.returned (.tuple #[.slice none 0 0, .bool false])) w') := Lib.hid fun w' hb => first_none (firstTab_no hq) hb
  rw [hq] at hA
  have x0 := (Boxed.new w 24 (.slice none 0 0)).alloc (.cells #[.bool false] 4)
  have x1 := Boxed.new (w.alloc (.cells #[.slice none 0 0] 24)) 4 (.bool false)
  rw [World.size_alloc] at x1
  obtain ⟨a, cap, rfl, _⟩ := h
  generalize FirstPost e xs p w = Q at *
  generalize xs.length = n at *
  clear hq
  go_enter Try.func9, Try.ntmps9
  go_wp2_with fail
  generalize ((w.alloc (.cells #[.slice none 0 0] 24)).alloc (.cells #[.bool false] 4)) = w0 at *
  have hB0 := Lib.hid hb0
  have hX := Lib.hid (And.intro x0 x1)
  clear x0 x1 hb0
  with_reducible refine (hA.out).mono ?_
  rintro e' w1 ⟨rfl, hb1⟩
  have hB1 := Lib.hid (hB0.out.trans (hb1.mono hB0.out.size))
  have y0 := boxed_below hX.out.1 hb1 hX.out.1.lt
  have y1 := boxed_below hX.out.2 hb1 hX.out.2.lt
  have c0 := y0.cell
  have c1 := y1.cell
  have f0 := y0.frozen
  have f1 := y1.frozen
  have hY := Lib.hid (And.intro y0 y1)
  clear y0 y1 hb1
  go_wp2_with fail
  obtain ⟨z0, z1⟩ := boxed_two hY.out.1 hY.out.2 (by omega) (.slice none 0 0) (.bool false)
  have e0 := z0.cell
  have e1 := z1.cell
  exact bodyPost_ret (v := .tuple #[.slice none 0 0, .bool false]) (by simp [results, Try.results9, go_sem, e0, e1]) rfl (hN.out _ ((hB1.out.setCell (p := ⟨w.heap.size, 0, none⟩) (Nat.le_refl _) _).setCell (p := ⟨w.heap.size + 1, 0, none⟩) (Nat.le_succ _) _))
set_option maxHeartbeats 8000000 in
set_option maxRecDepth 100000 in
theorem implFirst_run (B P d : Nat) (v : Value) (xs : List RuleD) (w : World) (h : LstRule B w v xs) (hB : B ≤ w.heap.size) (hq : okTab ((d + 1 : Nat) : Int) xs (P : Int) = true) (h1 : 1 ≤ P) (h2 : P ≤ 60) (hd : d ≤ 11) (hN : P ^ d ≤ 4096) (hka : keptAll ((d + 1 : Nat) : Int) xs (P : Int) = keptTo P d xs (P ^ d)) (hok : ∀ (i : Nat) (x : RuleD), xs[i]? = some x → okRule ((d + 1 : Nat) : Int) (P : Int) x = true) :
    Calls Try.prog 9 #[.int .i64 ((d + 1 : Nat) : Int), v, .int .i64 (P : Int)] w (FirstPost ((d + 1 : Nat) : Int) xs (P : Int) w) := by
  have hb0 : Below w.heap.size w ((w.alloc (.cells #[.slice none 0 0] 24)).alloc (.cells #[.bool false] 4)) := below_alloc (below_alloc (Below.refl _ _) _) _
  have hA := Lib.hid (areForTables_any B ((d + 1 : Nat) : Int) (P : Int) v xs _ (h.below hb0 hB) (Nat.le_trans hB hb0.size))
  rw [hq] at hA
  have hFt : firstTab ((d + 1 : Nat) : Int) xs (P : Int) = (keptTo P d xs (P ^ d)).head? := by unfold firstTab; rw [hq, if_pos rfl, hka]
  have hPn : Hid (keptTo P d xs (P ^ d) = [] → ∀ w', Below w.heap.size w w' → FirstPost ((d + 1 : Nat) : Int) xs (P : Int) w (.returned (.tuple #[.slice none 0 0, .bool false])) w') := Lib.hid fun hk w' hb => first_none (by rw [hFt, hk]; rfl) hb
  have hPy : Hid (∀ (k : Nat) (v' : Value) (A : Nat) w', [k] <+: keptTo P d xs (P ^ d) → w.heap.size ≤ A → w'.ownsRow A 2 1 v' (d + 1) ((tabL P d k).map (Value.int .i64)) → Below w.heap.size w w' → FirstPost ((d + 1 : Nat) : Int) xs (P : Int) w (.returned (.tuple #[v', .bool true])) w') := Lib.hid fun k v' A w' hk hA ho hb => by
    obtain ⟨t, ht⟩ := hk
    have hs : firstTab ((d + 1 : Nat) : Int) xs (P : Int) = some k := by rw [hFt, ← ht]; rfl
    unfold FirstPost; rw [hs]
    have ht2 : tabOf ((d + 1 : Nat) : Int) (P : Int) (some k) = tabL P d k := by unfold tabOf; rw [Int.toNat_natCast, Int.toNat_natCast, show d + 1 - 1 = d by omega]
    rw [ht2]
    exact list_yes rfl hA (tabL_length _ _ _) ho (by omega) hb
  have hLr := Lib.hid h
  have x0 := (Boxed.new w 24 (.slice none 0 0)).alloc (.cells #[.bool false] 4)
  have x1 := Boxed.new (w.alloc (.cells #[.slice none 0 0] 24)) 4 (.bool false)
  rw [World.size_alloc] at x1
  obtain ⟨a, cap, rfl, _⟩ := h
  have hKt := Lib.hid (fun w' => keptTables_any ((d + 1 : Nat) : Int) (P : Int) a xs.length cap w')
  generalize FirstPost ((d + 1 : Nat) : Int) xs (P : Int) w = Q at *
  have hd1 : ((d + 1 : Nat) : Int) = (d : Int) + 1 := by omega
  clear hq hka hFt
  rw [hd1] at hA hKt ⊢
  have hX := Lib.hid (And.intro x0 x1)
  have hB0 := Lib.hid hb0
  clear x0 x1 hb0
  refine (callsIn_wide (n := 5)).1 ?_
  have hf1 : 1 ≤ 5 := by omega
  have hf4 : 1 ≤ 5 - 1 := by omega
  refine callsIn_of_wp_marks Try.func9 rfl trivial ?_ rfl
  simp only [Try.ntmps9, List.size_toArray, List.length_cons, List.length_nil, Nat.reduceAdd, Nat.reduceSub, Array.replicate_succ, Array.replicate_zero, List.push_toArray, List.append_toArray, List.nil_append, List.cons_append]
  gi_wp2_with (first | (refine ⟨trivial, ?_⟩; gi_at_call 22; (with_reducible refine (callsIn_wide.2 hA.out).mono ?_); rintro e' w1 ⟨rfl, hb1⟩; have hB1 := Lib.hid hb1; clear hb1) | (refine ⟨trivial, ?_⟩; gi_at_call 23; (with_reducible refine (callsIn_wide.2 (hKt.out _)).mono ?_); rintro e' w' ⟨rfl, rfl⟩))
  have q1 := (((Boxed.new w1 2 (.int .i64 ((d : Int) + 1))).alloc (.cells #[.slice a xs.length cap] 27)).alloc (.cells #[.int .i64 (P : Int)] 2)).cell
  have q2 := ((Boxed.new (w1.alloc (.cells #[.int .i64 ((d : Int) + 1)] 2)) 27 (.slice a xs.length cap)).alloc (.cells #[.int .i64 (P : Int)] 2)).cell
  have q3 := (Boxed.new ((w1.alloc (.cells #[.int .i64 ((d : Int) + 1)] 2)).alloc (.cells #[.slice a xs.length cap] 27)) 2 (.int .i64 (P : Int))).cell
  rw [World.size_alloc] at q2
  rw [World.size_alloc, World.size_alloc] at q3
  have hBq : Below w1.heap.size w1 (((w1.alloc (.cells #[.int .i64 ((d : Int) + 1)] 2)).alloc (.cells #[.slice a xs.length cap] 27)).alloc (.cells #[.int .i64 (P : Int)] 2)) := below_alloc (below_alloc (below_alloc (Below.refl _ _) _) _) _
  have y0 := boxed_below hX.out.1 hB1.out hX.out.1.lt
  have y1 := boxed_below hX.out.2 hB1.out hX.out.2.lt
  have z0 := boxed_below y0 hBq y0.lt
  have z1 := boxed_below y1 hBq y1.lt
  have hS0 : w.heap.size + 1 < w1.heap.size := y1.lt
  have hBel : Below w.heap.size w (((w1.alloc (.cells #[.int .i64 ((d : Int) + 1)] 2)).alloc (.cells #[.slice a xs.length cap] 27)).alloc (.cells #[.int .i64 (P : Int)] 2)) := (hB0.out.trans (hB1.out.mono hB0.out.size)).trans (hBq.mono (by omega))
  have hSz : w1.heap.size + 3 = (((w1.alloc (.cells #[.int .i64 ((d : Int) + 1)] 2)).alloc (.cells #[.slice a xs.length cap] 27)).alloc (.cells #[.int .i64 (P : Int)] 2)).heap.size := by simp
  generalize (((w1.alloc _).alloc _).alloc _) = W0 at *
  clear y0 y1 hBq
  generalize w1.heap.size = S at *
  rw [← hd1] at q1
  refine wpIn_rangeFunc_lent rfl hf1 (gf := 35) (lb := #[.pointer (some ⟨S, 0, none⟩), .pointer (some ⟨S + 2, 0, none⟩), .pointer (some ⟨S + 1, 0, none⟩)]) rfl trivial (enters_of Try.func35 (by kernel_rfl) rfl)
    (kept_stops (5 - 1) S (S + 2) (S + 1) w.heap.size S P d _ xs h1 h2 hd hN (by omega) hok W0 q1 q3 q2 ((hLr.out.below hBel hB).mono hB) (by omega) (by omega) (by omega) (by omega)) KeptC.t (KeptC.b (by omega)) (fun x => TabLt.own _ x) (Below.refl _ _) (fun _ => rfl)
    (fun (pre : List TabV) (W : World) => pre = [] ∧ (Boxed W w.heap.size 24 (.slice none 0 0) ∧ Boxed W (w.heap.size + 1) 4 (.bool false)) ∧ Below w.heap.size w W ∧ W0.heap.size ≤ W.heap.size)
    (fun (c : Code) (pre : List TabV) (W : World) => c = .ret ∧ (∃ (x : TabV) (g c : Nat), pre = [x] ∧ W0.heap.size + 3 ≤ g ∧ Boxed W w.heap.size 24 (.slice (some ⟨g, 0, none⟩) (d + 1) c) ∧ W.ownsRow (W0.heap.size + 3) 2 1 (.slice (some ⟨g, 0, none⟩) (d + 1) c) (d + 1) ((tabL P d x.2).map (Value.int .i64)) ∧ Boxed W (w.heap.size + 1) 4 (.bool true)) ∧ Below w.heap.size w W ∧ W0.heap.size ≤ W.heap.size)
    (ownLent_of_below (fun s W h => h.2.2.2) fun s W W' h hb => ⟨h.1, ⟨boxed_below h.2.1.1 hb (by omega), boxed_below h.2.1.2 hb (by omega)⟩, h.2.2.1.trans (hb.mono (by omega)), Nat.le_trans h.2.2.2 hb.size⟩)
    (fun c s X Y row h hg hr => by
      obtain ⟨hc, ⟨x, g, cc, hpre, hgg, b0, ho, b1⟩, hbw, hsw⟩ := h
      have hbl : Below W0.heap.size X Y := (Below.refl _ X).grown hg hsw fun k e => by rcases hr k e with h | h <;> omega
      refine ⟨hc, ⟨x, g, cc, hpre, hgg, boxed_below b0 hbl (by omega), ho.kept hg (.inr fun e => ?_), boxed_below b1 hbl (by omega)⟩, hbw.trans (hbl.mono (by omega)), Nat.le_trans hsw hbl.size⟩
      rcases hr g e.symm with h | ⟨_, o, hoo, hcc⟩
      · omega
      · rcases ho.2 with ⟨e1, _⟩ | ⟨g', _, _, e1, _, h3, _⟩
        · cases e1
        · injection e1 with e1
          injection e1 with e1
          injection e1 with e1
          rw [e1] at hoo
          rw [h3] at hoo
          injection hoo with hoo
          rw [← hoo] at hcc; cases hcc)
    ⟨rfl, ⟨z0, z1⟩, hBel, Nat.le_refl _⟩
    (fun x => { tmps := #[.int .i64 ((d : Int) + 1), .slice a xs.length cap, .int .i64 (P : Int), undef, undef, undef, .pointer (some ⟨w.heap.size, 0, none⟩), .pointer (some ⟨w.heap.size + 1, 0, none⟩), .slice (some ⟨x.1, 0, none⟩) (d + 1) (d + 1), .int .i64 ((d : Int) + 1), .slice a xs.length cap, .int .i64 (P : Int), .bool true, .bool false, .int .i64 ((d : Int) + 1), .slice a xs.length cap, .int .i64 (P : Int), .func (.func 35) #[] #[.pointer (some ⟨S, 0, none⟩), .pointer (some ⟨S + 2, 0, none⟩), .pointer (some ⟨S + 1, 0, none⟩)], .slice (some ⟨x.1, 0, none⟩) (d + 1) (d + 1), undef, undef], defers := [] }) ?assign ?body ?done ?stop
  case assign =>
    intro l x W K hK
    simp only [tabVal]
    gi_wp2
    first | exact hK | simpa [tabVal] using hK
  case body =>
    rintro l pre x W ⟨rfl, ⟨b0, b1⟩, hbw, hsw⟩ hx hsz hlt
    have hxW : x.1 < W.heap.size := (hx.2.lt _ rfl).2
    have hCl := Lib.hid (cloneG_any x.1 0 (d + 1) (d + 1) (tabL P d x.2) W hxW (tabL_length _ _ _) (by omega) (by omega) (fun k y hy => by
      have hk : k < d + 1 := by have := (List.getElem?_eq_some_iff.1 hy).1; rw [tabL_length] at this; exact this
      rw [Nat.zero_add, hx.2.cellAt k (by omega), List.getElem?_map, hy]; rfl))
    have hBx := Lib.hid (And.intro b0 (And.intro b1 hbw))
    have c0 := b0.cell
    have c1 := b1.cell
    clear b0 b1 hbw
    gi_wp2_with (refine ⟨trivial, ?_⟩; gi_at_call 24; (with_reducible refine (CallsIn.inRound l (callsIn_wide.2 hCl.out)).mono ?_); rintro e' w5 ⟨g5, c5, rfl, hg5, ho5, hb5⟩; have hG5 := Lib.hid hg5; have hO5 := Lib.hid ho5; have hB5 := Lib.hid hb5; have k0 := boxed_below hBx.out.1 hb5 (show w.heap.size < W.heap.size by omega); have k1 := boxed_below hBx.out.2.1 hb5 (show w.heap.size + 1 < W.heap.size by omega); have d0 := k0.cell; have d1 := k1.cell; have d2 := k0.frozen; have d3 := k1.frozen; have hKx := Lib.hid (And.intro k0 k1); clear hg5 ho5 hb5 k0 k1)
    obtain ⟨b0, b1, hbw⟩ := hBx.out
    obtain ⟨k0, k1⟩ := hKx.out
    obtain ⟨n0, n1⟩ := boxed_two k0 k1 (by omega) (.slice (some ⟨g5, 0, none⟩) (d + 1) c5) (.bool true)
    have hwj : Within w.heap.size W0.heap.size W ((w5.setCell ⟨w.heap.size, 0, none⟩ (.slice (some ⟨g5, 0, none⟩) (d + 1) c5)).setCell ⟨w.heap.size + 1, 0, none⟩ (.bool true)) :=
      ((Within.of_below (n₀ := w.heap.size) (B := W0.heap.size) (show w.heap.size ≤ W.heap.size by omega) hB5.out).set (p := ⟨w.heap.size, 0, none⟩) (Nat.le_refl _) (show w.heap.size < W0.heap.size by omega) _).set (p := ⟨w.heap.size + 1, 0, none⟩) (Nat.le_succ _) (show w.heap.size + 1 < W0.heap.size by omega) _
    have hg5 := hG5.out
    have o1 := hO5.out.kept (grownBy_setCell' w5 w.heap.size (.slice (some ⟨g5, 0, none⟩) (d + 1) c5)) (.inr (by simp [Value.ownBlock]; omega))
    have o2 := o1.kept (grownBy_setCell' _ (w.heap.size + 1) (.bool true)) (.inr (by simp [Value.ownBlock]; omega))
    exact ⟨hwj.from, rfl, ⟨x, g5, c5, rfl, by omega, n0, ownsRow_mono o2 (by omega), n1⟩, hbw.trans hwj.1, Nat.le_trans hsw hwj.1.size⟩
  case done =>
    rintro D ys W hD hys ⟨hn, ⟨b0, b1⟩, hbw, hsw⟩ hK
    have hys2 : ys.map (·.2) = keptTo P d xs (P ^ d) := hys
    rw [hn] at hys2
    have hE := Lib.hid (hPn.out hys2.symm)
    have c0 := b0.cell
    have c1 := b1.cell
    have f0 := b0.frozen
    have f1 := b1.frozen
    clear hys2 hys hn
    gi_wp2
    have hK2 := others_two hK rfl ⟨w.heap.size, 0, none⟩ ⟨w.heap.size + 1, 0, none⟩ (.slice none 0 0) (.bool false)
    obtain ⟨n0, n1⟩ := boxed_two b0 b1 (by omega) (.slice none 0 0) (.bool false)
    have e0 := cell_put (.deferred none) n0.cell hK2 rfl
    have e1 := cell_put (.deferred none) n1.cell hK2 rfl
    refine ⟨by simp, .inl ⟨_, _, rfl, run_takeDeferred hK2, ?_⟩⟩
    refine ⟨.tuple #[.slice none 0 0, .bool false], by simp [results, Try.f9, go_sem, e0, e1], hE.out _ ?_⟩
    exact ((hbw.setCell (p := ⟨w.heap.size, 0, none⟩) (Nat.le_refl _) _).setCell (p := ⟨w.heap.size + 1, 0, none⟩) (Nat.le_succ _) _).trans (belowK_b (w := W0) (by omega) _ D _ _ hD hK2 rfl rfl)
  case stop =>
    rintro D c pre W hD hpre ⟨rfl, ⟨x, g, cc, rfl, hgg, b0, ho, b1⟩, hbw, hsw⟩ hK
    have c0 := b0.cell
    have c1 := b1.cell
    have hpr : [x.2] <+: keptTo P d xs (P ^ d) := hpre
    gi_wp2
    have e0 := cell_put (.deferred none) c0 hK rfl
    have e1 := cell_put (.deferred none) c1 hK rfl
    refine ⟨by simp, .inl ⟨_, _, rfl, run_takeDeferred hK, ?_⟩⟩
    refine ⟨.tuple #[.slice (some ⟨g, 0, none⟩) (d + 1) cc, .bool true], by simp [results, Try.f9, go_sem, e0, e1], hPy.out _ _ _ _ hpr (by omega) (ownsRow_putObj ho _ hK rfl) (hbw.trans (belowK_b (w := W0) (by omega) _ D _ _ hD hK rfl rfl))⟩
theorem implFirst_any (B : Nat) (e p : Int) (v : Value) (xs : List RuleD) (w : World) (h : LstRule B w v xs) (hB : B ≤ w.heap.size) : Calls Try.prog 9 #[.int .i64 e, v, .int .i64 p] w (FirstPost e xs p w) := by
  cases hq : okTab e xs p
  · exact implFirst_no B e p v xs w h hB hq
  · obtain ⟨d, P, rfl, rfl, hd, h1, h2, hN, hka, _, _, hok⟩ := tab_facts hq
    exact implFirst_run B P d v xs w h hB hq h1 h2 hd hN hka hok
end Go.Proofs.Ytncbjdkidkklgaa
