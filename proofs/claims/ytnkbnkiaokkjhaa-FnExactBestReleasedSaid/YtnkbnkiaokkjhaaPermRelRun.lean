/- The best order of jobs with releases: the program's walk. No condition. -/
import Derived.Test.YtnkbnkiaokkjhaaPermRel
import Derived.Test.YtnkbnkiaokkjhaaInRound
namespace Go.Proofs.Ytnkbnkiaokkjhaa
open Go.RowKit Go.Lst Go.Plan Go.Shelf

attribute [local go_sem] Oper.semAt_some

theorem costTo_less {xs : List JobD} {o : List Int} {kind : Int} (hj : areJobs xs = true) (ho : isOrd o xs.length = true) : ∀ k, k ≤ xs.length → costTo kind xs (endsOf xs o) k ≤ 2500000000 * (k : Int)
  | 0, _ => by show costNone kind ≤ _; unfold costNone; split <;> omega
  | k + 1, h => by
    have ih := costTo_less hj ho (kind := kind) k (by omega)
    obtain ⟨x, e, _, _, hok, hst⟩ := cost_at hj ho kind (k := k) (by omega)
    have hb := (costPart_bound (kind := kind) hok).2
    rw [hst]
    unfold costBoth
    split <;> omega
theorem relCost_less {xs : List JobD} {kind : Int} (hj : areJobs xs = true) (k : Nat) : relCost xs kind k < 9223372036854775807 := by
  have hn := areJobs_of hj
  have := costTo_less (kind := kind) hj (rowAt_ord hn.1 k) xs.length (Nat.le_refl _)
  unfold relCost
  omega
def RelBox (cs : Nat → Int) (n M A S1 S2 : Nat) (W : World) : Option PermV → Prop
  | none => Boxed W S1 24 (.slice none 0 0) ∧ Boxed W S2 2 (.int .i64 9223372036854775807)
  | some x => ∃ g c, M ≤ g ∧ A ≤ g ∧ Boxed W S1 24 (.slice (some ⟨g, 0, none⟩) n c) ∧ W.ownsRow A 2 1 (.slice (some ⟨g, 0, none⟩) n c) n ((rowAt n x.2.2).map (Value.int .i64)) ∧ Boxed W S2 2 (.int .i64 (cs x.2.2))
theorem RelBox.lent {cs : Nat → Int} {n M A B S1 S2 : Nat} {X Y : World} {o : Option PermV} {row : Option Nat} (h : RelBox cs n M A S1 S2 X o) (h1 : S1 < B) (h2 : S2 < B) (hb : Below B X Y) (hg : X.grownBy Y row) (hr : ∀ r, row = some r → (B + 2 ≤ r ∧ r < M) ∨ (B ≤ r ∧ ∃ o : Obj, X.heap[r]? = some o ∧ o.isCells = false)) : RelBox cs n M A S1 S2 Y o := by
  cases o with
  | none => exact ⟨boxed_below h.1 hb h1, boxed_below h.2 hb h2⟩
  | some x =>
    obtain ⟨g, c, hM, hA, b0, ho, b1⟩ := h
    exact ⟨g, c, hM, hA, boxed_below b0 hb h1, row_lentM ho hg hr hM, boxed_below b1 hb h2⟩
theorem RelBox.put {cs : Nat → Int} {n S1 S2 M A A' g c : Nat} {W : World} {x : PermV} {v1 v2 : Value} (b1 : Boxed W S1 24 v1) (b2 : Boxed W S2 2 v2) (h12 : S1 < S2) (h3 : S2 < A) (hM : M ≤ g) (hA : A ≤ g)
    (ho : W.ownsRow A' 2 1 (.slice (some ⟨g, 0, none⟩) n c) n ((rowAt n x.2.2).map (Value.int .i64))) (hA2 : A ≤ A') :
    RelBox cs n M A S1 S2 ((W.setCell ⟨S1, 0, none⟩ (.slice (some ⟨g, 0, none⟩) n c)).setCell ⟨S2, 0, none⟩ (.int .i64 (cs x.2.2))) (some x) := by
  refine ⟨g, c, hM, hA, boxed_apart (b1.set _) (p := ⟨S2, 0, none⟩) (by show S1 ≠ S2; omega) _, ?_, (boxed_apart b2 (p := ⟨S1, 0, none⟩) (by show S2 ≠ S1; omega) _).set _⟩
  have o1 := ho.kept (grownBy_setCell' W S1 (.slice (some ⟨g, 0, none⟩) n c)) (.inr (by simp [Value.ownBlock]; omega))
  exact ownsRow_mono (o1.kept (grownBy_setCell' _ S2 (.int .i64 (cs x.2.2))) (.inr (by simp [Value.ownBlock]; omega))) hA2
set_option maxHeartbeats 8000000 in
set_option maxRecDepth 100000 in
theorem implRel_yes (B : Nat) (v : Value) (xs : List JobD) (kind : Int) (w : World) (h : LstJob B w v xs) (hB : B ≤ w.heap.size) (hq : relOk xs kind = true) : Calls Try.prog 8 #[v, .int .i64 kind] w (PermPost xs.length (relCost xs kind) w) := by
  obtain ⟨hj, h6, hk⟩ := relOk_of hq
  have hn1 := (areJobs_of hj).1
  have hPo : Hid (∀ T b g c w', TotalF xs.length T → leastG (relCost xs kind) (List.range T) = some b → w'.ownsRow w.heap.size 2 1 (.slice (some ⟨g, 0, none⟩) xs.length c) xs.length ((rowAt xs.length b).map (Value.int .i64)) → Below w.heap.size w w' → PermPost xs.length (relCost xs kind) w (.returned (.tuple #[.slice (some ⟨g, 0, none⟩) xs.length c, .int .i64 (relCost xs kind b), .bool true])) w') := Lib.hid fun T b g c w' h1 h2 h3 h4 => ⟨T, b, g, c, h1, h2, rfl, h3, h4⟩
  generalize PermPost xs.length (relCost xs kind) w = Q at *
  have hKo := Lib.hid (fun w' => costKindOf_yes kind hk w')
  have hLess := Lib.hid (fun k => relCost_less (kind := kind) hj k)
  have hCs : Hid (∀ (k A c g : Nat) (W : World), Below w.heap.size w W → W.ownsRow A 2 1 (.slice (some ⟨g, 0, none⟩) xs.length c) xs.length ((rowAt xs.length k).map (Value.int .i64)) → Calls Try.prog 26 #[aggKind kind, v, .slice (some ⟨g, 0, none⟩) xs.length c] W fun e w' => e = .returned (.int .i64 (relCost xs kind k)) ∧ Below W.heap.size W w') := Lib.hid fun k A c g W hb ho => by
    have hL : LstI W.heap.size W (.slice (some ⟨g, 0, none⟩) xs.length c) (rowAt xs.length k) := by
      have h2 : Lst.Own A W.heap.size W (.slice (some ⟨g, 0, none⟩) xs.length c) 2 1 (rowAt xs.length k).length ((rowAt xs.length k).map (Value.int .i64)) := by rw [rowAt_length]; exact Lst.Own.new ho (by unfold maxLen; omega)
      exact h2.lstI (Nat.le_refl _)
    exact ofOrder_any W.heap.size v _ xs (rowAt xs.length k) kind W ((h.below hb hB).mono (Nat.le_trans hB hb.size)) hL hj (rowAt_ord hn1 k) (Nat.le_refl _) hk
  obtain ⟨a, cap, rfl, hl, _⟩ := h.at_
  have hb0 : Below w.heap.size w (w.alloc (.cells #[.slice a xs.length cap] 27)) := below_alloc (Below.refl _ _) _
  have hA := Lib.hid (fun w' (hb : Below w.heap.size w w') => areJobs_any B _ xs w' (h.below hb hB) (Nat.le_trans hB hb.size))
  rw [hj] at hA
  have h6i : ¬ (6 : Int) < (xs.length : Int) := by omega
  have hOr := Lib.hid (fun w' => ordersOf_any xs.length w' hn1 (by omega))
  have hLs := Lib.hid (fun (pre : List PermV) x => leastG_snoc (fun x : PermV => relCost xs kind x.2.2) pre x)
  have hLm := Lib.hid (fun (ys : List PermV) => leastG_map (α := PermV) (fun x => x.2.2) (fun x => relCost xs kind x.2.2) (relCost xs kind) (fun _ => rfl) ys)
  have y0 := Boxed.new w 27 (.slice a xs.length cap)
  have hAg : aggKind kind = .agg #[.func (.func (kindJob kind)) #[] #[], .func (.func (kindJoin kind)) #[] #[], .int .i64 (costNone kind)] := rfl
  rw [hAg] at hKo hCs
  clear h hq hj hk hAg
  generalize relCost xs kind = cs at *
  generalize kindJob kind = kj at *
  generalize kindJoin kind = kn at *
  generalize costNone kind = z at *
  generalize xs.length = n at *
  unfold maxLen at hl
  have c0 := y0.cell
  have hY0 := Lib.hid y0
  have hB0 := Lib.hid hb0
  clear hb0 y0
  refine (callsIn_wide (n := 5)).1 ?_
  have hf1 : 1 ≤ 5 := by omega
  have hf4 : 1 ≤ 5 - 1 := by omega
  refine callsIn_of_wp_marks Try.func8 rfl trivial ?_ rfl
  simp only [Try.ntmps8, List.size_toArray, List.length_cons, List.length_nil, Nat.reduceAdd, Nat.reduceSub, Array.replicate_succ, Array.replicate_zero, List.push_toArray, List.append_toArray, List.nil_append, List.cons_append]
  gi_wp2_with (refine ⟨trivial, ?_⟩; gi_at_call 23; (with_reducible refine (callsIn_wide.2 (hKo.out _)).mono ?_); rintro e' w1 ⟨rfl, hb1⟩; have hB1 := Lib.hid (hB0.out.trans (hb1.mono hB0.out.size)); have hY1 := Lib.hid (boxed_below hY0.out hb1 hY0.out.lt); have hAl := Lib.hid (below_alloc (Below.refl w1.heap.size w1) (.cells #[.func (.func kj) #[] #[], .func (.func kn) #[] #[], .int .i64 z] 49)); have c1 := (boxed_below hY1.out hAl.out hY1.out.lt).cell; clear hb1)
  have hBa := Lib.hid (hB1.out.trans (hAl.out.mono hB1.out.size))
  have hKw := Lib.hid (Whole.made w1 49 #[.func (.func kj) #[] #[], .func (.func kn) #[] #[], .int .i64 z] rfl)
  have hs1 := hB1.out.size
  gi_wp2_with (refine ⟨trivial, ?_⟩; gi_at_call 24; (with_reducible refine (callsIn_wide.2 (hA.out _ hBa.out)).mono ?_); rintro e' w3 ⟨rfl, hb3⟩; have hB3 := Lib.hid hb3; have hY3 := Lib.hid (boxed_below (boxed_below hY1.out hAl.out hY1.out.lt) hb3 (by rw [World.size_alloc]; have := hY1.out.lt; omega)); have hK3 := Lib.hid (hKw.out.below hb3 (by rw [World.size_alloc]; omega)); have c2 := hY3.out.cell; have c3 := ((hY3.out.alloc (.cells #[.slice none 0 0] 24)).alloc (.cells #[.int .i64 9223372036854775807] 2)).cell; clear hb3)
  have hBw3 := Lib.hid (hBa.out.trans (hB3.out.mono hBa.out.size))
  have x1 := (Boxed.new w3 24 (.slice none 0 0)).alloc (.cells #[.int .i64 9223372036854775807] 2)
  have x2 := Boxed.new (w3.alloc (.cells #[.slice none 0 0] 24)) 2 (.int .i64 9223372036854775807)
  rw [World.size_alloc] at x2
  have hBel := below_alloc (below_alloc (Below.refl w3.heap.size w3) (.cells #[.slice none 0 0] 24)) (.cells #[.int .i64 9223372036854775807] 2)
  have hsz : w3.heap.size + 2 = ((w3.alloc (.cells #[.slice none 0 0] 24)).alloc (.cells #[.int .i64 9223372036854775807] 2)).heap.size := by simp
  have hK5 := hK3.out.below hBel hK3.out.size
  have hY5 := boxed_below hY3.out hBel hY3.out.lt
  generalize ((w3.alloc (.cells #[.slice none 0 0] 24)).alloc (.cells #[.int .i64 9223372036854775807] 2)) = w5 at *
  have hBw5 := Lib.hid (hBw3.out.trans (hBel.mono hBw3.out.size))
  have hXx := Lib.hid (And.intro x1 (And.intro x2 (And.intro hK5 hY5)))
  have hS0 : w.heap.size < w3.heap.size := hY3.out.lt
  have hKS : w1.heap.size < w3.heap.size := hK3.out.size
  clear x1 x2 hBel hK5 hY5
  generalize hS1 : w3.heap.size = S1 at *
  generalize hS2 : S1 + 1 = S2 at *
  gi_wp2_with (refine ⟨trivial, ?_⟩; gi_at_call 25; (with_reducible refine (callsIn_wide.2 (hOr.out _)).mono ?_); rintro e' W0 ⟨b, gF, rfl, hbc, hFr, hb5⟩; have hB5 := Lib.hid hb5; have hFr5 := Lib.hid (And.intro hbc hFr); clear hbc hFr hb5)
  obtain ⟨x1, x2, hK5, hY5⟩ := hXx.out
  have z1 := boxed_below x1 hB5.out x1.lt
  have z2 := boxed_below x2 hB5.out x2.lt
  have zK := hK5.below hB5.out hK5.size
  have zY := boxed_below hY5 hB5.out hY5.lt
  have hBel : Below w.heap.size w W0 := hBw5.out.trans (hB5.out.mono hBw5.out.size)
  have hS0W : S2 < W0.heap.size := z2.lt
  clear x1 x2 hK5 hY5 c0 c1 c2 c3 hXx hA hOr hKo hY0 hY1 hY3 hK3
  refine wpIn_rangeFunc_lentM rfl hf1 (gf := 57) (lb := #[.pointer (some ⟨b, 0, none⟩)]) rfl trivial (enters_of Try.func57 (by kernel_rfl) rfl)
    (lists_stops (5 - 1) b w.heap.size W0.heap.size n _ gF n hn1 (by omega) (by omega) W0 hFr5.out.1 hFr5.out.2 (Nat.le_refl _) (by omega)) KeptC.t (KeptC.b (by omega)) (fun x => PermLt.own _ x) (Below.refl _ _) (fun _ => rfl)
    (fun (M : Nat) (pre : List PermV) (W : World) => RelBox cs n M W0.heap.size S1 S2 W (leastG (fun x : PermV => cs x.2.2) pre) ∧ Whole W w1.heap.size 49 #[.func (.func kj) #[] #[], .func (.func kn) #[] #[], .int .i64 z] ∧ Boxed W w.heap.size 27 (.slice a n cap) ∧ Below w.heap.size w W ∧ W0.heap.size ≤ W.heap.size)
    (fun (M : Nat) (c : Code) (pre : List PermV) (W : World) => False)
    (fun M s X Y row h hg hr => by
      obtain ⟨hl, hk, hx, hbw, hsw⟩ := h
      have hbl : Below W0.heap.size X Y := (Below.refl _ X).grown hg hsw fun k e => by rcases hr k e with h | h <;> omega
      exact ⟨hl.lent (by omega) (by omega) hbl hg hr, hk.below hbl (by omega), boxed_below hx hbl (by omega), hbw.trans (hbl.mono (by omega)), Nat.le_trans hsw hbl.size⟩)
    (fun M z s X Y row h _ _ => h)
    (fun M => ⟨⟨z1, z2⟩, zK, zY, hBel, Nat.le_refl _⟩)
    (fun x => { tmps := #[.slice a n cap, .int .i64 kind, .pointer (some ⟨w.heap.size, 0, none⟩), undef, .slice none 0 0, .int .i64 0, .bool false, .pointer (some ⟨w1.heap.size, 0, none⟩), .bool true, .pointer (some ⟨S1, 0, none⟩), .pointer (some ⟨S2, 0, none⟩), .slice (some ⟨x.1, 0, none⟩) n x.2.1, undef, .tuple #[.agg #[.func (.func kj) #[] #[], .func (.func kn) #[] #[], .int .i64 z], .bool true], .int .i64 kind, .tuple #[.agg #[.func (.func kj) #[] #[], .func (.func kn) #[] #[], .int .i64 z], .bool true], .agg #[.func (.func kj) #[] #[], .func (.func kn) #[] #[], .int .i64 z], .bool true, .bool true, .bool false, .bool false, .slice a n cap, .bool true, .bool false, .bool false, .bool false, .slice a n cap, .int .i64 n, .bool (decide ((6 : Int) < (n : Int))), .bool (decide ((6 : Int) < (n : Int))), .slice a n cap, .int .i64 n, .func (.func 57) #[] #[.pointer (some ⟨b, 0, none⟩)], .slice (some ⟨x.1, 0, none⟩) n x.2.1, undef, undef, undef, undef, undef, undef, undef, undef, undef, undef, undef, undef], defers := [] }) ?assign ?body ?done ?stop
  case assign =>
    intro l x W K hK
    gi_wp2
    first | exact hK | simpa using hK
  case body =>
    rintro M l pre x W ⟨hl, hKs, hx, hbw, hsw⟩ hLx hM hszc hlt
    have hCx := Lib.hid (hCs.out x.2.2 _ x.2.1 x.1 W hbw hLx)
    have hxl := (ownsRow_lt hLx).2
    have hLxh := Lib.hid hLx
    have cX := hx.cell
    have cK0 := hKs.at_ (i := 0) (u := .func (.func kj) #[] #[]) rfl
    have cK1 := hKs.at_ (i := 1) (u := .func (.func kn) #[] #[]) rfl
    have cK2 := hKs.at_ (i := 2) (u := .int .i64 z) rfl
    have hXb := Lib.hid hx
    have hKw := Lib.hid hKs
    have hBw := Lib.hid hbw
    have l1 : S1 < W.heap.size := by omega
    have l2 : S2 < W.heap.size := by omega
    have hLs2 := Lib.hid (hLess.out x.2.2)
    have hClF : Hid (∀ w', Below W.heap.size W w' → _) := Lib.hid fun w' hb => (cloneG_any x.1 0 x.2.1 n (rowAt n x.2.2) w' (Nat.lt_of_lt_of_le hxl hb.size) (rowAt_length n _) hn1 (by omega) (fun k y hy => by
        have hk : k < n := by have := (List.getElem?_eq_some_iff.1 hy).1; rw [rowAt_length] at this; exact this
        rw [Nat.zero_add, hb.cell (p := ⟨x.1, k, none⟩) hxl, hLxh.out.cellAt k (by omega), List.getElem?_map, hy]; rfl))
    clear hx hbw hLx hKs hLess hCs
    cases hlp : leastG (fun x : PermV => cs x.2.2) pre with
    | none =>
      rw [hlp] at hl
      have hBx := Lib.hid hl
      have hlpH := Lib.hid hlp
      have hlt9 := hLs2.out
      clear hl hlp
      gi_wp2_with (first | (refine ⟨trivial, ?_⟩; gi_at_call 26; (with_reducible refine (CallsIn.inRound l (callsIn_wide.2 hCx.out)).mono ?_); rintro e' w6 ⟨rfl, hb6⟩; have hB6 := Lib.hid hb6; have k1 := boxed_below hBx.out.1 hb6 l1; have k2 := boxed_below hBx.out.2 hb6 l2; have d2 := k2.cell; have hKx := Lib.hid (And.intro k1 k2); clear hb6 k1 k2) | (refine ⟨trivial, ?_⟩; gi_at_call 27; (with_reducible refine (CallsIn.inRound l (callsIn_wide.2 (hClF.out w6 hB6.out))).mono ?_); rintro e' w7 ⟨g6, c6, rfl, hg6, ho6, hb7⟩; have hG6 := Lib.hid hg6; have hO6 := Lib.hid ho6; have hB7 := Lib.hid hb7; have m1 := boxed_below hKx.out.1 hb7 hKx.out.1.lt; have m2 := boxed_below hKx.out.2 hb7 hKx.out.2.lt; have e1 := m1.cell; have e2 := m2.cell; have q1 := m1.frozen; have q2 := m2.frozen; have hMx := Lib.hid (And.intro m1 m2); clear hg6 ho6 hb7 m1 m2))
      obtain ⟨m1, m2⟩ := hMx.out
      have hg6 := hG6.out
      have hbz : Below W.heap.size W w7 := hB6.out.trans (hB7.out.mono hB6.out.size)
      have hs6 := hB6.out.size
      have hwj : Within w.heap.size W0.heap.size W ((w7.setCell ⟨S1, 0, none⟩ (.slice (some ⟨g6, 0, none⟩) n c6)).setCell ⟨S2, 0, none⟩ (.int .i64 (cs x.2.2))) :=
        ((Within.of_below (n₀ := w.heap.size) (B := W0.heap.size) (show w.heap.size ≤ W.heap.size by omega) hbz).set (p := ⟨S1, 0, none⟩) (show w.heap.size ≤ S1 by omega) (show S1 < W0.heap.size by omega) _).set (p := ⟨S2, 0, none⟩) (show w.heap.size ≤ S2 by omega) (show S2 < W0.heap.size by omega) _
      refine ⟨hwj.from, hwj.keptC, ?_, ?_, ?_, hBw.out.trans hwj.1, Nat.le_trans hsw hwj.1.size⟩
      · rw [hLs.out, hlpH.out]
        exact RelBox.put m1 m2 (by omega) (by omega) (by omega) (by omega) hO6.out (by omega)
      · exact ((hKw.out.below hbz (by omega)).apart (p := ⟨S1, 0, none⟩) (by show w1.heap.size ≠ S1; omega) _).apart (p := ⟨S2, 0, none⟩) (by show w1.heap.size ≠ S2; omega) _
      · exact boxed_apart (boxed_apart (boxed_below hXb.out hbz (by omega)) (p := ⟨S1, 0, none⟩) (by show w.heap.size ≠ S1; omega) _) (p := ⟨S2, 0, none⟩) (by show w.heap.size ≠ S2; omega) _
    | some y =>
      rw [hlp] at hl
      obtain ⟨gy, cy, hMy, hgy, b1, hoy, b2⟩ := hl
      have hBx := Lib.hid (And.intro b1 b2)
      have hlpH := Lib.hid hlp
      have hOy := Lib.hid (And.intro hMy (And.intro hgy hoy))
      clear hlp b1 b2 hMy hgy hoy
      by_cases hxy : cs x.2.2 < cs y.2.2
      · have hXy := Lib.hid hxy
        gi_wp2_with (first | (refine ⟨trivial, ?_⟩; gi_at_call 26; (with_reducible refine (CallsIn.inRound l (callsIn_wide.2 hCx.out)).mono ?_); rintro e' w6 ⟨rfl, hb6⟩; have hB6 := Lib.hid hb6; have k1 := boxed_below hBx.out.1 hb6 l1; have k2 := boxed_below hBx.out.2 hb6 l2; have d2 := k2.cell; have hKx := Lib.hid (And.intro k1 k2); clear hb6 k1 k2) | (refine ⟨trivial, ?_⟩; gi_at_call 27; (with_reducible refine (CallsIn.inRound l (callsIn_wide.2 (hClF.out w6 hB6.out))).mono ?_); rintro e' w7 ⟨g6, c6, rfl, hg6, ho6, hb7⟩; have hG6 := Lib.hid hg6; have hO6 := Lib.hid ho6; have hB7 := Lib.hid hb7; have m1 := boxed_below hKx.out.1 hb7 hKx.out.1.lt; have m2 := boxed_below hKx.out.2 hb7 hKx.out.2.lt; have e1 := m1.cell; have e2 := m2.cell; have q1 := m1.frozen; have q2 := m2.frozen; have hMx := Lib.hid (And.intro m1 m2); clear hg6 ho6 hb7 m1 m2))
        obtain ⟨m1, m2⟩ := hMx.out
        have hg6 := hG6.out
        have hbz : Below W.heap.size W w7 := hB6.out.trans (hB7.out.mono hB6.out.size)
        have hs6 := hB6.out.size
        have hwj : Within w.heap.size W0.heap.size W ((w7.setCell ⟨S1, 0, none⟩ (.slice (some ⟨g6, 0, none⟩) n c6)).setCell ⟨S2, 0, none⟩ (.int .i64 (cs x.2.2))) :=
          ((Within.of_below (n₀ := w.heap.size) (B := W0.heap.size) (show w.heap.size ≤ W.heap.size by omega) hbz).set (p := ⟨S1, 0, none⟩) (show w.heap.size ≤ S1 by omega) (show S1 < W0.heap.size by omega) _).set (p := ⟨S2, 0, none⟩) (show w.heap.size ≤ S2 by omega) (show S2 < W0.heap.size by omega) _
        refine ⟨hwj.from, hwj.keptC, ?_, ?_, ?_, hBw.out.trans hwj.1, Nat.le_trans hsw hwj.1.size⟩
        · rw [hLs.out, hlpH.out]; show RelBox cs n M _ S1 S2 _ (some (if cs x.2.2 < cs y.2.2 then x else y)); rw [if_pos hXy.out]
          exact RelBox.put m1 m2 (by omega) (by omega) (by omega) (by omega) hO6.out (by omega)
        · exact ((hKw.out.below hbz (by omega)).apart (p := ⟨S1, 0, none⟩) (by show w1.heap.size ≠ S1; omega) _).apart (p := ⟨S2, 0, none⟩) (by show w1.heap.size ≠ S2; omega) _
        · exact boxed_apart (boxed_apart (boxed_below hXb.out hbz (by omega)) (p := ⟨S1, 0, none⟩) (by show w.heap.size ≠ S1; omega) _) (p := ⟨S2, 0, none⟩) (by show w.heap.size ≠ S2; omega) _
      · have hXy := Lib.hid hxy
        gi_wp2_with (refine ⟨trivial, ?_⟩; gi_at_call 26; (with_reducible refine (CallsIn.inRound l (callsIn_wide.2 hCx.out)).mono ?_); rintro e' w6 ⟨rfl, hb6⟩; have hB6 := Lib.hid hb6; have k1 := boxed_below hBx.out.1 hb6 l1; have k2 := boxed_below hBx.out.2 hb6 l2; have d2 := k2.cell; have hKx := Lib.hid (And.intro k1 k2); clear hb6 k1 k2)
        obtain ⟨k1, k2⟩ := hKx.out
        have hwj : Within w.heap.size W0.heap.size W w6 := Within.of_below (n₀ := w.heap.size) (B := W0.heap.size) (show w.heap.size ≤ W.heap.size by omega) hB6.out
        refine ⟨hwj.from, hwj.keptC, ?_, hKw.out.below hB6.out (by omega), boxed_below hXb.out hB6.out (by omega), hBw.out.trans hwj.1, Nat.le_trans hsw hwj.1.size⟩
        rw [hLs.out, hlpH.out]; show RelBox cs n M _ S1 S2 _ (some (if cs x.2.2 < cs y.2.2 then x else y)); rw [if_neg (by have := hXy.out; omega)]
        exact ⟨gy, cy, hOy.out.1, hOy.out.2.1, k1, ownsRow_below hOy.out.2.2 hB6.out (ownsRow_lt hOy.out.2.2).2, k2⟩
  case done =>
    rintro M D ys W hD ⟨T, hT, hys⟩ ⟨hl, hKs, hx, hbw, hsw⟩ hK
    have hLy := hLm.out ys
    rw [hys] at hLy
    have hKh := Lib.hid hK
    have hBw := Lib.hid hbw
    cases hlp : leastG (fun x : PermV => cs x.2.2) ys with
    | none =>
      exfalso
      rw [hlp] at hLy
      have h9 := (leastG_nil cs (List.range T)).1 hLy.symm
      have h8 := congrArg List.length h9
      rw [List.length_range] at h8
      have h7 := hT.1
      rw [h8] at h7
      cases h7
    | some x =>
      rw [hlp] at hl hLy
      obtain ⟨g, cc, hMg, hgg, b1, ho, b2⟩ := hl
      have c1 := b1.cell
      have c2 := b2.cell
      have hP := Lib.hid (fun w' => hPo.out T x.2.2 g cc w' hT hLy.symm)
      have hO := Lib.hid ho
      clear ho b1 b2 hKs hx hbw hK hlp hLy hT hys
      gi_wp2
      refine wpIn_wide.2 ?_
      go_quiet (fail)
      gi_wp2
      have hK9 : (W.drewN nq).heap[D]? = some (.deferred (some [])) := hKh.out
      have hO9 : (W.drewN nq).ownsRow w.heap.size 2 1 (.slice (some ⟨g, 0, none⟩) n cc) n ((rowAt n x.2.2).map (Value.int .i64)) := ownsRow_mono (show (W.drewN nq).ownsRow W0.heap.size 2 1 (.slice (some ⟨g, 0, none⟩) n cc) n ((rowAt n x.2.2).map (Value.int .i64)) from hO.out) (by omega)
      refine ⟨by simp, .inl ⟨_, _, rfl, run_takeDeferred hK9, ?_⟩⟩
      refine ⟨.tuple #[.slice (some ⟨g, 0, none⟩) n cc, .int .i64 (cs x.2.2), .bool true], by simp [results, Try.f8, go_sem], hP.out _ (ownsRow_putObj hO9 _ hK9 rfl) ?_⟩
      exact (Lst.Below.drewN hBw.out nq).trans (belowK_b (w := W0) (by omega) _ D _ _ hD hK9 rfl rfl)
  case stop =>
    rintro M D c pre W _ _ h _
    exact h.elim
set_option maxHeartbeats 4000000 in
theorem implRel_no (B : Nat) (v : Value) (xs : List JobD) (kind : Int) (w : World) (h : LstJob B w v xs) (hB : B ≤ w.heap.size) (hq : relOk xs kind = false) : Calls Try.prog 8 #[v, .int .i64 kind] w fun e w' => e = .returned (.tuple #[.slice none 0 0, .int .i64 0, .bool false]) ∧ Below w.heap.size w w' := by
  obtain ⟨a, cap, rfl, hl, _⟩ := h.at_
  have hb0 : Below w.heap.size w (w.alloc (.cells #[.slice a xs.length cap] 27)) := below_alloc (Below.refl _ _) _
  have y0 := Boxed.new w 27 (.slice a xs.length cap)
  have c0 := y0.cell
  have hA := Lib.hid (fun w' (hb : Below w.heap.size w w') => areJobs_any B _ xs w' (h.below hb hB) (Nat.le_trans hB hb.size))
  clear h
  cases hk : inB kind 0 4
  · have hKo := Lib.hid (fun w' => costKindOf_no kind hk w')
    generalize xs.length = n at *
    unfold maxLen at hl
    have hB0 := Lib.hid hb0
    clear hq hk hA y0 hb0
    go_enter Try.func8, Try.ntmps8
    go_wp2_with (go_at_call 23; (with_reducible refine (hKo.out _).mono ?_); rintro e' w1 ⟨rfl, hb1⟩; have hB1 := Lib.hid (hB0.out.trans (hb1.mono hB0.out.size)); clear hb1)
    go_ret3
    exact ⟨rfl, below_alloc hB1.out _⟩
  · have hKo := Lib.hid (fun w' => costKindOf_yes kind hk w')
    have hAg : aggKind kind = .agg #[.func (.func (kindJob kind)) #[] #[], .func (.func (kindJoin kind)) #[] #[], .int .i64 (costNone kind)] := rfl
    rw [hAg] at hKo
    have hq2 : areJobs xs = false ∨ ¬ xs.length ≤ 6 := by
      unfold relOk at hq
      rw [hk, Bool.and_true] at hq
      by_cases h6 : xs.length ≤ 6
      · rw [decide_eq_true h6, Bool.and_true] at hq; exact .inl hq
      · exact .inr h6
    generalize kindJob kind = kj at *
    generalize kindJoin kind = kn at *
    generalize costNone kind = z at *
    have hB0 := Lib.hid hb0
    have hY0 := Lib.hid y0
    clear hq hk hAg hb0 y0
    have hJ : Hid (areJobs xs = false ∨ (areJobs xs = true ∧ (6 : Int) < (xs.length : Int))) := Lib.hid (by
      cases hj : areJobs xs
      · exact .inl rfl
      · refine .inr ⟨rfl, ?_⟩
        rcases hq2 with h | h
        · rw [hj] at h; cases h
        · omega)
    clear hq2
    generalize areJobs xs = jq at *
    generalize xs.length = n at *
    unfold maxLen at hl
    go_enter Try.func8, Try.ntmps8
    go_wp2_with (go_at_call 23; (with_reducible refine (hKo.out _).mono ?_); rintro e' w1 ⟨rfl, hb1⟩; have hB1 := Lib.hid (hB0.out.trans (hb1.mono hB0.out.size)); have hY1 := Lib.hid (boxed_below hY0.out hb1 hY0.out.lt); have hAl := Lib.hid (below_alloc (Below.refl w1.heap.size w1) (.cells #[.func (.func kj) #[] #[], .func (.func kn) #[] #[], .int .i64 z] 49)); have c1 := (boxed_below hY1.out hAl.out hY1.out.lt).cell; clear hb1)
    have hBa := Lib.hid (hB1.out.trans (hAl.out.mono hB1.out.size))
    refine (hA.out _ hBa.out).mono ?_
    rintro e' w3 ⟨rfl, hb3⟩
    have hB3 := Lib.hid (hBa.out.trans (hb3.mono hBa.out.size))
    have c3 := (boxed_below (boxed_below hY1.out hAl.out hY1.out.lt) hb3 (by rw [World.size_alloc]; have := hY1.out.lt; omega)).cell
    clear hb3 c1
    rcases hJ.out with hj | ⟨hj, h6⟩
    · subst hj
      go_wp2_with fail
      go_ret3
      exact ⟨rfl, hB3.out⟩
    · subst hj
      go_wp2_with fail
      go_ret3
      exact ⟨rfl, hB3.out⟩
end Go.Proofs.Ytnkbnkiaokkjhaa
