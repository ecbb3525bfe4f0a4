/- Contracts: the first one of all orders with the least cost (firstLeast), for the cost of BestFlow. No condition. -/
import Derived.Test.YtnkbnkiaokkjhaaPermBest
import Derived.Test.YtnkbnkiaokkjhaaInRound
namespace Go.Proofs.Ytnkbnkiaokkjhaa
open Go.RowKit Go.Lst Go.Shelf

attribute [local go_sem] Oper.semAt_some

def LeastBoxM (cs : Nat → Int) (n M A S1 S2 S3 : Nat) (W : World) : Option PermV → Prop
  | none => Boxed W S1 24 (.slice none 0 0) ∧ Boxed W S2 2 (.int .i64 0) ∧ Boxed W S3 4 (.bool false)
  | some x => ∃ g c, M ≤ g ∧ A ≤ g ∧ Boxed W S1 24 (.slice (some ⟨g, 0, none⟩) n c) ∧ W.ownsRow A 2 1 (.slice (some ⟨g, 0, none⟩) n c) n ((rowAt n x.2.2).map (Value.int .i64)) ∧ Boxed W S2 2 (.int .i64 (cs x.2.2)) ∧ Boxed W S3 4 (.bool true)
def LeastPostM (cs : Nat → Int) (n : Nat) (w : World) (e : Ending) (w' : World) : Prop := ∃ T b g c, TotalF n T ∧ leastG cs (List.range T) = some b ∧ e = .returned (.tuple #[.slice (some ⟨g, 0, none⟩) n c, .int .i64 (cs b)]) ∧
  w'.ownsRow w.heap.size 2 1 (.slice (some ⟨g, 0, none⟩) n c) n ((rowAt n b).map (Value.int .i64)) ∧ Below w.heap.size w w'
theorem LeastBoxM.lent {cs : Nat → Int} {n M A B S1 S2 S3 : Nat} {X Y : World} {o : Option PermV} {row : Option Nat} (h : LeastBoxM cs n M A S1 S2 S3 X o) (h1 : S1 < B) (h2 : S2 < B) (h3 : S3 < B) (hb : Below B X Y) (hg : X.grownBy Y row) (hr : ∀ r, row = some r → (B + 2 ≤ r ∧ r < M) ∨ (B ≤ r ∧ ∃ o : Obj, X.heap[r]? = some o ∧ o.isCells = false)) : LeastBoxM cs n M A S1 S2 S3 Y o := by
  cases o with
  | none => exact ⟨boxed_below h.1 hb h1, boxed_below h.2.1 hb h2, boxed_below h.2.2 hb h3⟩
  | some x =>
    obtain ⟨g, c, hM, hA, b0, ho, b1, b2⟩ := h
    exact ⟨g, c, hM, hA, boxed_below b0 hb h1, row_lentM ho hg hr hM, boxed_below b1 hb h2, boxed_below b2 hb h3⟩
theorem LeastBoxM.put {cs : Nat → Int} {n S1 S2 S3 M A A' g c : Nat} {W : World} {x : PermV} {v1 v2 v3 : Value} (b1 : Boxed W S1 24 v1) (b2 : Boxed W S2 2 v2) (b3 : Boxed W S3 4 v3) (h12 : S1 < S2) (h23 : S2 < S3) (h3 : S3 < A) (hM : M ≤ g) (hA : A ≤ g)
    (ho : W.ownsRow A' 2 1 (.slice (some ⟨g, 0, none⟩) n c) n ((rowAt n x.2.2).map (Value.int .i64))) (hA2 : A ≤ A') :
    LeastBoxM cs n M A S1 S2 S3 (((W.setCell ⟨S1, 0, none⟩ (.slice (some ⟨g, 0, none⟩) n c)).setCell ⟨S2, 0, none⟩ (.int .i64 (cs x.2.2))).setCell ⟨S3, 0, none⟩ (.bool true)) (some x) := by
  refine ⟨g, c, hM, hA, ?_, ?_, ?_, ?_⟩
  · exact boxed_apart (boxed_apart (b1.set _) (p := ⟨S2, 0, none⟩) (by show S1 ≠ S2; omega) _) (p := ⟨S3, 0, none⟩) (by show S1 ≠ S3; omega) _
  · have o1 := ho.kept (grownBy_setCell' W S1 (.slice (some ⟨g, 0, none⟩) n c)) (.inr (by simp [Value.ownBlock]; omega))
    have o2 := o1.kept (grownBy_setCell' _ S2 (.int .i64 (cs x.2.2))) (.inr (by simp [Value.ownBlock]; omega))
    exact ownsRow_mono (o2.kept (grownBy_setCell' _ S3 (.bool true)) (.inr (by simp [Value.ownBlock]; omega))) hA2
  · exact boxed_apart ((boxed_apart b2 (p := ⟨S1, 0, none⟩) (by show S2 ≠ S1; omega) _).set _) (p := ⟨S3, 0, none⟩) (by show S2 ≠ S3; omega) _
  · exact (boxed_apart (boxed_apart b3 (p := ⟨S1, 0, none⟩) (by show S3 ≠ S1; omega) _) (p := ⟨S2, 0, none⟩) (by show S3 ≠ S2; omega) _).set _
set_option maxHeartbeats 8000000 in
set_option maxRecDepth 100000 in
theorem firstLeastP_any (b gF cF n A : Nat) (s : Value) (cs : Nat → Int) (hn1 : 1 ≤ n) (hn24 : n ≤ 24) (w : World) (hB : w.cell? ⟨b, 0, none⟩ = some (.slice (some ⟨gF, 0, none⟩) n cF)) (hF : w.ownsRow A 2 1 (.slice (some ⟨gF, 0, none⟩) n cF) n (cellsF n fun q => (q : Int)))
    (hcost : ∀ (k A c g : Nat) (W : World), Below w.heap.size w W → W.ownsRow A 2 1 (.slice (some ⟨g, 0, none⟩) n c) n ((rowAt n k).map (Value.int .i64)) → Calls Try.prog 34 #[s, .slice (some ⟨g, 0, none⟩) n c] W fun e W' => e = .returned (.int .i64 (cs k)) ∧ Below W.heap.size W W') :
    Calls Try.prog 33 #[.func (.func 57) #[] #[.pointer (some ⟨b, 0, none⟩)], .func (.func 34) #[s] #[]] w (LeastPostM cs n w) := by
  have hPo : Hid (∀ T b g c w', TotalF n T → leastG cs (List.range T) = some b → w'.ownsRow w.heap.size 2 1 (.slice (some ⟨g, 0, none⟩) n c) n ((rowAt n b).map (Value.int .i64)) → Below w.heap.size w w' → LeastPostM cs n w (.returned (.tuple #[.slice (some ⟨g, 0, none⟩) n c, .int .i64 (cs b)])) w') := Lib.hid fun T b g c w' h1 h2 h3 h4 => ⟨T, b, g, c, h1, h2, rfl, h3, h4⟩
  have hLs := Lib.hid (fun (pre : List PermV) x => leastG_snoc (fun x : PermV => cs x.2.2) pre x)
  have hLm := Lib.hid (fun (ys : List PermV) => leastG_map (α := PermV) (fun x => x.2.2) (fun x => cs x.2.2) cs (fun _ => rfl) ys)
  have hCs := Lib.hid hcost
  clear hcost
  generalize LeastPostM cs n w = Q at *
  refine (callsIn_wide (n := 5)).1 ?_
  have hf1 : 1 ≤ 5 := by omega
  have hf4 : 1 ≤ 5 - 1 := by omega
  refine callsIn_of_wp_marks Try.func33 rfl trivial ?_ rfl
  simp only [Try.ntmps33, List.size_toArray, List.length_cons, List.length_nil, Nat.reduceAdd, Nat.reduceSub, Array.replicate_succ, Array.replicate_zero, List.push_toArray, List.append_toArray, List.nil_append, List.cons_append]
  gi_wp2
  have x0 := (((Boxed.new w 66 (.func (.func 34) #[s] #[])).alloc (.cells #[.slice none 0 0] 24)).alloc (.cells #[.int .i64 0] 2)).alloc (.cells #[.bool false] 4)
  have x1 := ((Boxed.new (w.alloc (.cells #[.func (.func 34) #[s] #[]] 66)) 24 (.slice none 0 0)).alloc (.cells #[.int .i64 0] 2)).alloc (.cells #[.bool false] 4)
  have x2 := (Boxed.new ((w.alloc (.cells #[.func (.func 34) #[s] #[]] 66)).alloc (.cells #[.slice none 0 0] 24)) 2 (.int .i64 0)).alloc (.cells #[.bool false] 4)
  have x3 := Boxed.new (((w.alloc (.cells #[.func (.func 34) #[s] #[]] 66)).alloc (.cells #[.slice none 0 0] 24)).alloc (.cells #[.int .i64 0] 2)) 4 (.bool false)
  rw [World.size_alloc] at x1
  rw [World.size_alloc, World.size_alloc] at x2
  rw [World.size_alloc, World.size_alloc, World.size_alloc] at x3
  have hBel : Below w.heap.size w ((((w.alloc (.cells #[.func (.func 34) #[s] #[]] 66)).alloc (.cells #[.slice none 0 0] 24)).alloc (.cells #[.int .i64 0] 2)).alloc (.cells #[.bool false] 4)) := below_alloc (below_alloc (below_alloc (below_alloc (Below.refl _ _) _) _) _) _
  have hsz : w.heap.size + 4 = ((((w.alloc (.cells #[.func (.func 34) #[s] #[]] 66)).alloc (.cells #[.slice none 0 0] 24)).alloc (.cells #[.int .i64 0] 2)).alloc (.cells #[.bool false] 4)).heap.size := by simp
  generalize ((((w.alloc _).alloc _).alloc _).alloc _) = W0 at *
  generalize hS1 : w.heap.size + 1 = S1 at *
  generalize hS2 : S1 + 1 = S2 at *
  generalize hS3 : S2 + 1 = S3 at *
  refine wpIn_rangeFunc_lentM rfl hf1 (gf := 57) (lb := #[.pointer (some ⟨b, 0, none⟩)]) rfl trivial (enters_of Try.func57 (by kernel_rfl) rfl)
    (lists_stops (5 - 1) b w.heap.size W0.heap.size n _ gF cF hn1 hn24 (by omega) W0 ((hBel.cell (p := ⟨b, 0, none⟩) (World.block_lt_of_cell? w _ hB)).trans hB) (ownsRow_below hF hBel (ownsRow_lt hF).2) (Nat.le_refl _) (by omega)) KeptC.t (KeptC.b (by omega)) (fun x => PermLt.own _ x) (Below.refl _ _) (fun _ => rfl)
    (fun (M : Nat) (pre : List PermV) (W : World) => LeastBoxM cs n M W0.heap.size S1 S2 S3 W (leastG (fun x : PermV => cs x.2.2) pre) ∧ Boxed W w.heap.size 66 (.func (.func 34) #[s] #[]) ∧ Below w.heap.size w W ∧ W0.heap.size ≤ W.heap.size)
    (fun (M : Nat) (c : Code) (pre : List PermV) (W : World) => False)
    (fun M s X Y row h hg hr => by
      obtain ⟨hl, hx, hbw, hsw⟩ := h
      have hbl : Below W0.heap.size X Y := (Below.refl _ X).grown hg hsw fun k e => by rcases hr k e with h | h <;> omega
      exact ⟨hl.lent (by omega) (by omega) (by omega) hbl hg hr, boxed_below hx hbl (by omega), hbw.trans (hbl.mono (by omega)), Nat.le_trans hsw hbl.size⟩)
    (fun M z s X Y row h _ _ => h)
    (fun M => ⟨⟨x1, x2, x3⟩, x0, hBel, Nat.le_refl _⟩)
    (fun x => { tmps := #[.func (.func 57) #[] #[.pointer (some ⟨b, 0, none⟩)], .func (.func 34) #[s] #[], undef, .pointer (some ⟨w.heap.size, 0, none⟩), .slice none 0 0, .int .i64 0, .pointer (some ⟨S1, 0, none⟩), .pointer (some ⟨S2, 0, none⟩), .pointer (some ⟨S3, 0, none⟩), .slice (some ⟨x.1, 0, none⟩) n x.2.1, undef, .func (.func 57) #[] #[.pointer (some ⟨b, 0, none⟩)], .slice (some ⟨x.1, 0, none⟩) n x.2.1, undef, undef, undef, undef, undef, undef, undef, undef, undef, undef, undef, undef, undef, undef, undef], defers := [] }) ?assign ?body ?done ?stop
  case assign =>
    intro l x W K hK
    gi_wp2
    first | exact hK | simpa using hK
  case body =>
    rintro M l pre x W ⟨hl, hx, hbw, hsw⟩ hLx hM hszc hlt
    have hCx := Lib.hid (hCs.out x.2.2 _ x.2.1 x.1 W hbw hLx)
    have hxl := (ownsRow_lt hLx).2
    have hLxh := Lib.hid hLx
    have cX := hx.cell
    have hXb := Lib.hid hx
    have hBw := Lib.hid hbw
    have l1 : S1 < W.heap.size := by omega
    have l2 : S2 < W.heap.size := by omega
    have l3 : S3 < W.heap.size := by omega
    have hClF : Hid (∀ w', Below W.heap.size W w' → _) := Lib.hid fun w' hb => (cloneG_any x.1 0 x.2.1 n (rowAt n x.2.2) w' (Nat.lt_of_lt_of_le hxl hb.size) (rowAt_length n _) hn1 (by omega) (fun k y hy => by
        have hk : k < n := by have := (List.getElem?_eq_some_iff.1 hy).1; rw [rowAt_length] at this; exact this
        rw [Nat.zero_add, hb.cell (p := ⟨x.1, k, none⟩) hxl, hLxh.out.cellAt k (by omega), List.getElem?_map, hy]; rfl))
    clear hx hbw hLx hCs
    cases hlp : leastG (fun x : PermV => cs x.2.2) pre with
    | none =>
      rw [hlp] at hl
      have hBx := Lib.hid hl
      have hlpH := Lib.hid hlp
      clear hl hlp
      gi_wp2_with (first | (refine ⟨trivial, ?_⟩; gi_at_call 34; (with_reducible refine (CallsIn.inRound l (callsIn_wide.2 hCx.out)).mono ?_); rintro e' w5 ⟨rfl, hb5⟩; have hB5 := Lib.hid hb5; have k1 := boxed_below hBx.out.1 hb5 l1; have k2 := boxed_below hBx.out.2.1 hb5 l2; have k3 := boxed_below hBx.out.2.2 hb5 l3; have d2 := k2.cell; have d3 := k3.cell; have hKx := Lib.hid (And.intro k1 (And.intro k2 k3)); clear hb5 k1 k2 k3) | (refine ⟨trivial, ?_⟩; gi_at_call 27; (with_reducible refine (CallsIn.inRound l (callsIn_wide.2 (hClF.out w5 hB5.out))).mono ?_); rintro e' w6 ⟨g6, c6, rfl, hg6, ho6, hb6⟩; have hG6 := Lib.hid hg6; have hO6 := Lib.hid ho6; have hB6 := Lib.hid hb6; have m1 := boxed_below hKx.out.1 hb6 hKx.out.1.lt; have m2 := boxed_below hKx.out.2.1 hb6 hKx.out.2.1.lt; have m3 := boxed_below hKx.out.2.2 hb6 hKx.out.2.2.lt; have e1 := m1.cell; have e2 := m2.cell; have e3 := m3.cell; have q1 := m1.frozen; have q2 := m2.frozen; have q3 := m3.frozen; have hMx := Lib.hid (And.intro m1 (And.intro m2 m3)); clear hg6 ho6 hb6 m1 m2 m3))
      obtain ⟨m1, m2, m3⟩ := hMx.out
      have hg6 := hG6.out
      have h56 := hB6.out
      have hbz : Below W.heap.size W w6 := hB5.out.trans (h56.mono hB5.out.size)
      have hs5 := hB5.out.size
      have hwj : Within w.heap.size (w.heap.size + 4) W (((w6.setCell ⟨S1, 0, none⟩ (.slice (some ⟨g6, 0, none⟩) n c6)).setCell ⟨S2, 0, none⟩ (.int .i64 (cs x.2.2))).setCell ⟨S3, 0, none⟩ (.bool true)) :=
        (((Within.of_below (n₀ := w.heap.size) (B := w.heap.size + 4) (show w.heap.size ≤ W.heap.size by omega) hbz).set (p := ⟨S1, 0, none⟩) (show w.heap.size ≤ S1 by omega) (show S1 < w.heap.size + 4 by omega) _).set (p := ⟨S2, 0, none⟩) (show w.heap.size ≤ S2 by omega) (show S2 < w.heap.size + 4 by omega) _).set (p := ⟨S3, 0, none⟩) (show w.heap.size ≤ S3 by omega) (show S3 < w.heap.size + 4 by omega) _
      have hwk : Within w.heap.size W0.heap.size W (((w6.setCell ⟨S1, 0, none⟩ (.slice (some ⟨g6, 0, none⟩) n c6)).setCell ⟨S2, 0, none⟩ (.int .i64 (cs x.2.2))).setCell ⟨S3, 0, none⟩ (.bool true)) := ⟨hwj.1, fun b hb hs => hwj.2 b (by omega) hs⟩
      refine ⟨hwk.from, hwk.keptC, ?_, ?_, hBw.out.trans hwj.1, Nat.le_trans hsw hwj.1.size⟩
      · rw [hLs.out, hlpH.out]
        exact LeastBoxM.put m1 m2 m3 (by omega) (by omega) (by omega) (by omega) (by omega) hO6.out (by omega)
      · exact boxed_apart (boxed_apart (boxed_apart (boxed_below hXb.out hbz (by omega)) (p := ⟨S1, 0, none⟩) (by show w.heap.size ≠ S1; omega) _) (p := ⟨S2, 0, none⟩) (by show w.heap.size ≠ S2; omega) _) (p := ⟨S3, 0, none⟩) (by show w.heap.size ≠ S3; omega) _
    | some y =>
      rw [hlp] at hl
      obtain ⟨gy, cy, hMy, hgy, b1, hoy, b2, b3⟩ := hl
      have hBx := Lib.hid (And.intro b1 (And.intro b2 b3))
      have hlpH := Lib.hid hlp
      have hOy := Lib.hid (And.intro hMy (And.intro hgy hoy))
      clear hlp b1 b2 b3 hMy hgy hoy
      by_cases hxy : cs x.2.2 < cs y.2.2
      · have hXy := Lib.hid hxy
        gi_wp2_with (first | (refine ⟨trivial, ?_⟩; gi_at_call 34; (with_reducible refine (CallsIn.inRound l (callsIn_wide.2 hCx.out)).mono ?_); rintro e' w5 ⟨rfl, hb5⟩; have hB5 := Lib.hid hb5; have k1 := boxed_below hBx.out.1 hb5 l1; have k2 := boxed_below hBx.out.2.1 hb5 l2; have k3 := boxed_below hBx.out.2.2 hb5 l3; have d2 := k2.cell; have d3 := k3.cell; have hKx := Lib.hid (And.intro k1 (And.intro k2 k3)); clear hb5 k1 k2 k3) | (refine ⟨trivial, ?_⟩; gi_at_call 27; (with_reducible refine (CallsIn.inRound l (callsIn_wide.2 (hClF.out w5 hB5.out))).mono ?_); rintro e' w6 ⟨g6, c6, rfl, hg6, ho6, hb6⟩; have hG6 := Lib.hid hg6; have hO6 := Lib.hid ho6; have hB6 := Lib.hid hb6; have m1 := boxed_below hKx.out.1 hb6 hKx.out.1.lt; have m2 := boxed_below hKx.out.2.1 hb6 hKx.out.2.1.lt; have m3 := boxed_below hKx.out.2.2 hb6 hKx.out.2.2.lt; have e1 := m1.cell; have e2 := m2.cell; have e3 := m3.cell; have q1 := m1.frozen; have q2 := m2.frozen; have q3 := m3.frozen; have hMx := Lib.hid (And.intro m1 (And.intro m2 m3)); clear hg6 ho6 hb6 m1 m2 m3))
        obtain ⟨m1, m2, m3⟩ := hMx.out
        have hg6 := hG6.out
        have h56 := hB6.out
        have hbz : Below W.heap.size W w6 := hB5.out.trans (h56.mono hB5.out.size)
        have hs5 := hB5.out.size
        have hwj : Within w.heap.size (w.heap.size + 4) W (((w6.setCell ⟨S1, 0, none⟩ (.slice (some ⟨g6, 0, none⟩) n c6)).setCell ⟨S2, 0, none⟩ (.int .i64 (cs x.2.2))).setCell ⟨S3, 0, none⟩ (.bool true)) :=
          (((Within.of_below (n₀ := w.heap.size) (B := w.heap.size + 4) (show w.heap.size ≤ W.heap.size by omega) hbz).set (p := ⟨S1, 0, none⟩) (show w.heap.size ≤ S1 by omega) (show S1 < w.heap.size + 4 by omega) _).set (p := ⟨S2, 0, none⟩) (show w.heap.size ≤ S2 by omega) (show S2 < w.heap.size + 4 by omega) _).set (p := ⟨S3, 0, none⟩) (show w.heap.size ≤ S3 by omega) (show S3 < w.heap.size + 4 by omega) _
        have hwk : Within w.heap.size W0.heap.size W (((w6.setCell ⟨S1, 0, none⟩ (.slice (some ⟨g6, 0, none⟩) n c6)).setCell ⟨S2, 0, none⟩ (.int .i64 (cs x.2.2))).setCell ⟨S3, 0, none⟩ (.bool true)) := ⟨hwj.1, fun b hb hs => hwj.2 b (by omega) hs⟩
        refine ⟨hwk.from, hwk.keptC, ?_, ?_, hBw.out.trans hwj.1, Nat.le_trans hsw hwj.1.size⟩
        · rw [hLs.out, hlpH.out]; show LeastBoxM cs n M _ S1 S2 S3 _ (some (if cs x.2.2 < cs y.2.2 then x else y)); rw [if_pos hXy.out]
          exact LeastBoxM.put m1 m2 m3 (by omega) (by omega) (by omega) (by omega) (by omega) hO6.out (by omega)
        · exact boxed_apart (boxed_apart (boxed_apart (boxed_below hXb.out hbz (by omega)) (p := ⟨S1, 0, none⟩) (by show w.heap.size ≠ S1; omega) _) (p := ⟨S2, 0, none⟩) (by show w.heap.size ≠ S2; omega) _) (p := ⟨S3, 0, none⟩) (by show w.heap.size ≠ S3; omega) _
      · have hXy := Lib.hid hxy
        gi_wp2_with (refine ⟨trivial, ?_⟩; gi_at_call 34; (with_reducible refine (CallsIn.inRound l (callsIn_wide.2 hCx.out)).mono ?_); rintro e' w5 ⟨rfl, hb5⟩; have hB5 := Lib.hid hb5; have k1 := boxed_below hBx.out.1 hb5 l1; have k2 := boxed_below hBx.out.2.1 hb5 l2; have k3 := boxed_below hBx.out.2.2 hb5 l3; have d2 := k2.cell; have d3 := k3.cell; have hKx := Lib.hid (And.intro k1 (And.intro k2 k3)); clear hb5 k1 k2 k3)
        obtain ⟨k1, k2, k3⟩ := hKx.out
        have hwj : Within w.heap.size (w.heap.size + 4) W w5 := Within.of_below (n₀ := w.heap.size) (B := w.heap.size + 4) (show w.heap.size ≤ W.heap.size by omega) hB5.out
        have hwk : Within w.heap.size W0.heap.size W w5 := ⟨hwj.1, fun b hb hs => hwj.2 b (by omega) hs⟩
        refine ⟨hwk.from, hwk.keptC, ?_, boxed_below hXb.out hB5.out (by omega), hBw.out.trans hwj.1, Nat.le_trans hsw hwj.1.size⟩
        rw [hLs.out, hlpH.out]; show LeastBoxM cs n M _ S1 S2 S3 _ (some (if cs x.2.2 < cs y.2.2 then x else y)); rw [if_neg (by have := hXy.out; omega)]
        exact ⟨gy, cy, hOy.out.1, hOy.out.2.1, k1, ownsRow_below hOy.out.2.2 hB5.out (ownsRow_lt hOy.out.2.2).2, k2, k3⟩
  case done =>
    rintro M D ys W hD ⟨T, hT, hys⟩ ⟨hl, hx, hbw, hsw⟩ hK
    have hLy := hLm.out ys
    rw [hys] at hLy
    have hKh := Lib.hid hK
    have hBw := Lib.hid hbw
    cases hlp : leastG (fun x : PermV => cs x.2.2) ys with
    | none =>
      exfalso
      rw [hlp] at hLy
      have h9 := (leastG_nil cs (List.range T)).1 hLy.symm
      have h8 := congrArg List.length h9
      rw [List.length_range] at h8
      have h7 := hT.1
      rw [h8] at h7
      cases h7
    | some x =>
      rw [hlp] at hl hLy
      obtain ⟨g, cc, hMg, hgg, b1, ho, b2, b3⟩ := hl
      have c1 := b1.cell
      have c2 := b2.cell
      have hP := Lib.hid (fun w' => hPo.out T x.2.2 g cc w' hT hLy.symm)
      have hO := Lib.hid ho
      clear ho b1 b2 b3 hx hbw hK hlp hLy hT hys hCs
      gi_wp2
      refine wpIn_wide.2 ?_
      go_quiet (fail)
      gi_wp2
      have hK9 : (W.drewN nq).heap[D]? = some (.deferred (some [])) := hKh.out
      have hO9 : (W.drewN nq).ownsRow w.heap.size 2 1 (.slice (some ⟨g, 0, none⟩) n cc) n ((rowAt n x.2.2).map (Value.int .i64)) := ownsRow_mono (show (W.drewN nq).ownsRow W0.heap.size 2 1 (.slice (some ⟨g, 0, none⟩) n cc) n ((rowAt n x.2.2).map (Value.int .i64)) from hO.out) (by omega)
      refine ⟨by simp, .inl ⟨_, _, rfl, run_takeDeferred hK9, ?_⟩⟩
      refine ⟨.tuple #[.slice (some ⟨g, 0, none⟩) n cc, .int .i64 (cs x.2.2)], by simp [results, Try.f33, go_sem], hP.out _ (ownsRow_putObj hO9 _ hK9 rfl) ?_⟩
      exact (Lst.Below.drewN hBw.out nq).trans (belowK_b (w := W0) (by omega) _ D _ _ hD hK9 rfl rfl)
  case stop =>
    rintro M D c pre W _ _ h _
    exact h.elim
end Go.Proofs.Ytnkbnkiaokkjhaa
