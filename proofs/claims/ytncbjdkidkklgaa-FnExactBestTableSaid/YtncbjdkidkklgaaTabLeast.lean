/- Contracts: the first one of lent lists with the least cost (firstLeast), for the cost of BestTable. No condition. -/
import Derived.Test.YtncbjdkidkklgaaTabRun
namespace Go.Proofs.Ytncbjdkidkklgaa
open Go.RowKit Go.Lst Go.Shelf

attribute [local go_sem] Oper.semAt_some

def LeastBox {α : Type} (f : α → Int) (rowL : α → List Int) (n A S1 S2 S3 : Nat) (W : World) : Option α → Prop
  | none => Boxed W S1 24 (.slice none 0 0) ∧ Boxed W S2 2 (.int .i64 0) ∧ Boxed W S3 4 (.bool false)
  | some x => ∃ g c, A ≤ g ∧ Boxed W S1 24 (.slice (some ⟨g, 0, none⟩) n c) ∧ W.ownsRow A 2 1 (.slice (some ⟨g, 0, none⟩) n c) n ((rowL x).map (Value.int .i64)) ∧ Boxed W S2 2 (.int .i64 (f x)) ∧ Boxed W S3 4 (.bool true)
def LeastPost {α : Type} (f : α → Int) (rowL : α → List Int) (n : Nat) (S : List α → Prop) (w : World) (e : Ending) (w' : World) : Prop :=
  ∃ ys, S ys ∧ Below w.heap.size w w' ∧ ((leastG f ys = none ∧ e = .returned (.tuple #[.slice none 0 0, .int .i64 0])) ∨
    ∃ x g c, leastG f ys = some x ∧ e = .returned (.tuple #[.slice (some ⟨g, 0, none⟩) n c, .int .i64 (f x)]) ∧ w'.ownsRow w.heap.size 2 1 (.slice (some ⟨g, 0, none⟩) n c) n ((rowL x).map (Value.int .i64)))
theorem LeastBox.lent {α : Type} {f : α → Int} {rowL : α → List Int} {n S1 S2 S3 B c : Nat} {X Y : World} {o : Option α} {row : Option Nat} (h : LeastBox f rowL n (B + 2 + c) S1 S2 S3 X o) (h1 : S1 < B) (h2 : S2 < B) (h3 : S3 < B) (hb : Below B X Y) (hg : X.grownBy Y row) (hr : ∀ r, row = some r → (B + 2 ≤ r ∧ r < B + 2 + c) ∨ (B ≤ r ∧ ∃ o : Obj, X.heap[r]? = some o ∧ o.isCells = false)) :
    LeastBox f rowL n (B + 2 + c) S1 S2 S3 Y o := by
  cases o with
  | none => exact ⟨boxed_below h.1 hb h1, boxed_below h.2.1 hb h2, boxed_below h.2.2 hb h3⟩
  | some x =>
    obtain ⟨g, cc, hgg, b0, ho, b1, b2⟩ := h
    exact ⟨g, cc, hgg, boxed_below b0 hb h1, row_lent ho hg hr hgg, boxed_below b1 hb h2, boxed_below b2 hb h3⟩
theorem LeastBox.own {α : Type} {f : α → Int} {rowL : α → List Int} {n S1 S2 S3 A : Nat} {X Y : World} {o : Option α} (h : LeastBox f rowL n A S1 S2 S3 X o) (h1 : S1 < X.heap.size) (h2 : S2 < X.heap.size) (h3 : S3 < X.heap.size) (hb : Below X.heap.size X Y) : LeastBox f rowL n A S1 S2 S3 Y o := by
  cases o with
  | none => exact ⟨boxed_below h.1 hb h1, boxed_below h.2.1 hb h2, boxed_below h.2.2 hb h3⟩
  | some x =>
    obtain ⟨g, cc, hgg, b0, ho, b1, b2⟩ := h
    exact ⟨g, cc, hgg, boxed_below b0 hb h1, ownsRow_below ho hb (ownsRow_lt ho).2, boxed_below b1 hb h2, boxed_below b2 hb h3⟩
theorem LeastBox.put {α : Type} {f : α → Int} {rowL : α → List Int} {n S1 S2 S3 A A' g c : Nat} {W : World} {x : α} {v1 v2 v3 : Value} (b1 : Boxed W S1 24 v1) (b2 : Boxed W S2 2 v2) (b3 : Boxed W S3 4 v3) (h12 : S1 < S2) (h23 : S2 < S3) (h3 : S3 < A) (hA : A ≤ g)
    (ho : W.ownsRow A' 2 1 (.slice (some ⟨g, 0, none⟩) n c) n ((rowL x).map (Value.int .i64))) (hA2 : A ≤ A') :
    LeastBox f rowL n A S1 S2 S3 (((W.setCell ⟨S1, 0, none⟩ (.slice (some ⟨g, 0, none⟩) n c)).setCell ⟨S2, 0, none⟩ (.int .i64 (f x))).setCell ⟨S3, 0, none⟩ (.bool true)) (some x) := by
  refine ⟨g, c, hA, ?_, ?_, ?_, ?_⟩
  · exact boxed_apart (boxed_apart (b1.set _) (p := ⟨S2, 0, none⟩) (by show S1 ≠ S2; omega) _) (p := ⟨S3, 0, none⟩) (by show S1 ≠ S3; omega) _
  · have o1 := ho.kept (grownBy_setCell' W S1 (.slice (some ⟨g, 0, none⟩) n c)) (.inr (by simp [Value.ownBlock]; omega))
    have o2 := o1.kept (grownBy_setCell' _ S2 (.int .i64 (f x))) (.inr (by simp [Value.ownBlock]; omega))
    exact ownsRow_mono (o2.kept (grownBy_setCell' _ S3 (.bool true)) (.inr (by simp [Value.ownBlock]; omega))) hA2
  · exact boxed_apart ((boxed_apart b2 (p := ⟨S1, 0, none⟩) (by show S2 ≠ S1; omega) _).set _) (p := ⟨S3, 0, none⟩) (by show S2 ≠ S3; omega) _
  · exact (boxed_apart (boxed_apart b3 (p := ⟨S1, 0, none⟩) (by show S3 ≠ S1; omega) _) (p := ⟨S2, 0, none⟩) (by show S3 ≠ S2; omega) _).set _
set_option maxHeartbeats 8000000 in
set_option maxRecDepth 100000 in
theorem firstLeast_any {α : Type} (gf : Nat) (lb : Array Value) (ca cb : Addr) (ad : α → Nat) (rowL : α → List Int) (f : α → Int) (n : Nat) (hn1 : 1 ≤ n) (hn2 : n ≤ 1048576) (Lt : α → World → Prop) (S Sp : List α → Prop) (N c : Nat) (w : World)
    (hrow : ∀ x, (rowL x).length = n) (hLt1 : ∀ x W, Lt x W → ∃ A, W.ownsRow A 2 1 (.slice (some ⟨ad x, 0, none⟩) n n) n ((rowL x).map (Value.int .i64))) (hLto : ∀ B x, OwnFrom B (fun (_ : Unit) W => Lt x W))
    (hgf : ∀ args w, (callFunc gf args).run Try.prog w = .ok (.enter gf args) w)
    (hseq : ∀ w0, Below w.heap.size w w0 → w.heap.size + 4 ≤ w0.heap.size → SeqStopsL Fence.wide 4 Try.prog gf lb (fun x : α => #[.slice (some ⟨ad x, 0, none⟩) n n]) Lt (KeptC w.heap.size (w.heap.size + 4)) S Sp N c w0)
    (hcost : ∀ x W, Below w.heap.size w W → Lt x W → Calls Try.prog 26 #[.slice (some ⟨ad x, 0, none⟩) n n, .pointer (some ca), .pointer (some cb)] W fun e W' => e = .returned (.int .i64 (f x)) ∧ Below W.heap.size W W') :
    Calls Try.prog 28 #[.func (.func gf) #[] lb, .func (.func 26) #[] #[.pointer (some ca), .pointer (some cb)]] w (LeastPost f rowL n S w) := by
  have hPo : Hid (∀ ys e w', S ys → Below w.heap.size w w' → _ → LeastPost f rowL n S w e w') := Lib.hid fun ys e w' hs hb hz => ⟨ys, hs, hb, hz⟩
  have hLs := Lib.hid (fun (pre : List α) x => leastG_snoc f pre x)
  generalize LeastPost f rowL n S w = Q at *
  refine (callsIn_wide (n := 5)).1 ?_
  have hf1 : 1 ≤ 5 := by omega
  have hf4 : 1 ≤ 5 - 1 := by omega
  refine callsIn_of_wp_marks Try.func28 rfl trivial ?_ rfl
  simp only [Try.ntmps28, List.size_toArray, List.length_cons, List.length_nil, Nat.reduceAdd, Nat.reduceSub, Array.replicate_succ, Array.replicate_zero, List.push_toArray, List.append_toArray, List.nil_append, List.cons_append]
  gi_wp2
  have x0 := (((Boxed.new w 54 (.func (.func 26) #[] #[.pointer (some ca), .pointer (some cb)])).alloc (.cells #[.slice none 0 0] 24)).alloc (.cells #[.int .i64 0] 2)).alloc (.cells #[.bool false] 4)
  have x1 := ((Boxed.new (w.alloc (.cells #[.func (.func 26) #[] #[.pointer (some ca), .pointer (some cb)]] 54)) 24 (.slice none 0 0)).alloc (.cells #[.int .i64 0] 2)).alloc (.cells #[.bool false] 4)
  have x2 := (Boxed.new ((w.alloc (.cells #[.func (.func 26) #[] #[.pointer (some ca), .pointer (some cb)]] 54)).alloc (.cells #[.slice none 0 0] 24)) 2 (.int .i64 0)).alloc (.cells #[.bool false] 4)
  have x3 := Boxed.new (((w.alloc (.cells #[.func (.func 26) #[] #[.pointer (some ca), .pointer (some cb)]] 54)).alloc (.cells #[.slice none 0 0] 24)).alloc (.cells #[.int .i64 0] 2)) 4 (.bool false)
  rw [World.size_alloc] at x1
  rw [World.size_alloc, World.size_alloc] at x2
  rw [World.size_alloc, World.size_alloc, World.size_alloc] at x3
  have hBel : Below w.heap.size w ((((w.alloc (.cells #[.func (.func 26) #[] #[.pointer (some ca), .pointer (some cb)]] 54)).alloc (.cells #[.slice none 0 0] 24)).alloc (.cells #[.int .i64 0] 2)).alloc (.cells #[.bool false] 4)) := below_alloc (below_alloc (below_alloc (below_alloc (Below.refl _ _) _) _) _) _
  have hsz : w.heap.size + 4 = ((((w.alloc (.cells #[.func (.func 26) #[] #[.pointer (some ca), .pointer (some cb)]] 54)).alloc (.cells #[.slice none 0 0] 24)).alloc (.cells #[.int .i64 0] 2)).alloc (.cells #[.bool false] 4)).heap.size := by simp
  generalize ((((w.alloc _).alloc _).alloc _).alloc _) = W0 at *
  generalize hS1 : w.heap.size + 1 = S1 at *
  generalize hS2 : S1 + 1 = S2 at *
  generalize hS3 : S2 + 1 = S3 at *
  refine wpIn_rangeFunc_lent rfl hf1 (gf := gf) (lb := lb) rfl trivial hgf
    (hseq W0 hBel (by omega)) KeptC.t (KeptC.b (by omega)) (fun x => hLto _ x) (Below.refl _ _) (fun _ => rfl)
    (fun (pre : List α) (W : World) => LeastBox f rowL n (W0.heap.size + 2 + c) S1 S2 S3 W (leastG f pre) ∧ Boxed W w.heap.size 54 (.func (.func 26) #[] #[.pointer (some ca), .pointer (some cb)]) ∧ Below w.heap.size w W ∧ W0.heap.size ≤ W.heap.size)
    (fun (c : Code) (pre : List α) (W : World) => False)
    (fun s X Y row h hg hr => by
      obtain ⟨hl, hx, hbw, hsw⟩ := h
      have hbl : Below W0.heap.size X Y := (Below.refl _ X).grown hg hsw fun k e => by rcases hr k e with h | h <;> omega
      exact ⟨hl.lent (by omega) (by omega) (by omega) hbl hg hr, boxed_below hx hbl (by omega), hbw.trans (hbl.mono (by omega)), Nat.le_trans hsw hbl.size⟩)
    (fun z s X Y row h _ _ => h)
    ⟨⟨x1, x2, x3⟩, x0, hBel, Nat.le_refl _⟩
    (fun x => { tmps := #[.func (.func gf) #[] lb, .func (.func 26) #[] #[.pointer (some ca), .pointer (some cb)], undef, .pointer (some ⟨w.heap.size, 0, none⟩), .slice none 0 0, .int .i64 0, .pointer (some ⟨S1, 0, none⟩), .pointer (some ⟨S2, 0, none⟩), .pointer (some ⟨S3, 0, none⟩), .slice (some ⟨ad x, 0, none⟩) n n, undef, .func (.func gf) #[] lb, .slice (some ⟨ad x, 0, none⟩) n n, undef, undef, undef, undef, undef, undef, undef, undef, undef, undef, undef, undef, undef, undef, undef], defers := [] }) ?assign ?body ?done ?stop
  case assign =>
    intro l x W K hK
    gi_wp2
    first | exact hK | simpa using hK
  case body =>
    rintro l pre x W ⟨hl, hx, hbw, hsw⟩ hLx hszc hlt
    have hCs := Lib.hid (hcost x W hbw hLx)
    have cX := hx.cell
    have hXb := Lib.hid hx
    have hBw := Lib.hid hbw
    have l1 : S1 < W.heap.size := by omega
    have l2 : S2 < W.heap.size := by omega
    have l3 : S3 < W.heap.size := by omega
    have hClF : Hid (∀ w', Below W.heap.size W w' → _) := Lib.hid fun w' hb => (cloneG_any (ad x) 0 n n (rowL x) w' (by
        obtain ⟨A, ho⟩ := hLt1 x W hLx
        exact Nat.lt_of_lt_of_le (ownsRow_lt ho).2 hb.size) (hrow x) hn1 hn2 (fun k y hy => by
        obtain ⟨A, ho⟩ := hLt1 x W hLx
        have hk : k < n := by have := (List.getElem?_eq_some_iff.1 hy).1; rw [hrow x] at this; exact this
        rw [Nat.zero_add, hb.cell (p := ⟨ad x, k, none⟩) (ownsRow_lt ho).2, ho.cellAt k (by omega), List.getElem?_map, hy]; rfl))
    clear hx hbw hLx
    cases hlp : leastG f pre with
    | none =>
      rw [hlp] at hl
      have hBx := Lib.hid hl
      have hlpH := Lib.hid hlp
      clear hl hlp
      gi_wp2_with (first | (refine ⟨trivial, ?_⟩; gi_at_call 26; (with_reducible refine (CallsIn.inRound l (callsIn_wide.2 hCs.out)).mono ?_); rintro e' w5 ⟨rfl, hb5⟩; have hB5 := Lib.hid hb5; have k1 := boxed_below hBx.out.1 hb5 l1; have k2 := boxed_below hBx.out.2.1 hb5 l2; have k3 := boxed_below hBx.out.2.2 hb5 l3; have d2 := k2.cell; have d3 := k3.cell; have hKx := Lib.hid (And.intro k1 (And.intro k2 k3)); clear hb5 k1 k2 k3) | (refine ⟨trivial, ?_⟩; gi_at_call 24; (with_reducible refine (CallsIn.inRound l (callsIn_wide.2 (hClF.out w5 hB5.out))).mono ?_); rintro e' w6 ⟨g6, c6, rfl, hg6, ho6, hb6⟩; have hG6 := Lib.hid hg6; have hO6 := Lib.hid ho6; have hB6 := Lib.hid hb6; have m1 := boxed_below hKx.out.1 hb6 hKx.out.1.lt; have m2 := boxed_below hKx.out.2.1 hb6 hKx.out.2.1.lt; have m3 := boxed_below hKx.out.2.2 hb6 hKx.out.2.2.lt; have e1 := m1.cell; have e2 := m2.cell; have e3 := m3.cell; have q1 := m1.frozen; have q2 := m2.frozen; have q3 := m3.frozen; have hMx := Lib.hid (And.intro m1 (And.intro m2 m3)); clear hg6 ho6 hb6 m1 m2 m3))
      obtain ⟨m1, m2, m3⟩ := hMx.out
      have hg6 := hG6.out
      have h56 := hB6.out
      have hbz : Below W.heap.size W w6 := hB5.out.trans (h56.mono hB5.out.size)
      have hs5 := hB5.out.size
      have hwj : Within w.heap.size (w.heap.size + 4) W (((w6.setCell ⟨S1, 0, none⟩ (.slice (some ⟨g6, 0, none⟩) n c6)).setCell ⟨S2, 0, none⟩ (.int .i64 (f x))).setCell ⟨S3, 0, none⟩ (.bool true)) :=
        (((Within.of_below (n₀ := w.heap.size) (B := w.heap.size + 4) (show w.heap.size ≤ W.heap.size by omega) hbz).set (p := ⟨S1, 0, none⟩) (show w.heap.size ≤ S1 by omega) (show S1 < w.heap.size + 4 by omega) _).set (p := ⟨S2, 0, none⟩) (show w.heap.size ≤ S2 by omega) (show S2 < w.heap.size + 4 by omega) _).set (p := ⟨S3, 0, none⟩) (show w.heap.size ≤ S3 by omega) (show S3 < w.heap.size + 4 by omega) _
      have hwk : Within w.heap.size W0.heap.size W (((w6.setCell ⟨S1, 0, none⟩ (.slice (some ⟨g6, 0, none⟩) n c6)).setCell ⟨S2, 0, none⟩ (.int .i64 (f x))).setCell ⟨S3, 0, none⟩ (.bool true)) := ⟨hwj.1, fun b hb hs => hwj.2 b (by omega) hs⟩
      refine ⟨hwk.from, hwj.keptC, ?_, ?_, hBw.out.trans hwj.1, Nat.le_trans hsw hwj.1.size⟩
      · rw [hLs.out, hlpH.out]
        exact LeastBox.put m1 m2 m3 (by omega) (by omega) (by omega) (by omega) hO6.out (by omega)
      · exact boxed_apart (boxed_apart (boxed_apart (boxed_below hXb.out hbz (by omega)) (p := ⟨S1, 0, none⟩) (by show w.heap.size ≠ S1; omega) _) (p := ⟨S2, 0, none⟩) (by show w.heap.size ≠ S2; omega) _) (p := ⟨S3, 0, none⟩) (by show w.heap.size ≠ S3; omega) _
    | some y =>
      rw [hlp] at hl
      obtain ⟨gy, cy, hgy, b1, hoy, b2, b3⟩ := hl
      have hBx := Lib.hid (And.intro b1 (And.intro b2 b3))
      have hlpH := Lib.hid hlp
      have hOy := Lib.hid (And.intro hgy hoy)
      clear hlp b1 b2 b3 hgy hoy
      by_cases hxy : f x < f y
      · have hXy := Lib.hid hxy
        gi_wp2_with (first | (refine ⟨trivial, ?_⟩; gi_at_call 26; (with_reducible refine (CallsIn.inRound l (callsIn_wide.2 hCs.out)).mono ?_); rintro e' w5 ⟨rfl, hb5⟩; have hB5 := Lib.hid hb5; have k1 := boxed_below hBx.out.1 hb5 l1; have k2 := boxed_below hBx.out.2.1 hb5 l2; have k3 := boxed_below hBx.out.2.2 hb5 l3; have d2 := k2.cell; have d3 := k3.cell; have hKx := Lib.hid (And.intro k1 (And.intro k2 k3)); clear hb5 k1 k2 k3) | (refine ⟨trivial, ?_⟩; gi_at_call 24; (with_reducible refine (CallsIn.inRound l (callsIn_wide.2 (hClF.out w5 hB5.out))).mono ?_); rintro e' w6 ⟨g6, c6, rfl, hg6, ho6, hb6⟩; have hG6 := Lib.hid hg6; have hO6 := Lib.hid ho6; have hB6 := Lib.hid hb6; have m1 := boxed_below hKx.out.1 hb6 hKx.out.1.lt; have m2 := boxed_below hKx.out.2.1 hb6 hKx.out.2.1.lt; have m3 := boxed_below hKx.out.2.2 hb6 hKx.out.2.2.lt; have e1 := m1.cell; have e2 := m2.cell; have e3 := m3.cell; have q1 := m1.frozen; have q2 := m2.frozen; have q3 := m3.frozen; have hMx := Lib.hid (And.intro m1 (And.intro m2 m3)); clear hg6 ho6 hb6 m1 m2 m3))
        obtain ⟨m1, m2, m3⟩ := hMx.out
        have hg6 := hG6.out
        have h56 := hB6.out
        have hbz : Below W.heap.size W w6 := hB5.out.trans (h56.mono hB5.out.size)
        have hs5 := hB5.out.size
        have hwj : Within w.heap.size (w.heap.size + 4) W (((w6.setCell ⟨S1, 0, none⟩ (.slice (some ⟨g6, 0, none⟩) n c6)).setCell ⟨S2, 0, none⟩ (.int .i64 (f x))).setCell ⟨S3, 0, none⟩ (.bool true)) :=
          (((Within.of_below (n₀ := w.heap.size) (B := w.heap.size + 4) (show w.heap.size ≤ W.heap.size by omega) hbz).set (p := ⟨S1, 0, none⟩) (show w.heap.size ≤ S1 by omega) (show S1 < w.heap.size + 4 by omega) _).set (p := ⟨S2, 0, none⟩) (show w.heap.size ≤ S2 by omega) (show S2 < w.heap.size + 4 by omega) _).set (p := ⟨S3, 0, none⟩) (show w.heap.size ≤ S3 by omega) (show S3 < w.heap.size + 4 by omega) _
        have hwk : Within w.heap.size W0.heap.size W (((w6.setCell ⟨S1, 0, none⟩ (.slice (some ⟨g6, 0, none⟩) n c6)).setCell ⟨S2, 0, none⟩ (.int .i64 (f x))).setCell ⟨S3, 0, none⟩ (.bool true)) := ⟨hwj.1, fun b hb hs => hwj.2 b (by omega) hs⟩
        refine ⟨hwk.from, hwj.keptC, ?_, ?_, hBw.out.trans hwj.1, Nat.le_trans hsw hwj.1.size⟩
        · rw [hLs.out, hlpH.out]; show LeastBox f rowL n _ S1 S2 S3 _ (some (if f x < f y then x else y)); rw [if_pos hXy.out]
          exact LeastBox.put m1 m2 m3 (by omega) (by omega) (by omega) (by omega) hO6.out (by omega)
        · exact boxed_apart (boxed_apart (boxed_apart (boxed_below hXb.out hbz (by omega)) (p := ⟨S1, 0, none⟩) (by show w.heap.size ≠ S1; omega) _) (p := ⟨S2, 0, none⟩) (by show w.heap.size ≠ S2; omega) _) (p := ⟨S3, 0, none⟩) (by show w.heap.size ≠ S3; omega) _
      · have hXy := Lib.hid hxy
        gi_wp2_with (refine ⟨trivial, ?_⟩; gi_at_call 26; (with_reducible refine (CallsIn.inRound l (callsIn_wide.2 hCs.out)).mono ?_); rintro e' w5 ⟨rfl, hb5⟩; have hB5 := Lib.hid hb5; have k1 := boxed_below hBx.out.1 hb5 l1; have k2 := boxed_below hBx.out.2.1 hb5 l2; have k3 := boxed_below hBx.out.2.2 hb5 l3; have d2 := k2.cell; have d3 := k3.cell; have hKx := Lib.hid (And.intro k1 (And.intro k2 k3)); clear hb5 k1 k2 k3)
        obtain ⟨k1, k2, k3⟩ := hKx.out
        have hwj : Within w.heap.size (w.heap.size + 4) W w5 := Within.of_below (n₀ := w.heap.size) (B := w.heap.size + 4) (show w.heap.size ≤ W.heap.size by omega) hB5.out
        have hwk : Within w.heap.size W0.heap.size W w5 := ⟨hwj.1, fun b hb hs => hwj.2 b (by omega) hs⟩
        refine ⟨hwk.from, hwj.keptC, ?_, boxed_below hXb.out hB5.out (by omega), hBw.out.trans hwj.1, Nat.le_trans hsw hwj.1.size⟩
        rw [hLs.out, hlpH.out]; show LeastBox f rowL n _ S1 S2 S3 _ (some (if f x < f y then x else y)); rw [if_neg (by have := hXy.out; omega)]
        exact ⟨gy, cy, hOy.out.1, k1, ownsRow_below hOy.out.2 hB5.out (ownsRow_lt hOy.out.2).2, k2, k3⟩
  case done =>
    rintro D ys W hD hys ⟨hl, hx, hbw, hsw⟩ hK
    have hPq := Lib.hid (fun e w' => hPo.out ys e w' hys)
    have hBw := Lib.hid hbw
    have hKh := Lib.hid hK
    clear hys hx hbw hK hPo
    cases hlp : leastG f ys with
    | none =>
      rw [hlp] at hl
      obtain ⟨b1, b2, b3⟩ := hl
      have c1 := b1.cell
      have c2 := b2.cell
      gi_wp2
      refine wpIn_wide.2 ?_
      go_quiet (fail)
      gi_wp2
      have hK9 : (W.drewN nq).heap[D]? = some (.deferred (some [])) := hKh.out
      refine ⟨by simp, .inl ⟨_, _, rfl, run_takeDeferred hK9, ?_⟩⟩
      refine ⟨.tuple #[.slice none 0 0, .int .i64 0], by simp [results, Try.f28, go_sem], hPq.out _ _ ?_ (.inl ⟨hlp, rfl⟩)⟩
      exact (Lst.Below.drewN hBw.out nq).trans (belowK_b (w := W0) (by omega) _ D _ _ hD hK9 rfl rfl)
    | some x =>
      rw [hlp] at hl
      obtain ⟨g, cc, hgg, b1, ho, b2, b3⟩ := hl
      have c1 := b1.cell
      have c2 := b2.cell
      have hO := Lib.hid ho
      clear ho b1 b2 b3
      gi_wp2
      refine wpIn_wide.2 ?_
      go_quiet (fail)
      gi_wp2
      have hK9 : (W.drewN nq).heap[D]? = some (.deferred (some [])) := hKh.out
      have hO9 : (W.drewN nq).ownsRow w.heap.size 2 1 (.slice (some ⟨g, 0, none⟩) n cc) n ((rowL x).map (Value.int .i64)) := ownsRow_mono (show (W.drewN nq).ownsRow (W0.heap.size + 2 + c) 2 1 (.slice (some ⟨g, 0, none⟩) n cc) n ((rowL x).map (Value.int .i64)) from hO.out) (by omega)
      refine ⟨by simp, .inl ⟨_, _, rfl, run_takeDeferred hK9, ?_⟩⟩
      refine ⟨.tuple #[.slice (some ⟨g, 0, none⟩) n cc, .int .i64 (f x)], by simp [results, Try.f28, go_sem], hPq.out _ _ ?_ (.inr ⟨x, g, cc, hlp, rfl, ownsRow_putObj hO9 _ hK9 rfl⟩)⟩
      exact (Lst.Below.drewN hBw.out nq).trans (belowK_b (w := W0) (by omega) _ D _ _ hD hK9 rfl rfl)
  case stop =>
    rintro D c pre W _ _ h _
    exact h.elim
set_option maxHeartbeats 8000000 in
set_option maxRecDepth 100000 in
theorem sumOfWaits_any (B P d k : Nat) (v vt : Value) (xs : List RuleD) (ca cb : Addr) (w : World) (hca : w.cell? ca = some (.int .i64 (P : Int))) (hcb : w.cell? cb = some v) (h : LstRule B w v xs) (hT : LstI B w vt (tabL P d k)) (hB : B ≤ w.heap.size) (h1 : 1 ≤ P) (h2 : P ≤ 60) (hlen : xs.length ≤ 32) (hok : ∀ (i : Nat) (x : RuleD), xs[i]? = some x → okRule ((d + 1 : Nat) : Int) (P : Int) x = true) :
    Calls Try.prog 26 #[vt, .pointer (some ca), .pointer (some cb)] w fun e w' => e = .returned (.int .i64 (waitSum P d xs k)) ∧ Below w.heap.size w w' := by
  have p1 : (1 : Int) ≤ (P : Int) := by omega
  have p60 : (P : Int) ≤ 60 := by omega
  have hTi := tabL_in (d := d) (k := k) h1
  have hTl : ((tabL P d k).length : Int) = ((d + 1 : Nat) : Int) := by rw [tabL_length]
  have hWi : Hid (∀ (i : Nat) (x : RuleD), xs[i]? = some x → 0 ≤ waitR P (tabL P d k) x ∧ waitR P (tabL P d k) x ≤ 120) := Lib.hid fun i x hx => by
    obtain ⟨_, _, _, ⟨l0, l1⟩, _⟩ := okRule_of (hok i x hx)
    have := remG_in (x := (tabL P d k).getD x.To.toNat 0 - (tabL P d k).getD x.From.toNat 0 - x.Least) p1
    unfold waitR
    omega
  have hWs : Hid (∀ i, waitsTo P (tabL P d k) xs (i + 1) = waitsTo P (tabL P d k) xs i + (match xs[i]? with | some x => waitR P (tabL P d k) x | none => 0)) := Lib.hid fun i => rfl
  have hWn : Hid (waitsTo P (tabL P d k) xs xs.length = waitSum P d xs k) := Lib.hid rfl
  have hW0 : waitsTo P (tabL P d k) xs 0 = 0 := rfl
  obtain ⟨a1, cap1, rfl, hl1, _, _, hc1⟩ := h.at_
  obtain ⟨a2, cap2, rfl, _⟩ := hT.at_
  have hTT := Lib.hid hT
  have hC := Lib.hid hc1
  have hOk := Lib.hid hok
  have hWb := Lib.hid (fun w' => waitBy_at (P : Int) a2 (tabL P d k).length cap2 w')
  have hOne := Lib.hid (fun (i : Nat) (x : RuleD) (pt pp : Addr) (W : World) (hx : xs[i]? = some x) (hb : Below w.heap.size w W) (q1 : W.cell? pt = some (.slice a2 (tabL P d k).length cap2)) (q2 : W.cell? pp = some (.int .i64 (P : Int))) => waitBy_one B ((d + 1 : Nat) : Int) (P : Int) x _ (tabL P d k) pt pp W q1 q2 (hTT.out.below hb hB) (Nat.le_trans hB hb.size) (hOk.out i x hx) hTl hTi p1 p60)
  have ba := World.block_lt_of_cell? w ca hca
  have bb := World.block_lt_of_cell? w cb hcb
  have bB := Lib.hid hB
  clear h hT hc1 hok hTi hTl p60
  generalize (tabL P d k).length = m at *
  generalize hTs : tabL P d k = ts at *
  clear hTs
  generalize waitSum P d xs k = res at *
  generalize hn : xs.length = n at *
  have hNx := Lib.hid hn
  clear hn
  unfold maxLen at hl1
  have hB2 : Below w.heap.size w ((w.alloc (.cells #[.int .i64 (P : Int)] 2)).alloc (.cells #[.slice a2 m cap2] 24)) := below_alloc (below_alloc (Below.refl _ _) _) _
  have y0 : ((w.alloc (.cells #[.int .i64 (P : Int)] 2)).alloc (.cells #[.slice a2 m cap2] 24)).cell? ⟨w.heap.size, 0, none⟩ = some (.int .i64 (P : Int)) := by simp
  have y1 : ((w.alloc (.cells #[.int .i64 (P : Int)] 2)).alloc (.cells #[.slice a2 m cap2] 24)).cell? ⟨w.heap.size + 1, 0, none⟩ = some (.slice a2 m cap2) := by simp
  have ys : ((w.alloc (.cells #[.int .i64 (P : Int)] 2)).alloc (.cells #[.slice a2 m cap2] 24)).heap.size = w.heap.size + 2 := by simp
  have hcb2 : ((w.alloc (.cells #[.int .i64 (P : Int)] 2)).alloc (.cells #[.slice a2 m cap2] 24)).cell? cb = some (.slice a1 n cap1) := (hB2.cell (p := cb) bb).trans hcb
  go_enter Try.func26, Try.ntmps26
  go_wp2_with (go_at_call 27; (with_reducible refine (hWb.out _).mono ?_); rintro e' w' ⟨rfl, rfl⟩)
  generalize ((w.alloc (.cells #[.int .i64 (P : Int)] 2)).alloc (.cells #[.slice a2 m cap2] 24)) = w0 at *
  have hB0 := Lib.hid hB2
  have hY := Lib.hid (And.intro y0 y1)
  have hYs : w.heap.size + 2 ≤ w0.heap.size := by omega
  clear hB2 y0 y1 ys hcb2 hca hcb
  go_loopw [6, 14] (fun sv cv wr => ∃ i : Nat, i ≤ n ∧ cv = .int .i64 (i : Nat) ∧ sv = .int .i64 (waitsTo P ts xs i) ∧ Hid (0 ≤ waitsTo P ts xs i ∧ waitsTo P ts xs i ≤ 120 * i) ∧ Hid (Below w0.heap.size w0 wr)) (fun _ cv _ => n - (intOf cv).toNat)
  case atStart => exact ⟨0, Nat.zero_le _, rfl, by rw [hW0], Lib.hid (by rw [hW0]; omega), Lib.hid (Below.refl _ _)⟩
  case round =>
    obtain ⟨i, hi, rfl, rfl, hWb2, hBw⟩ := hrel
    by_cases hin : i < n
    · have hin2 : (i : Int) < (n : Int) := by omega
      obtain ⟨b, o, x, rfl, hbB, hx, g0, g1, g2, g3⟩ := hC.out i hin
      have hXx := Lib.hid hx
      have hWx := hWi.out i x hx
      have hW2 : Hid (waitsTo P ts xs (i + 1) = waitsTo P ts xs i + waitR P ts x) := Lib.hid (by rw [hWs.out i, hx])
      have hBt := Lib.hid (hB0.out.trans (hBw.out.mono (by omega)))
      have hbw : b < w.heap.size := by have := bB.out; omega
      rw [← hBt.out.cell (p := ⟨b, o + i * 4, none⟩) hbw] at g0
      rw [← hBt.out.cell (p := ⟨b, o + i * 4 + 1, none⟩) hbw] at g1
      rw [← hBt.out.cell (p := ⟨b, o + i * 4 + 2, none⟩) hbw] at g2
      rw [← hBt.out.cell (p := ⟨b, o + i * 4 + 3, none⟩) hbw] at g3
      clear hx hbB
      have hsW := hBw.out.size
      have hWm := Whole.made wr 44 #[.int .i64 x.From, .int .i64 x.To, .int .i64 x.Least, .int .i64 x.Most] rfl
      have hBm := Lib.hid (below_alloc (Below.refl wr.heap.size wr) (.cells #[.int .i64 x.From, .int .i64 x.To, .int .i64 x.Least, .int .i64 x.Most] 44))
      have m0 := hWm.at_ (i := 0) rfl
      have m1 := hWm.at_ (i := 1) rfl
      have m2 := hWm.at_ (i := 2) rfl
      have m3 := hWm.at_ (i := 3) rfl
      have hJ := Lib.hid (hOne.out i x ⟨w.heap.size + 1, 0, none⟩ ⟨w.heap.size, 0, none⟩ (wr.alloc (.cells #[.int .i64 x.From, .int .i64 x.To, .int .i64 x.Least, .int .i64 x.Most] 44)) hXx.out (hBt.out.trans (hBm.out.mono (by omega))) ((hBm.out.cell (p := ⟨w.heap.size + 1, 0, none⟩) (show w.heap.size + 1 < wr.heap.size by omega)).trans ((hBw.out.cell (p := ⟨w.heap.size + 1, 0, none⟩) (show w.heap.size + 1 < w0.heap.size by omega)).trans hY.out.2)) ((hBm.out.cell (p := ⟨w.heap.size, 0, none⟩) (show w.heap.size < wr.heap.size by omega)).trans ((hBw.out.cell (p := ⟨w.heap.size, 0, none⟩) (show w.heap.size < w0.heap.size by omega)).trans hY.out.1)))
      clear hWm
      have hWb3 := hWb2.out
      generalize waitR P ts x = wa at *
      obtain ⟨s0, hS0⟩ : ∃ s0, s0 = waitsTo P ts xs i := ⟨_, rfl⟩
      rw [← hS0] at hWb3 hW2 ⊢
      have hwr : IntKind.i64.wrap (s0 + wa) = s0 + wa := IntWalk.i64_in _ (by omega)
      clear hS0 hWb2
      generalize x.From = x1 at *
      generalize x.To = x2 at *
      generalize x.Least = x3 at *
      generalize x.Most = x4 at *
      go_wp2_with (go_at_call 38; (with_reducible refine (hJ.out).mono ?_); rintro e' w' ⟨rfl, hb9⟩; have hB9 := Lib.hid hb9; clear hb9)
      go_roundw
      case rel => exact ⟨i + 1, by omega, by go_num, by rw [hW2.out], Lib.hid (by rw [hW2.out]; omega), Lib.hid (hBw.out.trans ((hBm.out.mono (by omega)).trans (hB9.out.mono (by have := hBm.out.size; omega))))⟩
      case measure => simp [intOf]; omega
    · obtain rfl : i = n := by omega
      have hin2 : ¬ (i : Int) < (i : Int) := by omega
      rw [hWn.out]
      go_wp2_with fail
      go_ret
      exact ⟨rfl, hB0.out.trans (hBw.out.mono (by omega))⟩
set_option maxHeartbeats 4000000 in
theorem implBest_no (B : Nat) (e p : Int) (v : Value) (xs : List RuleD) (w : World) (h : LstRule B w v xs) (hB : B ≤ w.heap.size) (hq : okTab e xs p = false) : Calls Try.prog 18 #[.int .i64 e, v, .int .i64 p] w (BestPost e xs p w) := by
  obtain ⟨a, cap, rfl, _⟩ := h.at_
  have hb0 : Below w.heap.size w ((w.alloc (.cells #[.slice a xs.length cap] 27)).alloc (.cells #[.int .i64 p] 2)) := below_alloc (below_alloc (Below.refl _ _) _) _
  have hA := Lib.hid (areForTables_any B e p _ xs _ (h.below hb0 hB) (Nat.le_trans hB hb0.size))
  have hN : Hid (∀ w', Below w.heap.size w w' → BestPost e xs p w (.returned (.tuple #[.slice none 0 0, .int .i64 0, .bool false])) w') := Lib.hid fun w' hb => best_none (bestTab_no hq) hb
  rw [hq] at hA
  generalize BestPost e xs p w = Q at *
  generalize xs.length = n at *
  have y0 : ((w.alloc (.cells #[.slice a n cap] 27)).alloc (.cells #[.int .i64 p] 2)).cell? ⟨w.heap.size, 0, none⟩ = some (.slice a n cap) := by simp
  have y1 : ((w.alloc (.cells #[.slice a n cap] 27)).alloc (.cells #[.int .i64 p] 2)).cell? ⟨w.heap.size + 1, 0, none⟩ = some (.int .i64 p) := by simp
  have hB0 := Lib.hid hb0
  clear hq hb0 h
  go_enter Try.func18, Try.ntmps18
  go_wp2_with (go_at_call 22; (with_reducible refine (hA.out).mono ?_); rintro e' w1 ⟨rfl, hb1⟩; have hB1 := Lib.hid hb1; clear hb1)
  go_ret3
  exact hN.out _ (hB0.out.trans (hB1.out.mono hB0.out.size))
set_option maxHeartbeats 8000000 in
set_option maxRecDepth 100000 in
theorem implBest_run (B P d : Nat) (v : Value) (xs : List RuleD) (w : World) (h : LstRule B w v xs) (hB : B ≤ w.heap.size) (hq : okTab ((d + 1 : Nat) : Int) xs (P : Int) = true) (h1 : 1 ≤ P) (h2 : P ≤ 60) (hd : d ≤ 11) (hN : P ^ d ≤ 4096) (hka : keptAll ((d + 1 : Nat) : Int) xs (P : Int) = keptTo P d xs (P ^ d)) (hok : ∀ (i : Nat) (x : RuleD), xs[i]? = some x → okRule ((d + 1 : Nat) : Int) (P : Int) x = true) (hlen : xs.length ≤ 32) :
    Calls Try.prog 18 #[.int .i64 ((d + 1 : Nat) : Int), v, .int .i64 (P : Int)] w (BestPost ((d + 1 : Nat) : Int) xs (P : Int) w) := by
  obtain ⟨a, cap, rfl, _⟩ := h.at_
  have hb0 : Below w.heap.size w ((w.alloc (.cells #[.slice a xs.length cap] 27)).alloc (.cells #[.int .i64 (P : Int)] 2)) := below_alloc (below_alloc (Below.refl _ _) _) _
  have hA := Lib.hid (areForTables_any B ((d + 1 : Nat) : Int) (P : Int) _ xs _ (h.below hb0 hB) (Nat.le_trans hB hb0.size))
  rw [hq] at hA
  have hBt : ∀ ys : List TabV, ys.map (·.2) = keptTo P d xs (P ^ d) → bestTab ((d + 1 : Nat) : Int) xs (P : Int) = (leastG (fun x : TabV => waitSum P d xs x.2) ys).map (·.2) := fun ys hys => by
    rw [leastG_map (α := TabV) (fun x => x.2) (fun x => waitSum P d xs x.2) (waitSum P d xs) (fun _ => rfl) ys, hys]
    unfold bestTab
    rw [hq, if_pos rfl, hka, Int.toNat_natCast, Int.toNat_natCast, show d + 1 - 1 = d by omega]
    cases keptTo P d xs (P ^ d) <;> rfl
  have hPn : Hid (∀ ys : List TabV, ys.map (·.2) = keptTo P d xs (P ^ d) → leastG (fun x : TabV => waitSum P d xs x.2) ys = none → ∀ w', Below w.heap.size w w' → BestPost ((d + 1 : Nat) : Int) xs (P : Int) w (.returned (.tuple #[.slice none 0 0, .int .i64 0, .bool false])) w') := Lib.hid fun ys hys hl w' hb => best_none (by rw [hBt ys hys, hl]; rfl) hb
  have hPy : Hid (∀ (ys : List TabV) (x : TabV) (g c A : Nat) w', ys.map (·.2) = keptTo P d xs (P ^ d) → leastG (fun x : TabV => waitSum P d xs x.2) ys = some x → w.heap.size ≤ A → w'.ownsRow A 2 1 (.slice (some ⟨g, 0, none⟩) (d + 1) c) (d + 1) ((tabL P d x.2).map (Value.int .i64)) → Below w.heap.size w w' → BestPost ((d + 1 : Nat) : Int) xs (P : Int) w (.returned (.tuple #[.slice (some ⟨g, 0, none⟩) (d + 1) c, .int .i64 (waitSum P d xs x.2), .bool true])) w') := Lib.hid fun ys x g c A w' hys hl hA ho hb => by
    have hs : bestTab ((d + 1 : Nat) : Int) xs (P : Int) = some x.2 := by rw [hBt ys hys, hl]; rfl
    unfold BestPost bestSum; rw [hs]
    have ht2 : tabOf ((d + 1 : Nat) : Int) (P : Int) (some x.2) = tabL P d x.2 := by unfold tabOf; rw [Int.toNat_natCast, Int.toNat_natCast, show d + 1 - 1 = d by omega]
    rw [ht2, Int.toNat_natCast, Int.toNat_natCast, show d + 1 - 1 = d by omega]
    exact ⟨_, rfl, by rw [tabL_length]; exact (Lst.Own.new ho (by unfold maxLen; omega)).mono hA (Nat.le_refl _), hb⟩
  have hKt := Lib.hid (fun w' => keptTables_any ((d + 1 : Nat) : Int) (P : Int) a xs.length cap w')
  have hLr := Lib.hid h
  have y0 : ((w.alloc (.cells #[.slice a xs.length cap] 27)).alloc (.cells #[.int .i64 (P : Int)] 2)).cell? ⟨w.heap.size, 0, none⟩ = some (.slice a xs.length cap) := by simp
  have y1 : ((w.alloc (.cells #[.slice a xs.length cap] 27)).alloc (.cells #[.int .i64 (P : Int)] 2)).cell? ⟨w.heap.size + 1, 0, none⟩ = some (.int .i64 (P : Int)) := by simp
  have hs0 : ((w.alloc (.cells #[.slice a xs.length cap] 27)).alloc (.cells #[.int .i64 (P : Int)] 2)).heap.size = w.heap.size + 2 := by simp
  have hB0 := Lib.hid hb0
  -- what firstLeast does behind the iterator
  have hFl : Hid (∀ wk : World, Below w.heap.size w wk → wk.cell? ⟨w.heap.size, 0, none⟩ = some (.slice a xs.length cap) → wk.cell? ⟨w.heap.size + 1, 0, none⟩ = some (.int .i64 (P : Int)) → w.heap.size + 2 ≤ wk.heap.size →
      Calls Try.prog 28 #[.func (.func 35) #[] #[.pointer (some ⟨wk.heap.size, 0, none⟩), .pointer (some ⟨wk.heap.size + 2, 0, none⟩), .pointer (some ⟨wk.heap.size + 1, 0, none⟩)], .func (.func 26) #[] #[.pointer (some ⟨w.heap.size + 1, 0, none⟩), .pointer (some ⟨w.heap.size, 0, none⟩)]]
        (((wk.alloc (.cells #[.int .i64 ((d + 1 : Nat) : Int)] 2)).alloc (.cells #[.slice a xs.length cap] 27)).alloc (.cells #[.int .i64 (P : Int)] 2))
        (LeastPost (fun x : TabV => waitSum P d xs x.2) (fun x => tabL P d x.2) (d + 1) (fun ys => ys.map (·.2) = keptTo P d xs (P ^ d)) (((wk.alloc (.cells #[.int .i64 ((d + 1 : Nat) : Int)] 2)).alloc (.cells #[.slice a xs.length cap] 27)).alloc (.cells #[.int .i64 (P : Int)] 2)))) := Lib.hid fun wk hbk z0 z1 hsz => by
    have q1 := (((Boxed.new wk 2 (.int .i64 ((d + 1 : Nat) : Int))).alloc (.cells #[.slice a xs.length cap] 27)).alloc (.cells #[.int .i64 (P : Int)] 2)).cell
    have q2 := ((Boxed.new (wk.alloc (.cells #[.int .i64 ((d + 1 : Nat) : Int)] 2)) 27 (.slice a xs.length cap)).alloc (.cells #[.int .i64 (P : Int)] 2)).cell
    have q3 := (Boxed.new ((wk.alloc (.cells #[.int .i64 ((d + 1 : Nat) : Int)] 2)).alloc (.cells #[.slice a xs.length cap] 27)) 2 (.int .i64 (P : Int))).cell
    rw [World.size_alloc] at q2
    rw [World.size_alloc, World.size_alloc] at q3
    have hBq : Below wk.heap.size wk (((wk.alloc (.cells #[.int .i64 ((d + 1 : Nat) : Int)] 2)).alloc (.cells #[.slice a xs.length cap] 27)).alloc (.cells #[.int .i64 (P : Int)] 2)) := below_alloc (below_alloc (below_alloc (Below.refl _ _) _) _) _
    have hsq : wk.heap.size + 3 = (((wk.alloc (.cells #[.int .i64 ((d + 1 : Nat) : Int)] 2)).alloc (.cells #[.slice a xs.length cap] 27)).alloc (.cells #[.int .i64 (P : Int)] 2)).heap.size := by simp
    generalize (((wk.alloc (.cells #[.int .i64 ((d + 1 : Nat) : Int)] 2)).alloc (.cells #[.slice a xs.length cap] 27)).alloc (.cells #[.int .i64 (P : Int)] 2)) = W at *
    have hLW : LstRule W.heap.size W (.slice a xs.length cap) xs := ((hLr.out.below (hbk.trans (hBq.mono hbk.size)) hB).mono (by omega))
    have u0 : W.cell? ⟨w.heap.size, 0, none⟩ = some (.slice a xs.length cap) := (hBq.cell (p := ⟨w.heap.size, 0, none⟩) (show w.heap.size < wk.heap.size by omega)).trans z0
    have u1 : W.cell? ⟨w.heap.size + 1, 0, none⟩ = some (.int .i64 (P : Int)) := (hBq.cell (p := ⟨w.heap.size + 1, 0, none⟩) (show w.heap.size + 1 < wk.heap.size by omega)).trans z1
    refine firstLeast_any 35 _ _ _ (fun x : TabV => x.1) (fun x => tabL P d x.2) (fun x => waitSum P d xs x.2) (d + 1) (by omega) (by omega) (TabLt (W.heap.size + 4) P d) (fun ys => ys.map (·.2) = keptTo P d xs (P ^ d)) (fun pre => pre.map (·.2) <+: keptTo P d xs (P ^ d)) (P ^ d) 1 W (fun x => tabL_length _ _ _) (fun x W' hx => ⟨_, hx.2⟩) (fun B x => TabLt.own B x) (enters_of Try.func35 (by kernel_rfl) rfl) ?_ ?_
    · intro w0 hb hs
      exact kept_stops 4 wk.heap.size (wk.heap.size + 2) (wk.heap.size + 1) W.heap.size (W.heap.size + 4) P d _ xs h1 h2 hd hN (by omega) hok w0 ((hb.cell (p := ⟨wk.heap.size, 0, none⟩) (show wk.heap.size < W.heap.size by omega)).trans q1) ((hb.cell (p := ⟨wk.heap.size + 2, 0, none⟩) (show wk.heap.size + 2 < W.heap.size by omega)).trans q3) ((hb.cell (p := ⟨wk.heap.size + 1, 0, none⟩) (show wk.heap.size + 1 < W.heap.size by omega)).trans q2) (hLW.below hb (Nat.le_refl _)) hs (.inl (by omega)) (.inl (by omega)) (by omega)
    · intro x W' hb hx
      have hxs := (hx.2.lt _ rfl).2
      have hTW : LstI W'.heap.size W' (.slice (some ⟨x.1, 0, none⟩) (d + 1) (d + 1)) (tabL P d x.2) := by
        have h2 : Lst.Own (W.heap.size + 4) W'.heap.size W' (.slice (some ⟨x.1, 0, none⟩) (d + 1) (d + 1)) 2 1 (tabL P d x.2).length ((tabL P d x.2).map (Value.int .i64)) := by rw [tabL_length]; exact Lst.Own.new hx.2 (by unfold maxLen; omega)
        exact h2.lstI (Nat.le_refl _)
      exact sumOfWaits_any W'.heap.size P d x.2 _ _ xs _ _ W' ((hb.cell (p := ⟨w.heap.size + 1, 0, none⟩) (show w.heap.size + 1 < W.heap.size by omega)).trans u1) ((hb.cell (p := ⟨w.heap.size, 0, none⟩) (show w.heap.size < W.heap.size by omega)).trans u0) ((hLW.below hb (Nat.le_refl _)).mono hb.size) hTW (Nat.le_refl _) h1 h2 hlen hok
  generalize BestPost ((d + 1 : Nat) : Int) xs (P : Int) w = Q at *
  have hd1 : ((d + 1 : Nat) : Int) = (d : Int) + 1 := by omega
  clear hq hka hb0 hBt h hok hlen
  rw [hd1] at hA hKt hFl ⊢
  go_enter Try.func18, Try.ntmps18
  go_wp2_with fail
  generalize ((w.alloc (.cells #[.slice a xs.length cap] 27)).alloc (.cells #[.int .i64 (P : Int)] 2)) = w0 at *
  with_reducible refine (hA.out).mono ?_
  rintro e' w1 ⟨rfl, hb1⟩
  have z0 := (hb1.cell (p := ⟨w.heap.size, 0, none⟩) (show w.heap.size < w0.heap.size by omega)).trans y0
  have z1 := (hb1.cell (p := ⟨w.heap.size + 1, 0, none⟩) (show w.heap.size + 1 < w0.heap.size by omega)).trans y1
  have hB1 := Lib.hid (hB0.out.trans (hb1.mono hB0.out.size))
  have hs1 : w.heap.size + 2 ≤ w1.heap.size := by have := hb1.size; omega
  have hF := Lib.hid (hFl.out w1 hB1.out z0 z1 hs1)
  clear hb1 y0 y1 hs0 hA hFl
  go_wp2_with (go_at_call 23; (with_reducible refine (hKt.out _).mono ?_); rintro e' w' ⟨rfl, rfl⟩)
  have hBq : Below w1.heap.size w1 (((w1.alloc (.cells #[.int .i64 ((d : Int) + 1)] 2)).alloc (.cells #[.slice a xs.length cap] 27)).alloc (.cells #[.int .i64 (P : Int)] 2)) := below_alloc (below_alloc (below_alloc (Below.refl _ _) _) _) _
  with_reducible refine (hF.out).mono ?_
  rintro e' w5 ⟨ys, hys, hb5, hE⟩
  have hB5 := Lib.hid ((hB1.out.trans (hBq.mono hB1.out.size)).trans (hb5.mono (Nat.le_trans hB1.out.size hBq.size)))
  have hSz := Lib.hid (Nat.le_trans hB1.out.size hBq.size)
  clear hBq hb5 hF
  rcases hE with ⟨hl, rfl⟩ | ⟨x, g, c, hl, rfl, ho⟩
  · have hz := Lib.hid (hPn.out ys hys hl w5 hB5.out)
    clear hys hl
    go_wp2_with fail
    go_ret3
    exact hz.out
  · have hz := Lib.hid (hPy.out ys x g c _ w5 hys hl hSz.out ho hB5.out)
    clear hys hl ho
    go_wp2_with fail
    go_ret3
    exact hz.out
theorem implBest_any (B : Nat) (e p : Int) (v : Value) (xs : List RuleD) (w : World) (h : LstRule B w v xs) (hB : B ≤ w.heap.size) : Calls Try.prog 18 #[.int .i64 e, v, .int .i64 p] w (BestPost e xs p w) := by
  cases hq : okTab e xs p
  · exact implBest_no B e p v xs w h hB hq
  · have hlen := (areRules_of (okTab_of hq).1).2.2.1
    obtain ⟨d, P, rfl, rfl, hd, h1, h2, hN, hka, _, _, hok⟩ := tab_facts hq
    exact implBest_run B P d v xs w h hB hq h1 h2 hd hN hka hok hlen
end Go.Proofs.Ytncbjdkidkklgaa
