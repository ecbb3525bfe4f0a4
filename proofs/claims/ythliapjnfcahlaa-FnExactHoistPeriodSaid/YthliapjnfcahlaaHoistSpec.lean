/- Contracts: the least period of a hoist, in the model. -/
import Derived.Test.YthliapjnfcahlaaHoist
namespace Go.Proofs.Ythliapjnfcahlaa
open Go.RowKit Go.Lst

theorem infoBo : (Try.prog.info? 4).map (fun i => (i.zero, i.size, i.bytes)) = some (some (.bool false), 1, 1) := by kernel_rfl
theorem cells_of {B : Nat} {w : World} {v : Value} {xs : List Int} (h : LstI B w v xs) (h1 : 1 ≤ xs.length) : ∃ b o cap, v = .slice (some ⟨b, o, none⟩) xs.length cap ∧ b < B ∧ xs.length ≤ maxLen ∧ ∀ (k : Nat) (x : Int), xs[k]? = some x → w.cell? ⟨b, o + k, none⟩ = some (.int .i64 x) := by
  obtain ⟨a, cap, rfl, hl, _, _, hc⟩ := h.at_
  obtain ⟨b, o, x0, rfl, hb, _, _⟩ := hc 0 (by omega)
  refine ⟨b, o, cap, rfl, hb, hl, fun k x hx => ?_⟩
  have hk : k < xs.length := (List.getElem?_eq_some_iff.1 hx).1
  obtain ⟨b', o', x', he, _, hx', hcell⟩ := hc k hk
  injection he with he
  injection he with e1 e2 _
  subst e1 e2
  rw [hx] at hx'
  obtain rfl := Option.some.inj hx'
  exact hcell
theorem row_bit {w : World} {A g n cap : Nat} {e : TypeId} {bs : List Bool} (h : w.ownsRow A e 1 (.slice (some ⟨g, 0, none⟩) n cap) n (bs.map Value.bool)) (hl : bs.length = n) {k : Nat} (hk : k < n) : w.cell? ⟨g, k, none⟩ = some (.bool (bs.getD k false)) := by
  rw [h.cellAt k (by omega), List.getElem?_map, List.getElem?_eq_getElem (by omega), List.getD_eq_getElem?_getD, List.getElem?_eq_getElem (by omega)]; rfl
theorem row_setB {w : World} {A g n cap : Nat} {e : TypeId} {bs : List Bool} (h : w.ownsRow A e 1 (.slice (some ⟨g, 0, none⟩) n cap) n (bs.map Value.bool)) (k : Nat) (x : Bool) : (w.setCell ⟨g, k, none⟩ (.bool x)).ownsRow A e 1 (.slice (some ⟨g, 0, none⟩) n cap) n ((bs.set k x).map Value.bool) := by
  have := (h.stored k (.bool x)).1
  rwa [← List.map_set] at this
theorem zerosB_row {w0 : World} {B g n : Nat} (h : w0.ownsRow B 4 1 (.slice (some ⟨g, 0, none⟩) n n) n (madeCells #[Value.bool false] n).toList) :
    w0.ownsRow B 4 1 (.slice (some ⟨g, 0, none⟩) n n) n ((List.replicate n false).map Value.bool) := by
  rw [toList_madeCells_one] at h
  rw [List.map_replicate]
  exact h
def underTo (ss : List Int) (P : Nat) : Nat → Bool
  | 0 => true
  | k + 1 => underTo ss P k && decide (ss.getD k 0 ≤ (P : Int))
theorem underTo_all {ss : List Int} {P : Nat} : underTo ss P ss.length = allUnder ss P := by
  have h : ∀ k, k ≤ ss.length → (underTo ss P k = true ↔ ∀ i, i < k → ss.getD i 0 ≤ (P : Int)) := fun k => by
    induction k with
    | zero => intro _; exact ⟨fun _ i hi => by omega, fun _ => rfl⟩
    | succ k ih =>
      intro hk
      show ((underTo ss P k && decide (ss.getD k 0 ≤ (P : Int))) = true) ↔ _
      rw [Bool.and_eq_true, ih (by omega), decide_eq_true_eq]
      constructor
      · rintro ⟨h1, h2⟩ i hi
        by_cases e : i = k
        · subst e; exact h2
        · exact h1 i (by omega)
      · exact fun h => ⟨fun i hi => h i (by omega), h k (by omega)⟩
  rw [Bool.eq_iff_iff, h _ (Nat.le_refl _)]
  unfold allUnder
  rw [List.all_eq_true]
  constructor
  · intro h1 x hx
    obtain ⟨i, hi, rfl⟩ := List.mem_iff_getElem.1 hx
    have := h1 i hi
    rw [getD_of (List.getElem?_eq_getElem hi)] at this
    simpa using this
  · intro h1 i hi
    have e : ss[i]? = some ss[i] := List.getElem?_eq_getElem _
    rw [getD_of e]
    simpa using h1 _ (List.getElem_mem hi)
/-- What holds at the time x of the move i: f says whether all is well so far, bs which remainders are taken. -/
def At (ss ms : List Int) (P i x : Nat) (f : Bool) (bs : List Bool) : Prop :=
  bs.length = P ∧ (f = true → allUnder ss P = true ∧ NC (bgn ss ms) (mov ms) P i x ∧ ∀ r, r < P → (bs.getD r false = true ↔ Occ (bgn ss ms) (mov ms) P i x r)) ∧ (f = false → goodP ss ms P = false)
theorem at_start {ss ms : List Int} {P : Nat} : At ss ms P 0 0 (allUnder ss P) (List.replicate P false) := by
  refine ⟨List.length_replicate, fun h => ⟨h, nc_zero _ _ _, fun r hr => ?_⟩, fun h => by unfold goodP; rw [h, Bool.false_and]⟩
  rw [List.getD_eq_getElem?_getD, List.getElem?_replicate, if_pos hr]
  simp only [Option.getD_some]
  exact ⟨(fun h => by cases h), fun h => (occ_zero _ _ _ _ h).elim⟩
theorem at_next {ss ms : List Int} {P i : Nat} {f : Bool} {bs : List Bool} {x : Nat} (h : At ss ms P i x f bs) (hx : f = true → x = mov ms i) : At ss ms P (i + 1) 0 f bs := by
  obtain ⟨h1, h2, h3⟩ := h
  refine ⟨h1, fun hf => ?_, h3⟩
  obtain ⟨a, b, c⟩ := h2 hf
  have := hx hf
  subst this
  exact ⟨a, nc_next b, fun r hr => (c r hr).trans occ_next.symm⟩
theorem at_skip {ss ms : List Int} {P i : Nat} {bs : List Bool} {x : Nat} (h : At ss ms P i x false bs) (i' x' : Nat) : At ss ms P i' x' false bs := ⟨h.1, (fun hf => by cases hf), h.2.2⟩
theorem at_step {ss ms : List Int} {P i x : Nat} {bs : List Bool} (h : At ss ms P i x true bs) (hP : 1 ≤ P) (hg : goodP ss ms P = true → NC (bgn ss ms) (mov ms) P ms.length 0) (hi : i < ms.length) (hx : x < mov ms i) :
    At ss ms P i (x + 1) (!bs.getD ((bgn ss ms i + x) % P) false) (bs.set ((bgn ss ms i + x) % P) true) := by
  obtain ⟨h1, h2, h3⟩ := h
  obtain ⟨a, b, c⟩ := h2 rfl
  have hr := Nat.mod_lt (bgn ss ms i + x) (show 0 < P by omega)
  have hc := c _ hr
  refine ⟨by rw [List.length_set]; exact h1, fun hf => ?_, fun hf => ?_⟩
  · have hno : ¬ Occ (bgn ss ms) (mov ms) P i x ((bgn ss ms i + x) % P) := fun ho => by
      rw [hc.2 ho] at hf; cases hf
    refine ⟨a, nc_step b hno, fun r hr2 => ?_⟩
    rw [occ_step, ← c r hr2]
    by_cases e : r = (bgn ss ms i + x) % P
    · subst e
      rw [List.getD_eq_getElem?_getD, List.getElem?_set_self (by omega)]
      simp
    · rw [List.getD_eq_getElem?_getD, List.getElem?_set_ne (by omega), ← List.getD_eq_getElem?_getD]
      exact ⟨.inl, fun h => h.elim id fun h => (e h).elim⟩
  · have ho : Occ (bgn ss ms) (mov ms) P i x ((bgn ss ms i + x) % P) := hc.1 (by simpa using hf)
    cases hgd : goodP ss ms P
    · rfl
    · exact (nc_bad hi hx ho (hg hgd)).elim
theorem at_end {ss ms : List Int} {P : Nat} {f : Bool} {bs : List Bool} (h : At ss ms P ms.length 0 f bs) (hn : NC (bgn ss ms) (mov ms) P ms.length 0 ↔ apartAll (bgn ss ms) (mov ms) P ms.length = true) : goodP ss ms P = f := by
  obtain ⟨_, h2, h3⟩ := h
  cases f
  · exact h3 rfl
  · obtain ⟨a, b, _⟩ := h2 rfl
    unfold goodP
    rw [a, hn.1 b]; rfl
theorem good_nc {ss ms : List Int} {P : Nat} (hn : NC (bgn ss ms) (mov ms) P ms.length 0 ↔ apartAll (bgn ss ms) (mov ms) P ms.length = true) (h : goodP ss ms P = true) : NC (bgn ss ms) (mov ms) P ms.length 0 := by
  unfold goodP at h
  rw [Bool.and_eq_true] at h
  exact hn.2 h.2

theorem row_lstI' {w : World} {A n : Nat} {v : Value} {l : List Int} (ho : w.ownsRow A 2 1 v n (l.map (Value.int .i64))) (hl : l.length = n) (hn : n ≤ 1048576) : LstI w.heap.size w v l := by
  subst hl
  exact (Own.new ho (by unfold maxLen; omega)).lstI (Nat.le_refl _)
set_option maxHeartbeats 8000000 in
set_option maxRecDepth 100000 in
theorem specHoist_any (B : Nat) (v1 v2 : Value) (ss ms : List Int) (most : Int) (w : World) (h1 : LstI B w v1 ss) (h2 : LstI B w v2 ms) (hB : B ≤ w.heap.size) :
    Calls Try.prog 48 #[v1, v2, .int .i64 most] w (HoistPost ss ms most w) := by
  have hA := Lib.hid (l05Runs_any B v1 ss w h1)
  cases hs : okRuns ss
  · rw [hs] at hA
    have hP := Lib.hid (hpost (ss := ss) (ms := ms) (most := most) (w := w) (w' := w) (hoist_no (by simp [canHoist, hs])) (Below.refl _ _))
    generalize HoistPost ss ms most w = Q at *
    obtain ⟨a1, cap1, rfl, hl1, _⟩ := h1.at_
    obtain ⟨a2, cap2, rfl, hl2, _⟩ := h2.at_
    clear h1 h2 hs
    generalize ss.length = n at *
    generalize ms.length = m at *
    unfold maxLen at hl1 hl2
    go_enter Try.func48, Try.ntmps48
    go_wp2_with (go_at_call 80; (with_reducible refine (hA.out).mono ?_); rintro e w' ⟨rfl, rfl⟩)
    first | exact hP.out | (go_ret2; exact hP.out)
  rw [hs] at hA
  obtain ⟨n1, n12, _⟩ := okRuns_of hs
  by_cases hl : ms.length = ss.length + 1
  case neg =>
    have hP := Lib.hid (hpost (ss := ss) (ms := ms) (most := most) (w := w) (w' := w) (hoist_no (by simp [canHoist, hl])) (Below.refl _ _))
    generalize HoistPost ss ms most w = Q at *
    obtain ⟨a1, cap1, rfl, hl1, _⟩ := h1.at_
    obtain ⟨a2, cap2, rfl, hl2, _⟩ := h2.at_
    clear h1 h2 hs
    have hb : ((ms.length : Int) != (ss.length : Int) + 1) = true := by rw [bne_iff_ne]; omega
    generalize ss.length = n at *
    generalize ms.length = m at *
    unfold maxLen at hl1 hl2
    clear hl
    go_enter Try.func48, Try.ntmps48
    go_wp2_with (go_at_call 80; (with_reducible refine (hA.out).mono ?_); rintro e w' ⟨rfl, rfl⟩)
    first | exact hP.out | (go_ret2; exact hP.out)
  cases hmo : inB most 1 10000
  · have hP := Lib.hid (hpost (ss := ss) (ms := ms) (most := most) (w := w) (w' := w) (hoist_no (by simp [canHoist, hmo])) (Below.refl _ _))
    generalize HoistPost ss ms most w = Q at *
    obtain ⟨a1, cap1, rfl, hl1, _⟩ := h1.at_
    obtain ⟨a2, cap2, rfl, hl2, _⟩ := h2.at_
    clear h1 h2 hs
    have hb : ((ms.length : Int) != (ss.length : Int) + 1) = false := by rw [bne_eq_false_iff_eq]; omega
    generalize ss.length = n at *
    generalize ms.length = m at *
    unfold maxLen at hl1 hl2
    subst hl
    go_enter Try.func48, Try.ntmps48
    go_wp2_with (first | (go_at_call 80; (with_reducible refine (hA.out).mono ?_); rintro e w' ⟨rfl, rfl⟩) | (go_at_call 72; refine (l00In_any _ _ _ _).mono ?_; rintro e w' ⟨rfl, rfl⟩))
    first | exact hP.out | (go_ret2; exact hP.out)
  obtain ⟨M, rfl⟩ := Int.eq_ofNat_of_zero_le (show 0 ≤ most by have := (inB_true hmo).1; omega)
  have hM1 := (inB_true hmo).1
  have hM2 := (inB_true hmo).2
  have hCan : canHoist ss ms M = allIn ms 1 100 := by unfold canHoist; rw [hs, decide_eq_true hl, hmo, Bool.true_and, Bool.true_and, Bool.and_true]
  have hBadMove : Hid (∀ (i : Nat) (x : Int) (w' : World), ms[i]? = some x → inB x 1 100 = false → Below w.heap.size w w' → HoistPost ss ms M w (.returned (.tuple #[.int .i64 0, .bool false])) w') := Lib.hid fun i x w' hx hq hb => hpost (hoist_no (by rw [hCan]; exact all_not hx hq)) hb
  have hFound : Hid (allIn ms 1 100 = true → ∀ (P : Nat) (w' : World), 1 ≤ P → P ≤ M → goodP ss ms P = true → (∀ P', 1 ≤ P' → P' < P → goodP ss ms P' = false) → Below w.heap.size w w' → HoistPost ss ms M w (.returned (.tuple #[.int .i64 P, .bool true])) w') := Lib.hid fun ha P w' a b c d hb => hpost (hoist_found (by rw [hCan]; exact ha) a b c d) hb
  have hNone : Hid (∀ (w' : World), (∀ P, 1 ≤ P → P ≤ M → goodP ss ms P = false) → Below w.heap.size w w' → HoistPost ss ms M w (.returned (.tuple #[.int .i64 0, .bool false])) w') := Lib.hid fun w' a hb => hpost (hoist_none a) hb
  have hSoak : Hid (∀ i, i < ss.length → ss[i]? = some (((ss.getD i 0).toNat : Nat) : Int) ∧ (ss.getD i 0).toNat ≤ 1000 ∧ ss.getD i 0 = (((ss.getD i 0).toNat : Nat) : Int)) := Lib.hid fun i hi => ⟨(soak_in hs hi).1, (soak_in hs hi).2, getD_of (soak_in hs hi).1⟩
  have hMov0 : Hid (∀ (i : Nat) (x : Int), ms[i]? = some x → inB x 1 100 = true → x = ((mov ms i : Nat) : Int) ∧ mov ms i ≤ 100) := Lib.hid fun i x hx hq => by
    have := inB_true hq
    unfold mov
    rw [getD_of hx]
    omega
  have hAllM : Hid (∀ k, k = ss.length + 1 → (∀ (i : Nat) (x : Int), i < k → ms[i]? = some x → inB x 1 100 = true) → allIn ms 1 100 = true) := Lib.hid fun k hk hp => all_upto fun i x hi hx => hp i x (by omega) hx
  have hLate : Hid (allIn ms 1 100 = true → (∀ i, i < ss.length + 1 → ms[i]? = some ((mov ms i : Nat) : Int) ∧ 1 ≤ mov ms i ∧ mov ms i ≤ 100) ∧ (∀ i, i ≤ ss.length → bgn ss ms i ≤ 1100 * i) ∧ (∀ P, 1 ≤ P → (NC (bgn ss ms) (mov ms) P (ss.length + 1) 0 ↔ apartAll (bgn ss ms) (mov ms) P (ss.length + 1) = true))) := Lib.hid fun hm =>
    ⟨fun i hi => ⟨(mov_in hm (by omega)).2.2, (mov_in hm (by omega)).1, (mov_in hm (by omega)).2.1⟩, bgn_bound hs hm hl, fun P hP => by rw [← hl]; exact nc_good hs hm hl hP⟩
  have hStep : Hid (∀ i, bgn ss ms (i + 1) = bgn ss ms i + mov ms i + (ss.getD i 0).toNat) := Lib.hid fun i => rfl
  have hb0 : bgn ss ms 0 = 0 := rfl
  have hFs := Lib.hid (fillI_succ (bgnI ss ms))
  have hFv : Hid (∀ k, bgnI ss ms k = ((bgn ss ms k : Nat) : Int)) := Lib.hid fun k => rfl
  have hMsl := Lib.hid hl
  obtain ⟨b1, o1, cap1, rfl, hb1, hl1, hc1⟩ := cells_of h1 n1
  obtain ⟨b2, o2, cap2, rfl, hb2, hl2, hc2⟩ := cells_of h2 (by omega)
  have hC1 := Lib.hid hc1
  have hC2 := Lib.hid hc2
  have hGet2 : Hid (∀ k, k < ss.length + 1 → ∃ x, ms[k]? = some x) := Lib.hid fun k hk => ⟨_, List.getElem?_eq_getElem (by omega)⟩
  have hb : ((ms.length : Int) != (ss.length : Int) + 1) = false := by rw [bne_eq_false_iff_eq]; omega
  have hUn := Lib.hid (fun P => underTo_all (ss := ss) (P := P))
  obtain ⟨i0, hi, hz0, hz1, hz2⟩ := info_parts infoI
  obtain ⟨i1, hj, hj0, hj1, hj2⟩ := info_parts infoBo
  have hAtEnd : Hid (∀ P f bs, At ss ms P (ss.length + 1) 0 f bs → (NC (bgn ss ms) (mov ms) P (ss.length + 1) 0 ↔ apartAll (bgn ss ms) (mov ms) P (ss.length + 1) = true) → goodP ss ms P = f) := Lib.hid fun P f bs h hn => by
    rw [← hl] at h hn
    exact at_end h hn
  have hAtStep : Hid (∀ P i x bs, At ss ms P i x true bs → 1 ≤ P → (NC (bgn ss ms) (mov ms) P (ss.length + 1) 0 ↔ apartAll (bgn ss ms) (mov ms) P (ss.length + 1) = true) → i < ss.length + 1 → x < mov ms i → At ss ms P i (x + 1) (!bs.getD ((bgn ss ms i + x) % P) false) (bs.set ((bgn ss ms i + x) % P) true)) := Lib.hid fun P i x bs h hP hn hi hx => by
    rw [← hl] at hn hi
    exact at_step h hP (good_nc hn) hi hx
  generalize HoistPost ss ms M w = Q at *
  clear hc1 hc2 h1 h2 hs hCan
  rw [hl] at *
  generalize hnn : ss.length = n at *
  clear hnn
  unfold maxLen at hl1 hl2
  go_enter Try.func48, Try.ntmps48
  go_wp2_with (first | (go_at_call 80; (with_reducible refine (hA.out).mono ?_); rintro e w' ⟨rfl, rfl⟩) | (go_at_call 72; refine (l00In_any _ _ _ _).mono ?_; rintro e w' ⟨rfl, rfl⟩))
  have hO0 := Lib.hid (show (w.alloc (Obj.cells #[] 2)).ownsRow w.heap.size 2 1 (.slice (some ⟨w.heap.size, 0, none⟩) 0 0) 0 ((fillI (bgnI ss ms) 0).map (Value.int .i64)) from World.ownsRow_lit w #[] 0 (Nat.le_refl _) (Nat.zero_le _) rfl)
  have hB0 := Lib.hid (show Below w.heap.size w (w.alloc (Obj.cells #[] 2)) from below_alloc (Below.refl _ _) _)
  generalize w.alloc (Obj.cells #[] 2) = w4 at *
  generalize hgg : w.heap.size = g at *
  have hGG := Lib.hid hgg
  clear hgg hmo hA
  go_loopw [8, 9, 36] (fun gv av iv wr => ∃ (k : Nat) (z : Int), k ≤ n + 1 ∧ iv = .int .i64 k ∧ av = .int .i64 z ∧ 0 ≤ z ∧ z ≤ 1100 * k ∧ Hid (k ≤ n → z = ((bgn ss ms k : Nat) : Int)) ∧ Hid (∀ (i : Nat) (x : Int), i < k → ms[i]? = some x → inB x 1 100 = true) ∧ Hid (wr.ownsRow g 2 1 gv k ((fillI (bgnI ss ms) k).map (Value.int .i64))) ∧ Hid (Below g w wr)) (fun _ _ iv _ => n + 1 - (intOf iv).toNat)
  case atStart => exact ⟨0, 0, Nat.zero_le _, rfl, rfl, Int.le_refl _, by omega, Lib.hid (fun _ => by rw [hb0]; rfl), Lib.hid (fun i x hi _ => by omega), hO0, hB0⟩
  case round =>
    clear hO0 hB0
    obtain ⟨k, z, hk, rfl, rfl, z0, z1, hZ, hP, hO, hBb⟩ := hrel
    by_cases hlt : k < n + 1
    · obtain ⟨x, hx⟩ := hGet2.out k hlt
      have q0 := hC2.out k x hx
      rw [← hBb.out.cell (p := ⟨b2, o2 + k, none⟩) (show b2 < g by have := hGG.out; omega)] at q0
      have hk1 : (k : Int) < (n : Int) + 1 := by omega
      cases hq : inB x 1 100
      · have hR := Lib.hid (hBadMove.out k x wr hx hq hBb.out)
        clear hx
        go_wp2_with (go_at_call 72; refine (l00In_any _ _ _ _).mono ?_; rintro e w' ⟨rfl, rfl⟩)
        first | exact hR.out | (go_ret2; exact hR.out)
      · obtain ⟨hxm, hm100⟩ := hMov0.out k x hx hq
        have hP2 : Hid (∀ (i : Nat) (y : Int), i < k + 1 → ms[i]? = some y → inB y 1 100 = true) := Lib.hid fun i y hi hy => by
          by_cases h1 : i < k
          · exact hP.out i y h1 hy
          · have : i = k := by omega
            subst this
            rw [hx] at hy
            cases hy
            exact hq
        have hzk : bgnI ss ms k = z := by rw [hFv.out, ← hZ.out (by omega)]
        have hzh := Lib.hid hzk
        have hZk := Lib.hid (hZ.out (by omega))
        have hgs := Lib.hid (show g ≤ wr.heap.size by have := hBb.out.size; rw [hGG.out] at this; exact this)
        have hstp := Lib.hid (hStep.out k)
        have hx1 := inB_true hq
        have hwx : IntKind.i64.wrap (z + x) = z + x := IntWalk.i64_in _ (by omega)
        have q1 : ∀ w8 : World, Below g w w8 → w8.cell? ⟨b2, o2 + k, none⟩ = some (.int .i64 x) := fun w8 hb8 => by rw [hb8.cell (p := ⟨b2, o2 + k, none⟩) (show b2 < g by have := hGG.out; omega)]; exact hC2.out k x hx
        have hq1 := Lib.hid q1
        have hXm := Lib.hid hxm
        clear hx hzk q1 hxm hZ
        by_cases hlast : k < n
        · obtain ⟨hsk, hsk2, hsk3⟩ := hSoak.out k hlast
          have p1 := Lib.hid (fun (w8 : World) (hb8 : Below g w w8) => (show w8.cell? ⟨b1, o1 + k, none⟩ = some (.int .i64 (((ss.getD k 0).toNat : Nat) : Int)) by rw [hb8.cell (p := ⟨b1, o1 + k, none⟩) (show b1 < g by have := hGG.out; omega)]; exact hC1.out k _ hsk))
          have hkn : (k : Int) < (n : Int) := by omega
          have hkd : decide ((k : Int) < (n : Int)) = true := decide_eq_true hkn
          generalize hskk : (ss.getD k 0).toNat = sk at *
          clear hsk hsk3 hskk
          have hwy : IntKind.i64.wrap (z + x + (sk : Int)) = z + x + (sk : Int) := IntWalk.i64_in _ (by omega)
          have hZ2 : Hid (k + 1 ≤ n → z + x + (sk : Int) = ((bgn ss ms (k + 1) : Nat) : Int)) := Lib.hid fun _ => by rw [hstp.out, hZk.out, hXm.out]; omega
          go_wp2_with (first | (go_at_call 72; refine (l00In_any _ _ _ _).mono ?_; rintro e w' ⟨rfl, rfl⟩) | (at_builtin; refine wpList_append_own _ rfl _ _ _ rfl g 2 i0 (.int .i64 0) 1 8 Try.underlying38 hi hz0 hz1 hz2 rfl (by decide) _ k _ rfl (hO.out.alloc _) ⟨wr.heap.size, 0, none⟩ 1 1 [.int .i64 z] rfl rfl (news1 wr _ _) (one_int _) (by unfold maxLen; omega) (by omega) (grow_le hgs.out _) ?_; intro v8 w8 hown8 hgrow8 hnil8; have hB8 := Lib.hid (below_app hBb.out hO.out hgrow8 hgs.out (Nat.le_refl _)); have hO8 := Lib.hid (show w8.ownsRow g 2 1 v8 (k + 1) ((fillI (bgnI ss ms) (k + 1)).map (Value.int .i64)) by rw [hFs.out, List.map_append, hzh.out]; exact hown8); have q8 := hq1.out w8 hB8.out; have p8 := p1.out w8 hB8.out; clear hown8 hgrow8 hnil8))
          go_roundw
          case rel => exact ⟨k + 1, _, by omega, by go_num, rfl, by omega, by omega, hZ2, hP2, hO8, hB8⟩
          case measure => simp [intOf]; omega
        · have hkn : ¬ (k : Int) < (n : Int) := by omega
          have hkd : decide ((k : Int) < (n : Int)) = false := decide_eq_false hkn
          have hZ2 : Hid (k + 1 ≤ n → z + x = ((bgn ss ms (k + 1) : Nat) : Int)) := Lib.hid fun h => by omega
          go_wp2_with (first | (go_at_call 72; refine (l00In_any _ _ _ _).mono ?_; rintro e w' ⟨rfl, rfl⟩) | (at_builtin; refine wpList_append_own _ rfl _ _ _ rfl g 2 i0 (.int .i64 0) 1 8 Try.underlying38 hi hz0 hz1 hz2 rfl (by decide) _ k _ rfl (hO.out.alloc _) ⟨wr.heap.size, 0, none⟩ 1 1 [.int .i64 z] rfl rfl (news1 wr _ _) (one_int _) (by unfold maxLen; omega) (by omega) (grow_le hgs.out _) ?_; intro v8 w8 hown8 hgrow8 hnil8; have hB8 := Lib.hid (below_app hBb.out hO.out hgrow8 hgs.out (Nat.le_refl _)); have hO8 := Lib.hid (show w8.ownsRow g 2 1 v8 (k + 1) ((fillI (bgnI ss ms) (k + 1)).map (Value.int .i64)) by rw [hFs.out, List.map_append, hzh.out]; exact hown8); have q8 := hq1.out w8 hB8.out; clear hown8 hgrow8 hnil8))
          go_roundw
          case rel => exact ⟨k + 1, _, by omega, by go_num, rfl, by omega, by omega, hZ2, hP2, hO8, hB8⟩
          case measure => simp [intOf]; omega
    · obtain rfl : k = n + 1 := by omega
      have hAm := hAllM.out (n + 1) rfl hP.out
      obtain ⟨hMv, hBn, hNC⟩ := hLate.out hAm
      have hgw : g ≤ wr.heap.size := by have := hBb.out.size; rw [hGG.out] at this; exact this
      have hL3 := row_lstI' hO.out (fillI_length _ _) (by omega)
      obtain ⟨b3, o3, cap3, hgv, hb3, hl3, hc3⟩ := cells_of hL3 (by rw [fillI_length]; omega)
      rw [fillI_length] at hgv hl3
      subst hgv
      have hMvC : Hid (∀ (i : Nat) (w' : World), i < n + 1 → Below wr.heap.size wr w' → w'.cell? ⟨b2, o2 + i, none⟩ = some (.int .i64 ((mov ms i : Nat) : Int))) := Lib.hid fun i w' hi hb => by
        rw [hb.cell (p := ⟨b2, o2 + i, none⟩) (show b2 < wr.heap.size by have := hGG.out; omega), hBb.out.cell (p := ⟨b2, o2 + i, none⟩) (show b2 < g by have := hGG.out; omega)]
        exact hC2.out i _ (hMv i hi).1
      have hSkC : Hid (∀ (i : Nat) (w' : World), i < n → Below wr.heap.size wr w' → w'.cell? ⟨b1, o1 + i, none⟩ = some (.int .i64 (((ss.getD i 0).toNat : Nat) : Int))) := Lib.hid fun i w' hi hb => by
        rw [hb.cell (p := ⟨b1, o1 + i, none⟩) (show b1 < wr.heap.size by have := hGG.out; omega), hBb.out.cell (p := ⟨b1, o1 + i, none⟩) (show b1 < g by have := hGG.out; omega)]
        exact hC1.out i _ (hSoak.out i hi).1
      have hStC : Hid (∀ (i : Nat) (w' : World), i < n + 1 → Below wr.heap.size wr w' → w'.cell? ⟨b3, o3 + i, none⟩ = some (.int .i64 ((bgn ss ms i : Nat) : Int))) := Lib.hid fun i w' hi hb => by
        rw [hb.cell (p := ⟨b3, o3 + i, none⟩) hb3]
        exact hc3 i _ (fillI_get _ hi)
      have hFnd2 : Hid (∀ (P : Nat) (w' : World), 1 ≤ P → P ≤ M → goodP ss ms P = true → (∀ P', 1 ≤ P' → P' < P → goodP ss ms P' = false) → Below wr.heap.size wr w' → Q (.returned (.tuple #[.int .i64 P, .bool true])) w') := Lib.hid fun P w' a b c d hb => hFound.out hAm P w' a b c d (hBb.out.trans (hb.mono hgw))
      have hNone2 : Hid (∀ (w' : World), (∀ P, 1 ≤ P → P ≤ M → goodP ss ms P = false) → Below wr.heap.size wr w' → Q (.returned (.tuple #[.int .i64 0, .bool false])) w') := Lib.hid fun w' a hb => hNone.out w' a (hBb.out.trans (hb.mono hgw))
      have hMvB : Hid (∀ i, i < n + 1 → 1 ≤ mov ms i ∧ mov ms i ≤ 100 ∧ bgn ss ms i ≤ 13200) := Lib.hid fun i hi => ⟨(hMv i hi).2.1, (hMv i hi).2.2, by have := hBn i (by omega); omega⟩
      have hNCh := Lib.hid hNC
      have hBr := Lib.hid (Below.refl wr.heap.size wr)
      clear hAm hMv hBn hNC hL3 hc3 hO hP hZ hBb hFound hNone hLate hAllM hBadMove hMov0 hGet2 hC1 hC2 hStep hFs hFv hi hz0 hz1 hz2 hgw z0 z1 hb0
      obtain ⟨w5, hw5⟩ : ∃ w5, w5 = wr := ⟨_, rfl⟩
      subst hw5
      generalize hCC : w5.heap.size = C at *
      have hC5 := Lib.hid hCC
      clear hCC
      go_wp2_with fail
      generalize ((n + 1 : Nat) : Int) = N1
      go_loopw [11] (fun pv wq => ∃ P : Nat, 1 ≤ P ∧ P ≤ M + 1 ∧ pv = .int .i64 P ∧ Hid (∀ P', 1 ≤ P' → P' < P → goodP ss ms P' = false) ∧ Hid (Below C w5 wq)) (fun pv _ => M + 1 - (intOf pv).toNat)
      case atStart => exact ⟨1, Nat.le_refl _, by omega, rfl, Lib.hid (fun P' a b => by omega), hBr⟩
      case round =>
        clear hBr
        obtain ⟨P, hP0, hP1, rfl, hBad, hB5⟩ := hrel
        by_cases hle : P ≤ M
        · have hcle : (P : Int) ≤ (M : Int) := by omega
          have hNCP := Lib.hid (hNCh.out P hP0)
          go_wp2_with fail
          go_loopw [12, 73] (fun fv iv wq => ∃ k : Nat, k ≤ n ∧ iv = .int .i64 k ∧ fv = .bool (underTo ss P k) ∧ wq = wr) (fun _ iv _ => n - (intOf iv).toNat)
          case atStart => exact ⟨0, Nat.zero_le _, rfl, rfl, rfl⟩
          case round =>
            obtain ⟨k, hk, rfl, rfl, rfl⟩ := hrel
            by_cases hlt : k < n
            · obtain ⟨_, hsk2, hsk3⟩ := hSoak.out k hlt
              have p1 := hSkC.out k wr hlt hB5.out
              have hun : underTo ss P (k + 1) = (underTo ss P k && decide (ss.getD k 0 ≤ (P : Int))) := rfl
              rw [hsk3] at hun
              have hkn : (k : Int) < (n : Int) := by omega
              generalize (ss.getD k 0).toNat = sk at *
              clear hsk3
              cases hu : underTo ss P k
              · have hu2 := Lib.hid (show underTo ss P (k + 1) = false by rw [hun, hu]; rfl)
                clear hun hu
                go_wp2_with fail
                go_roundw
                case rel => exact ⟨k + 1, by omega, by go_num, by rw [hu2.out], by trivial⟩
                case measure => simp [intOf]; omega
              · by_cases hsp : sk ≤ P
                · have d1 : decide ((sk : Int) ≤ (P : Int)) = true := decide_eq_true (by omega)
                  have d2 : decide (sk ≤ P) = true := decide_eq_true hsp
                  have hu2 := Lib.hid (show underTo ss P (k + 1) = true by rw [hun, hu, d1]; rfl)
                  clear hun hu
                  go_wp2_with fail
                  go_roundw
                  case rel => exact ⟨k + 1, by omega, by go_num, by rw [hu2.out], by trivial⟩
                  case measure => simp [intOf]; omega
                · have d1 : decide ((sk : Int) ≤ (P : Int)) = false := decide_eq_false (by omega)
                  have d2 : decide (sk ≤ P) = false := decide_eq_false hsp
                  have hu2 := Lib.hid (show underTo ss P (k + 1) = false by rw [hun, hu, d1]; rfl)
                  clear hun hu
                  go_wp2_with fail
                  go_roundw
                  case rel => exact ⟨k + 1, by omega, by go_num, by rw [hu2.out], by trivial⟩
                  case measure => simp [intOf]; omega
            · obtain rfl : n = k := by omega
              have hUP := Lib.hid (hUn.out P)
              have hgC : C ≤ wr.heap.size := by have := hB5.out.size; rw [hC5.out] at this; exact this
              go_wp2_with (at_make; refine wpList_make_full _ rfl _ _ _ rfl wr.heap.size _ i1 (.bool false) 1 Try.underlying44 hj hj0 hj1 _ _ _ _ P rfl rfl rfl rfl ?c1 ?c2 ?c3 ?_)
              case c1 => rw [hj2]; omega
              case c2 => unfold maxLen; omega
              case c3 => exact Nat.le_refl _
              intro w7 hown7 hg7
              have hB7 := Lib.hid (hB5.out.grown hg7 hgC (fun k hk => by cases hk))
              have hO7 := Lib.hid (zerosB_row hown7)
              have hAt0 := Lib.hid (at_start (ss := ss) (ms := ms) (P := P))
              clear hown7 hg7 hB5
              generalize wr.heap.size = gb at *
              go_wp2_with fail
              go_loopw [12, 90] (fun fv iv wq => ∃ (i : Nat) (f : Bool) (bs : List Bool), i ≤ n + 1 ∧ iv = .int .i64 i ∧ fv = .bool f ∧ Hid (At ss ms P i 0 f bs) ∧ Hid (wq.ownsRow gb 4 1 (.slice (some ⟨gb, 0, none⟩) P P) P (bs.map Value.bool)) ∧ Hid (Below C w5 wq)) (fun _ iv _ => n + 1 - (intOf iv).toNat)
              case atStart => exact ⟨0, _, _, Nat.zero_le _, rfl, by rw [hUP.out], hAt0, hO7, hB7⟩
              case round =>
                clear hAt0 hO7 hB7
                obtain ⟨i, f, bs, hi, rfl, rfl, hAt, hO, hB8⟩ := hrel
                by_cases hit : i < n + 1
                · have hi1 : (i : Int) < (n : Int) + 1 := by omega
                  have hStI := Lib.hid (fun w' => hStC.out i w' hit)
                  have hMvI := Lib.hid (fun w' => hMvC.out i w' hit)
                  obtain ⟨m1, m100, b132⟩ := hMvB.out i hit
                  have s0 := hStI.out wr hB8.out
                  have hStp := Lib.hid (fun x bs h hx => hAtStep.out P i x bs h hP0 hNCP.out hit hx)
                  have hNxt : Hid (∀ (f : Bool) (bs : List Bool) (x : Nat), At ss ms P i x f bs → (f = true → x = mov ms i) → At ss ms P (i + 1) 0 f bs) := Lib.hid fun f bs x h hx => at_next h hx
                  have hMm := Lib.hid (rfl : mov ms i = mov ms i)
                  generalize hbb : bgn ss ms i = bi at *
                  generalize hmm : mov ms i = mi at *
                  clear hbb hmm
                  go_wp2_with fail
                  clear s0
                  go_loopw [12, 16] (fun fv tv wq => ∃ (x : Nat) (f : Bool) (bs : List Bool), x ≤ mi ∧ tv = .int .i64 ((bi + x : Nat) : Int) ∧ fv = .bool f ∧ Hid (At ss ms P i x f bs) ∧ Hid (wq.ownsRow gb 4 1 (.slice (some ⟨gb, 0, none⟩) P P) P (bs.map Value.bool)) ∧ Hid (Below C w5 wq)) (fun _ tv _ => bi + mi - (intOf tv).toNat)
                  case atStart => exact ⟨0, f, bs, Nat.zero_le _, rfl, rfl, hAt, hO, hB8⟩
                  case round =>
                    clear hAt hO hB8
                    obtain ⟨x, f, bs, hx, rfl, rfl, hAt, hO, hB8⟩ := hrel
                    have s0 := hStI.out wr hB8.out
                    have q0 := hMvI.out wr hB8.out
                    have hws : IntKind.i64.wrap ((bi : Int) + (mi : Int)) = (bi : Int) + (mi : Int) := IntWalk.i64_in _ (by omega)
                    generalize ht : bi + x = t at *
                    have hwt : IntKind.i64.wrap ((t : Int) + 1) = (t : Int) + 1 := IntWalk.i64_in _ (by omega)
                    by_cases hxm : x < mi
                    · have hlt1 : (t : Int) < (bi : Int) + (mi : Int) := by omega
                      have hld : decide ((t : Int) < (bi : Int) + (mi : Int)) = true := decide_eq_true hlt1
                      cases f
                      · have hN := Lib.hid (hNxt.out false bs x hAt.out (fun h => by cases h))
                        go_wp2_with fail
                        go_quiet (fail)
                        go_wp2
                        go_roundw
                        case rel => exact ⟨i + 1, false, bs, by omega, by go_num, rfl, hN, Lib.hid (ownsRow_drewN hO.out _), Lib.hid (Lst.Below.drewN hB8.out _)⟩
                        case measure => simp [intOf]; omega
                      · have hS1 := hStp.out x bs hAt.out hxm
                        rw [ht] at hS1
                        obtain ⟨r, hr⟩ : ∃ r, t % P = r := ⟨_, rfl⟩
                        have hrl : r < P := by rw [← hr]; exact Nat.mod_lt _ (by omega)
                        rw [hr] at hS1
                        have hbit := row_bit hO.out hAt.out.1 hrl
                        have hfr : wr.frozen? ⟨gb, r, none⟩ = false := hO.out.frozenAt r
                        have ht1 : (t : Int).tmod (P : Int) = (r : Int) := by rw [IntWalk.up_tmod rfl rfl, hr]
                        have ht2 : (t : Int) % (P : Int) = (r : Int) := by rw [IntWalk.up_mod rfl rfl, hr]
                        have hv : IntKind.i64.wrap (r : Int) = (r : Int) := IntWalk.i64_in _ (by omega)
                        have hv1 : IntKind.i64.wrap ((t : Int).tmod (P : Int)) = (r : Int) := by rw [ht1]; exact hv
                        have hp0 : ¬ (P : Int) = 0 := by omega
                        have hpb : ((P : Int) == 0) = false := by simpa using hp0
                        have hp1 : ¬ P = 0 := by omega
                        have hri : (r : Int) < (P : Int) := by omega
                        have hgt2 := Lib.hid (show t + 1 = bi + (x + 1) by omega)
                        cases hbt : bs.getD r false
                        · rw [hbt, Bool.not_false] at hS1
                          rw [hbt] at hbit
                          have hS2 := Lib.hid hS1
                          clear hS1 hbt hr
                          go_wp2_with fail
                          go_quiet (fail)
                          go_wp2
                          go_roundw
                          case rel => exact ⟨x + 1, true, _, by omega, by rw [← hgt2.out]; go_num, rfl, hS2, Lib.hid (row_setB (ownsRow_drewN hO.out _) r true), Lib.hid ((Lst.Below.drewN hB8.out _).setCell (p := ⟨gb, r, none⟩) hgC _)⟩
                          case measure => simp [intOf]; omega
                        · rw [hbt, Bool.not_true] at hS1
                          rw [hbt] at hbit
                          have hS2 := Lib.hid hS1
                          clear hS1 hbt hr
                          go_wp2_with fail
                          go_quiet (fail)
                          go_wp2
                          go_roundw
                          case rel => exact ⟨x + 1, false, _, by omega, by rw [← hgt2.out]; go_num, rfl, hS2, Lib.hid (row_setB (ownsRow_drewN hO.out _) r true), Lib.hid ((Lst.Below.drewN hB8.out _).setCell (p := ⟨gb, r, none⟩) hgC _)⟩
                          case measure => simp [intOf]; omega
                    · have hxe : x = mi := by omega
                      have hnl : ¬ (t : Int) < (bi : Int) + (mi : Int) := by omega
                      have hld : decide ((t : Int) < (bi : Int) + (mi : Int)) = false := decide_eq_false hnl
                      have hN := Lib.hid (hNxt.out f bs x hAt.out (fun _ => hxe))
                      clear hxe
                      go_wp2_with fail
                      go_quiet (fail)
                      go_wp2
                      go_roundw
                      case rel => exact ⟨i + 1, f, bs, by omega, by go_num, rfl, hN, Lib.hid (ownsRow_drewN hO.out _), Lib.hid (Lst.Below.drewN hB8.out _)⟩
                      case measure => simp [intOf]; omega
                · obtain rfl : i = n + 1 := by omega
                  have hgd := hAtEnd.out P f bs hAt.out hNCP.out
                  cases f
                  · have hBad2 : Hid (∀ P', 1 ≤ P' → P' < P + 1 → goodP ss ms P' = false) := Lib.hid fun P' a b => by
                      by_cases e : P' = P
                      · subst e; exact hgd
                      · exact hBad.out P' a (by omega)
                    have hwp : IntKind.i64.wrap ((P : Int) + 1) = (P : Int) + 1 := IntWalk.i64_in _ (by omega)
                    clear hgd
                    go_wp2_with fail
                    go_roundw
                    case rel => exact ⟨P + 1, by omega, by omega, by go_num, hBad2, hB8⟩
                    case measure => simp [intOf]; omega
                  · have hR := Lib.hid (hFnd2.out P _ hP0 hle hgd hBad.out hB8.out)
                    clear hgd
                    go_wp2_with fail
                    first | exact hR.out | (go_ret2; exact hR.out)
        · have hcle : ¬ (P : Int) ≤ (M : Int) := by omega
          have hR := Lib.hid (hNone2.out _ (fun P' a b => hBad.out P' a (by omega)) hB5.out)
          go_wp2_with fail
          first | exact hR.out | (go_ret2; exact hR.out)
theorem hoistPeriod_both (ss ms : List Int) (most : Int) (_ : ∀ x ∈ ss, (Lit.int .i64 x).wf = true) (_ : ∀ x ∈ ms, (Lit.int .i64 x).wf = true) (_ : (Lit.int .i64 most).wf = true) : ∃ (r0 : Int) (r1 : Bool),
    (∀ (B : Nat) (v1 v2 : Value) (w : World), LstI B w v1 ss → LstI B w v2 ms → B ≤ w.heap.size → Calls Try.prog 48 #[v1, v2, .int .i64 most] w fun e w' => e = .returned (.tuple #[.int .i64 r0, .bool r1]) ∧ Below w.heap.size w w') ∧
    (∀ (B : Nat) (v1 v2 : Value) (w : World), LstI B w v1 ss → LstI B w v2 ms → B ≤ w.heap.size → Calls Try.prog 49 #[v1, v2, .int .i64 most] w fun e w' => e = .returned (.tuple #[.int .i64 r0, .bool r1]) ∧ Below w.heap.size w w') :=
  ⟨(hoistRes ss ms most).1, (hoistRes ss ms most).2, fun B v1 v2 w h1 h2 hB => specHoist_any B v1 v2 ss ms most w h1 h2 hB, fun B v1 v2 w h1 h2 hB => implHoist_any B v1 v2 ss ms most w h1 h2 hB⟩
end Go.Proofs.Ythliapjnfcahlaa
