/- Contracts: FreeSlackOf, in the model and in the program. -/
import Derived.Test.YtlgojbbhjhifhaaSlack3
import Derived.Deep.AppendLies
import Derived.Deep.RegionHeld3
namespace Go.Proofs.Ytlgojbbhjhifhaa
open Go.RowKit Go.Lst

def freeAt (xs : List TaskD) (i : Nat) : Int := lateAt xs (early xs) i (endOf xs (early xs)) - (early xs).getD i 0
def freeOf (xs : List TaskD) : List Int := fill (freeAt xs) xs.length
def freeRes (xs : List TaskD) : List Int := if areTasks xs then freeOf xs else []
theorem freeOf_length (xs : List TaskD) : (freeOf xs).length = xs.length := fill_length _ _
theorem freeRes_length (xs : List TaskD) : (freeRes xs).length ≤ 1048576 := by
  unfold freeRes
  split
  · rename_i h; rw [freeOf_length]; have := (areTasks_fit h).most; omega
  · simp
theorem list_no {xs : List TaskD} {w w' : World} {r : List Int} (h : areTasks xs = false) (hr : r = []) (hb : Below w.heap.size w w') : ListPost r (areTasks xs) w (.returned (.tuple #[.slice none 0 0, .bool false])) w' := by
  subst hr
  exact ⟨.slice none 0 0, by rw [h], own_nil, hb⟩
theorem list_yes {xs : List TaskD} {w w' : World} {r : List Int} {v : Value} (h : areTasks xs = true) (hl : r.length = xs.length) (ho : Own w.heap.size w'.heap.size w' v 2 1 xs.length (r.map (Value.int .i64))) (hb : Below w.heap.size w w') : ListPost r (areTasks xs) w (.returned (.tuple #[v, .bool true])) w' :=
  ⟨v, by rw [h], early_own ho hl, hb⟩
theorem freeRes_no {xs : List TaskD} (h : areTasks xs = false) : freeRes xs = [] := by unfold freeRes; rw [if_neg (by rw [h]; simp)]
theorem freeRes_yes {xs : List TaskD} (h : areTasks xs = true) : freeRes xs = freeOf xs := by unfold freeRes; rw [if_pos h]
theorem freeAt_bound {xs : List TaskD} (h : Fit xs) (i : Nat) : -1100 ≤ lateAt xs (early xs) i (endOf xs (early xs)) ∧ lateAt xs (early xs) i (endOf xs (early xs)) ≤ 18600 := by
  have h1 := endOf_bound h
  have := lateAt_bound h (early_bound h) i (e := endOf xs (early xs)) (by omega)
  omega

theorem news_oneN (w : World) (t : TypeId) (u : Value) : ∀ (q : Unit) (j : Nat) (x : Value), [u][j]? = some x → (w.alloc (.cells #[u] t)).cell? ((⟨w.heap.size, 0, none⟩ : Addr).add j) = some x := fun _ j x hj => by
  match j, hj with
  | 0, hj =>
    obtain rfl : u = x := by simpa using hj
    exact (Whole.made w t #[u] rfl).at_ rfl
  | j + 1, hj => simp at hj
theorem alloc_eq (w : World) (o : Obj) : (w.alloc o).heap.size = w.heap.size + 1 := by simp
theorem alloc_le {B : Nat} {w : World} (h : B ≤ w.heap.size) (o : Obj) : B ≤ (w.alloc o).heap.size := by rw [alloc_eq]; omega
theorem below_appendN {B n : Nat} {w wr w6 : World} {o : Obj} {v : Value} {cs : List Value} {e : TypeId} (hb : Below B w wr) (hO : wr.ownsRow B e 1 v n cs) (hg : (wr.alloc o).grownBy w6 v.ownBlock) (hB : B ≤ wr.heap.size) : Below B w w6 :=
  (hb.alloc hB o).grown hg (alloc_le hB o) fun k hk => (hO.lt k hk).1
set_option maxHeartbeats 4000000 in
set_option maxRecDepth 100000 in
theorem specFreeSlackOf_any (B : Nat) (v : Value) (xs : List TaskD) (w : World) (h : LstTask B w v xs) (hB : B ≤ w.heap.size) : Calls Try.prog 32 #[v] w (ListPost (freeRes xs) (areTasks xs) w) := by
  have hA := Lib.hid (l03Are_any B v xs w h)
  have hL := Lib.hid h
  obtain ⟨a, cap, rfl, hl, _⟩ := h
  obtain ⟨i0, hi, hz0, hz1, hz2⟩ := info_parts infoI
  cases hq : areTasks xs
  · have hP := Lib.hid (fun w' hb => list_no (w := w) (w' := w') hq (freeRes_no hq) hb)
    rw [hq] at hA hP
    generalize ListPost (freeRes xs) _ w = POST at *
    clear hq
    go_enter Try.func32, Try.ntmps32
    go_wp2_with fail
    refine (hA.out).mono ?_
    rintro e w1 ⟨m, rfl, rfl⟩
    go_wp2_with fail
    exact hP.out _ (below_drawn _ _)
  · have hP := Lib.hid (fun w' v ho hb => list_yes (w := w) (w' := w') (r := freeRes xs) (v := v) hq (by rw [freeRes_yes hq]; exact freeOf_length xs) ho hb)
    rw [freeRes_yes hq] at hP
    rw [freeRes_yes hq]
    rw [hq] at hA hP
    have hFt := Lib.hid (areTasks_fit hq)
    generalize ListPost (freeOf xs) _ w = POST at *
    have hE := endOf_bound hFt.out
    have hm : xs.length ≤ 16 := hFt.out.most
    clear hq
    unfold maxLen at hl
    go_enter Try.func32, Try.ntmps32
    go_wp2_with fail
    refine (hA.out).mono ?_
    rintro e w0 ⟨m, rfl, rfl⟩
    have hB0 := Lib.hid (below_drawn w m)
    generalize w.drewN m = w0 at *
    go_wp2_with fail
    refine (l03Early_any B _ xs w0 (hL.out.below hB0.out hB) (Nat.le_trans hB hB0.out.size) hFt.out).mono ?_
    rintro r w1 ⟨v1, rfl, ho1, hb1⟩
    have hB1 := Lib.hid (below_on hB0.out (Nat.le_refl _) hb1)
    have hO1 := Lib.hid (early_own ho1 (early_length xs))
    obtain ⟨a1, c1, rfl⟩ := own_slice_n ho1
    clear ho1 hb1
    go_wp2_with fail
    refine (l03End_any w1.heap.size _ _ xs (early xs) w1 ((hL.out.below hB1.out hB).mono (Nat.le_trans hB hB1.out.size)) (by have := hO1.out.lstI (Nat.le_refl w1.heap.size); exact this) hFt.out (by rw [early_length]; exact Nat.le_refl _) ((early_bound hFt.out).mono (by omega) (by omega))).mono ?_
    rintro r w2 ⟨m2, rfl, rfl⟩
    have hb2 := below_drawn w1 m2
    have hB2 := Lib.hid (Lst.Below.drewN hB1.out m2)
    have hO2 := Lib.hid (hO1.out.below hb2 (Nat.le_refl _))
    have hs12 := Lib.hid hb2.size
    generalize w1.drewN m2 = w2 at *
    clear hb2 hO1
    have hR4 : Hid (∀ (wr : World), Below w2.heap.size w2 wr → ∀ k, k < xs.length → ∃ g o, a1 = some ⟨g, o, none⟩ ∧ g < w2.heap.size ∧ wr.cell? ⟨g, o + k, none⟩ = some (.int .i64 ((early xs).getD k 0))) := Lib.hid fun wr hb k hk => by
      obtain ⟨g, o, e1, e2, e3⟩ := own_reads hO2.out hb hs12.out k (by rw [early_length]; exact hk)
      exact ⟨g, o, e1, by have := hs12.out; omega, e3⟩
    have hLst1 := Lib.hid (show LstI w2.heap.size w2 (.slice a1 xs.length c1) (early xs) from hO2.out.lstI hs12.out)
    have hBe := Lib.hid (early_bound hFt.out)
    have hsz := Lib.hid hB2.out.size
    have hFa : Hid (∀ k, freeAt xs k = lateAt xs (early xs) k (endOf xs (early xs)) - (early xs).getD k 0) := Lib.hid fun _ => rfl
    have hEnd : Hid (freeOf xs = fill (freeAt xs) xs.length) := Lib.hid rfl
    clear hO2 hB1 hB0 hs12
    have hEn := Lib.hid (early_length xs)
    generalize hnn : xs.length = n at *
    have hN := Lib.hid hnn
    clear hnn
    go_wp2_with fail
    have hO0 := Lib.hid (show (w2.alloc (Obj.cells #[] 2)).ownsRow w2.heap.size 2 1 (.slice (some ⟨w2.heap.size, 0, none⟩) 0 0) 0 ((fill (freeAt xs) 0).map (Value.int .i64)) from World.ownsRow_lit w2 #[] 0 (Nat.le_refl _) (Nat.zero_le _) rfl)
    have hB0 := Lib.hid (show Below w2.heap.size w2 (w2.alloc (Obj.cells #[] 2)) from below_alloc (Below.refl _ _) _)
    generalize w2.alloc (Obj.cells #[] 2) = w4 at *
    go_loopw [6, 19] (fun v i wr => ∃ k : Nat, k ≤ n ∧ i = .int .i64 k ∧ Hid (wr.ownsRow w2.heap.size 2 1 v k ((fill (freeAt xs) k).map (Value.int .i64))) ∧ Hid (Below w2.heap.size w2 wr)) (fun _ i _ => n - (intOf i).toNat)
    case atStart => exact ⟨0, Nat.zero_le _, rfl, hO0, hB0⟩
    case round =>
      obtain ⟨k, hk, rfl, hO5, hB5⟩ := hrel
      by_cases hlt : k < n
      · obtain ⟨g1, o1, rfl, g1lt, d1⟩ := hR4.out wr hB5.out k hlt
        have hS0 : Hid (∀ w' : World, Below w2.heap.size w2 w' → (w'.cell? ⟨g1, o1 + k, none⟩ = some (.int .i64 ((early xs).getD k 0))) ∧ Below w2.heap.size w2 w') := Lib.hid fun w' hb => by
          refine ⟨?_, hb⟩
          rw [hb.cell (p := ⟨g1, o1 + k, none⟩) g1lt, ← hB5.out.cell (p := ⟨g1, o1 + k, none⟩) g1lt]; exact d1
        have hG : Hid (∀ w' : World, Below w2.heap.size w2 w' → Calls Try.prog 66 #[.slice a n cap, .slice (some ⟨g1, o1, none⟩) n c1, .int .i64 k, .int .i64 (endOf xs (early xs))] w' (Ret (.int .i64 (lateAt xs (early xs) k (endOf xs (early xs)))) w')) := Lib.hid fun w' hb =>
          l03Greatest_any w'.heap.size _ _ xs (early xs) k _ w' ((hL.out.below (below_on hB2.out (Nat.le_refl _) hb) hB).mono (Nat.le_trans hB (below_on hB2.out (Nat.le_refl _) hb).size)) ((by have := (hLst1.out.below hb (Nat.le_refl _)).mono hb.size; rw [show (early xs).length = n by rw [hEn.out]] at *; exact this)) hFt.out (by rw [hN.out]; exact hlt) (by rw [hEn.out, hN.out]; exact Nat.le_refl _) (hBe.out.mono (by omega) (by omega)) hE.1 (by omega)
        have hfb := freeAt_bound hFt.out k
        have he1 := hBe.out k
        have hS := Lib.hid (hFa.out k)
        generalize lateAt xs (early xs) k (endOf xs (early xs)) = y3 at *
        generalize (early xs).getD k 0 = y1 at *
        have hw1 : IntKind.i64.wrap (y3 - y1) = y3 - y1 := IntWalk.i64_in _ (by omega)
        have hkI : (k : Int) < n := by omega
        have hs5 := Lib.hid (show w2.heap.size ≤ wr.heap.size from hB5.out.size)
        go_wp2_with fail
        go_region_held3 (fun w' => (w'.cell? ⟨g1, o1 + k, none⟩ = some (.int .i64 y1)) ∧ Below w2.heap.size w2 w') ((first | exact h7.out | exact h8.out | exact hS0.out _ hB5.out | exact hS0.out _ hB5.out.drew | exact hS0.out _ (hB8.out.alloc hB8.out.size _).drew | exact hS0.out _ (hB8.out.alloc hB8.out.size _))) ((first | (go_at_call 66; refine (hG.out _ (by first | exact hB5.out | exact hB5.out.drew)).mono ?_; rintro e w8 ⟨m8, rfl, hw8⟩; have hB8 := Lib.hid (show Below w2.heap.size w2 w8 by rw [hw8]; exact Lst.Below.drewN (by first | exact hB5.out | exact hB5.out.drew) m8); have hO8 := Lib.hid (show w8.ownsRow w2.heap.size 2 1 _ k _ by rw [hw8]; exact hO5.out); have h8 := Lib.hid (hS0.out w8 hB8.out); clear hw8) | (refine step_append_lies _ (by rfl) _ _ _ (by rfl) w2.heap.size 2 i0 (.int .i64 0) 1 8 Try.underlying30 hi hz0 hz1 hz2 rfl (by decide) _ k _ (by rfl) (hO8.out.alloc _) ⟨w8.heap.size, 0, none⟩ 1 1 [.int .i64 (y3 - y1)] (by rfl) rfl (news_oneN w8 _ _ ()) (one_cell _) (by omega) (by unfold maxLen; omega) (by omega) (alloc_le hB8.out.size _) (w8.heap.size + 1) (alloc_eq _ _) ?_; intro g cp w6 hown6 hgrow6 hat6 hlt6; have hB7 := Lib.hid (below_appendN hB8.out hO8.out hgrow6 hB8.out.size); have hO7 := Lib.hid hown6; have h7 := Lib.hid (hS0.out w6 hB7.out); clear hat6 hlt6 hown6 hgrow6)))
        have hO9 := Lib.hid (show w6.ownsRow w2.heap.size 2 1 (.slice (some ⟨g, 0, none⟩) (k + 1) cp) (k + 1) ((fill (freeAt xs) (k + 1)).map (Value.int .i64)) by rw [fill_succ, List.map_append, hS.out]; exact hO7.out)
        clear hO7 h7 hO5 hB5 hS0 d1 hO8 h8 hB8 hG
        go_wp2_with fail
        go_roundw
        case rel => first | exact ⟨k + 1, by omega, by go_num, hO9, hB7⟩ | exact ⟨k + 1, by omega, by go_num, Lib.hid hO9.out.drew, Lib.hid hB7.out.drew⟩
        case measure => simp [intOf]; omega
      · have hk2 : k = n := by omega
        subst hk2
        have hO6 := hO5.out
        rw [← hEnd.out] at hO6
        have hO7 := Lib.hid ((Own.new hO6 (by unfold maxLen; omega)).mono hsz.out (Nat.le_refl _))
        have hB6 := Lib.hid (below_on hB2.out (Nat.le_refl _) hB5.out)
        clear hO6 hO5 hB5
        go_wp2_with fail
        exact hP.out _ _ hO7.out hB6.out

theorem earlyPost_no {xs : List TaskD} {w w' : World} {e : Ending} (h : areTasks xs = false) (hp : EarlyPost xs w e w') : e = .returned (.tuple #[.slice none 0 0, .int .i64 0, .bool false]) ∧ Below w.heap.size w w' ∨ ∃ v', e = .returned (.tuple #[v', .int .i64 0, .bool false]) ∧ (∃ a n c, v' = .slice a n c) ∧ Below w.heap.size w w' := by
  obtain ⟨v', he, ho, hb⟩ := hp
  refine .inr ⟨v', ?_, own_slice ho, hb⟩
  rw [he, h]; unfold earlyEnd; rw [h]; rfl
theorem earlyPost_yes {xs : List TaskD} {w w' : World} {e : Ending} (h : areTasks xs = true) (hp : EarlyPost xs w e w') : ∃ v', e = .returned (.tuple #[v', .int .i64 (endOf xs (early xs)), .bool true]) ∧ Own w.heap.size w'.heap.size w' v' 2 1 (early xs).length ((early xs).map (Value.int .i64)) ∧ Below w.heap.size w w' := by
  obtain ⟨v', he, ho, hb⟩ := hp
  unfold earlyEnd earlyRes at *
  rw [if_pos h] at he
  rw [if_pos h] at ho
  exact ⟨v', by rw [he, h], ho, hb⟩
set_option maxHeartbeats 4000000 in
set_option maxRecDepth 100000 in
theorem implFreeSlackOf_any (B : Nat) (v : Value) (xs : List TaskD) (w : World) (h : LstTask B w v xs) (hB : B ≤ w.heap.size) : Calls Try.prog 33 #[v] w (ListPost (freeRes xs) (areTasks xs) w) := by
  have hA := Lib.hid (implEarlyStarts_any B v xs w h hB)
  have hL := Lib.hid h
  obtain ⟨a, cap, rfl, hl, _⟩ := h
  obtain ⟨i0, hi, hz0, hz1, hz2⟩ := info_parts infoI
  cases hq : areTasks xs
  · have hP := Lib.hid (fun w' hb => list_no (w := w) (w' := w') hq (freeRes_no hq) hb)
    have hQ := Lib.hid (fun w' e hp => earlyPost_no (w := w) (w' := w') (e := e) hq hp)
    rw [hq] at hP
    generalize ListPost (freeRes xs) _ w = POST at *
    clear hq
    go_enter Try.func33, Try.ntmps33
    go_wp2_with fail
    refine (hA.out).mono ?_
    intro e w1 hp
    rcases hQ.out _ _ hp with ⟨rfl, hb1⟩ | ⟨v1, rfl, ⟨a1, n1, c1, rfl⟩, hb1⟩
    · have hB1 := Lib.hid hb1
      clear hb1 hp
      go_wp2_with fail
      exact hP.out _ hB1.out
    · have hB1 := Lib.hid hb1
      clear hb1 hp
      go_wp2_with fail
      exact hP.out _ hB1.out
  · have hP := Lib.hid (fun w' v ho hb => list_yes (w := w) (w' := w') (r := freeRes xs) (v := v) hq (by rw [freeRes_yes hq]; exact freeOf_length xs) ho hb)
    have hQ := Lib.hid (fun w' e hp => earlyPost_yes (w := w) (w' := w') (e := e) hq hp)
    rw [freeRes_yes hq] at hP
    rw [freeRes_yes hq]
    rw [hq] at hP
    have hFt := Lib.hid (areTasks_fit hq)
    generalize ListPost (freeOf xs) _ w = POST at *
    have hE := endOf_bound hFt.out
    have hm : xs.length ≤ 16 := hFt.out.most
    clear hq
    unfold maxLen at hl
    go_enter Try.func33, Try.ntmps33
    go_wp2_with fail
    refine (hA.out).mono ?_
    intro e w1 hp
    obtain ⟨v1, rfl, ho1, hb1⟩ := hQ.out _ _ hp
    have hB1 := Lib.hid hb1
    have hO1 := Lib.hid ho1
    obtain ⟨a1, c1, rfl⟩ := own_slice_n ho1
    clear ho1 hb1 hp
    rw [early_length]
    have hEn := Lib.hid (early_length xs)
    generalize hnn : xs.length = n at *
    have hN := Lib.hid hnn
    clear hnn
    go_wp2_with (at_make; refine wpList_make_full _ rfl _ _ _ rfl w1.heap.size _ i0 (.int .i64 0) 1 Try.underlying30 hi hz0 hz1 _ _ _ _ n rfl rfl rfl rfl ?c1 ?c2 ?c3 ?_)
    case c1 => first | (rw [hz2]; omega) | omega
    case c2 => unfold maxLen; omega
    try case c3 => exact Nat.le_refl _
    intro w2 hown0 hg0
    have hb2 : Below w1.heap.size w1 w2 := (Below.refl _ _).grown hg0 (Nat.le_refl _) (fun k hk => by cases hk)
    have hB2 := Lib.hid hb2
    have hs2 : w1.heap.size < w2.heap.size := (hown0.lt _ rfl).2
    have hO := Lib.hid (show w2.ownsRow w1.heap.size 2 1 (.slice (some ⟨w1.heap.size, 0, none⟩) n n) n ((fillTo (List.replicate n 0) (freeAt xs) 0).map (Value.int .i64)) from zeros_own' hown0)
    clear hown0 hg0 hz0 hz1 hz2 hi hb2
    go_wp2_with fail
    refine (latestBy_any _ _ _ _ _ _ _ _).mono ?_
    rintro q w3 ⟨rfl, hb3, hsz3, k0, k1, k2⟩
    have hO3 := Lib.hid (ownsRow_kept hO.out hb3)
    have hB3 := Lib.hid (below_on hB2.out (Nat.le_refl _) hb3)
    have hsz4 : w2.heap.size + 3 ≤ w3.heap.size := by omega
    have hK0 := Lib.hid k0
    have hK1 := Lib.hid k1
    have hK2 := Lib.hid k2
    clear hO hb3 k0 k1 k2 hsz3
    generalize w2.heap.size = p at *
    go_wp2_with fail
    have hR4 : Hid (∀ (wr : World), Below w1.heap.size w1 wr → ∀ k, k < n → ∃ g o, a1 = some ⟨g, o, none⟩ ∧ g < w1.heap.size ∧ wr.cell? ⟨g, o + k, none⟩ = some (.int .i64 ((early xs).getD k 0))) := Lib.hid fun wr hb k hk => own_reads hO1.out hb (Nat.le_refl _) k (by rw [hEn.out]; exact hk)
    have hLst1 := Lib.hid (show LstI w1.heap.size w1 (.slice a1 n c1) (early xs) by have := hO1.out.lstI (Nat.le_refl w1.heap.size); rw [hEn.out] at this; exact this)
    have hBe := Lib.hid (early_bound hFt.out)
    have hFa : Hid (∀ k, lateAt xs (early xs) k (endOf xs (early xs)) - (early xs).getD k 0 = freeAt xs k) := Lib.hid fun _ => rfl
    have hLen : Hid (∀ k, (fillTo (List.replicate n 0) (freeAt xs) k).length = n) := Lib.hid fun k => by rw [fillTo_length]; simp
    have hStep : Hid (∀ k, fillTo (List.replicate n 0) (freeAt xs) (k + 1) = (fillTo (List.replicate n 0) (freeAt xs) k).set k (freeAt xs k)) := Lib.hid fun _ => rfl
    have hEnd : Hid (fillTo (List.replicate n 0) (freeAt xs) n = freeOf xs) := Lib.hid (by rw [fillTo_all (by simp)]; unfold freeOf; rw [hN.out])
    have hsz := Lib.hid hB1.out.size
    go_loopw [28] (fun i wr => ∃ k : Nat, k ≤ n ∧ i = .int .i64 k ∧ Hid (wr.ownsRow w1.heap.size 2 1 (.slice (some ⟨w1.heap.size, 0, none⟩) n n) n ((fillTo (List.replicate n 0) (freeAt xs) k).map (Value.int .i64))) ∧ Hid (Below w1.heap.size w1 wr) ∧ p + 3 ≤ wr.heap.size ∧ Hid (wr.cell? ⟨p, 0, none⟩ = some (.slice a n cap)) ∧ Hid (wr.cell? ⟨p + 1, 0, none⟩ = some (.slice a1 n c1)) ∧ Hid (wr.cell? ⟨p + 2, 0, none⟩ = some (.int .i64 (endOf xs (early xs))))) (fun i _ => n - (intOf i).toNat)
    case atStart => exact ⟨0, Nat.zero_le _, rfl, hO3, hB3, hsz4, hK0, hK1, hK2⟩
    case round =>
      obtain ⟨k, hk, rfl, hO5, hB5, hs5, hK0, hK1, hK2⟩ := hrel
      by_cases hlt : k < n
      · obtain ⟨g1, o1, rfl, g1lt, d1⟩ := hR4.out wr hB5.out k hlt
        have hG := Lib.hid (latestFn_any wr.heap.size _ _ _ _ _ xs (early xs) k (endOf xs (early xs)) wr ((hL.out.below (below_on hB1.out (Nat.le_refl _) hB5.out) hB).mono (Nat.le_trans hB (below_on hB1.out (Nat.le_refl _) hB5.out).size)) ((hLst1.out.below hB5.out (Nat.le_refl _)).mono hB5.out.size) (Nat.le_refl _) hFt.out (by rw [hN.out]; exact hlt) (by rw [hEn.out, hN.out]; exact Nat.le_refl _) (hBe.out.mono (by omega) (by omega)) hE.1 (by omega) hK2.out hK0.out hK1.out (by show p + 2 < _; omega) (by show p < _; omega) (by show p + 1 < _; omega))
        have hfb := freeAt_bound hFt.out k
        have he1 := hBe.out k
        have hSe := hFa.out k
        have hSt := Lib.hid (hStep.out k)
        have hlen := hLen.out k
        generalize lateAt xs (early xs) k (endOf xs (early xs)) = y3 at *
        generalize (early xs).getD k 0 = y1 at *
        have hw1 : IntKind.i64.wrap (y3 - y1) = freeAt xs k := by rw [← hSe]; exact IntWalk.i64_in _ (by omega)
        have hkI : (k : Int) < n := by omega
        clear hSe
        go_wp2_with fail
        refine (hG.out).mono ?_
        rintro q w6 ⟨rfl, hb6⟩
        have hO6 := ownsRow_kept hO5.out hb6
        have hB6 := Lib.hid (below_on hB5.out (Nat.le_refl _) hb6)
        have hs6 : p + 3 ≤ w6.heap.size := Nat.le_trans hs5 hb6.size
        have hK3 := Lib.hid ((hb6.cell (p := ⟨p, 0, none⟩) (show p < _ by omega)).trans hK0.out)
        have hK4 := Lib.hid ((hb6.cell (p := ⟨p + 1, 0, none⟩) (show p + 1 < _ by omega)).trans hK1.out)
        have hK5 := Lib.hid ((hb6.cell (p := ⟨p + 2, 0, none⟩) (show p + 2 < _ by omega)).trans hK2.out)
        obtain ⟨u0, hdst⟩ : ∃ u, w6.cell? ⟨w1.heap.size, k, none⟩ = some u := ⟨_, (hO6.cellAt k (by omega)).trans (List.getElem?_eq_getElem (by rw [List.length_map]; omega))⟩
        have hfr : w6.frozen? ⟨w1.heap.size, k, none⟩ = false := hO6.frozenAt k
        have hst := hO6.stored k (.int .i64 (freeAt xs k))
        rw [← List.map_set, ← hSt.out] at hst
        have hO7 := Lib.hid hst.1
        have hB7 := Lib.hid (hB6.out.setCell (p := ⟨w1.heap.size, k, none⟩) (Nat.le_refl _) (.int .i64 (freeAt xs k)))
        have hs7 : p + 3 ≤ (w6.setCell ⟨w1.heap.size, k, none⟩ (.int .i64 (freeAt xs k))).heap.size := by simpa [World.setCell] using hs6
        have hK6 := Lib.hid (show (w6.setCell ⟨w1.heap.size, k, none⟩ (.int .i64 (freeAt xs k))).cell? ⟨p, 0, none⟩ = _ from (World.cell?_of_block (w := w6) (Below.heap_setCell w6 ⟨w1.heap.size, k, none⟩ _ p (by show p ≠ w1.heap.size; omega))).trans hK3.out)
        have hK7 := Lib.hid (show (w6.setCell ⟨w1.heap.size, k, none⟩ (.int .i64 (freeAt xs k))).cell? ⟨p + 1, 0, none⟩ = _ from (World.cell?_of_block (w := w6) (Below.heap_setCell w6 ⟨w1.heap.size, k, none⟩ _ (p + 1) (by show p + 1 ≠ w1.heap.size; omega))).trans hK4.out)
        have hK8 := Lib.hid (show (w6.setCell ⟨w1.heap.size, k, none⟩ (.int .i64 (freeAt xs k))).cell? ⟨p + 2, 0, none⟩ = _ from (World.cell?_of_block (w := w6) (Below.heap_setCell w6 ⟨w1.heap.size, k, none⟩ _ (p + 2) (by show p + 2 ≠ w1.heap.size; omega))).trans hK5.out)
        clear hst hO6 hG hO5 hB5 hs5 hK0 hK1 hK2 hK3 hK4 hK5 hb6 hlen d1
        go_wp2_with fail
        go_roundw
        case rel => exact ⟨k + 1, by omega, by go_num, hO7, hB7, hs7, hK6, hK7, hK8⟩
        case measure => simp [intOf]; omega
      · have hk2 : k = n := by omega
        subst hk2
        have hO6 := hO5.out
        rw [hEnd.out] at hO6
        have hO7 := Lib.hid ((Own.new hO6 (by unfold maxLen; omega)).mono hsz.out (Nat.le_refl _))
        have hB6 := Lib.hid (below_on hB1.out (Nat.le_refl _) hB5.out)
        clear hO6 hO5 hB5
        go_wp2_with fail
        exact hP.out _ _ hO7.out hB6.out
theorem freeSlackOf_both (xs : List TaskD) (_ : ∀ y ∈ xs, y.wf) : ∃ (r0 : List Int) (r1 : Bool), r0.length ≤ 1048576 ∧
    (∀ (B : Nat) (v : Value) (w : World), LstTask B w v xs → B ≤ w.heap.size → Calls Try.prog 32 #[v] w fun e w' => ∃ v', e = .returned (.tuple #[v', .bool r1]) ∧ Own w.heap.size w'.heap.size w' v' 2 1 r0.length (r0.map (Value.int .i64)) ∧ Below w.heap.size w w') ∧
    (∀ (B : Nat) (v : Value) (w : World), LstTask B w v xs → B ≤ w.heap.size → Calls Try.prog 33 #[v] w fun e w' => ∃ v', e = .returned (.tuple #[v', .bool r1]) ∧ Own w.heap.size w'.heap.size w' v' 2 1 r0.length (r0.map (Value.int .i64)) ∧ Below w.heap.size w w') :=
  ⟨freeRes xs, areTasks xs, freeRes_length xs, fun B v w h hB => specFreeSlackOf_any B v xs w h hB, fun B v w h hB => implFreeSlackOf_any B v xs w h hB⟩
end Go.Proofs.Ytlgojbbhjhifhaa
