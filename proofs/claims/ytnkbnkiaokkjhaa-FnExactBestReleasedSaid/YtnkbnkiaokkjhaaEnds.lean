/- Contracts: when jobs end in an order. -/
import Derived.Test.YtnkbnkiaokkjhaaOrder
import Derived.Test.YtnkbnkiaokkjhaaTimes
namespace Go.Proofs.Ytnkbnkiaokkjhaa
open Go.RowKit Go.Lst Go.Plan

/-- One job more ends: as soon as the one before has ended, and it is released. -/
def endStep (xs : List JobD) (s : Int × List Int) (j : Int) : Int × List Int :=
  (max s.1 (xs.getD j.toNat default).Release + (xs.getD j.toNat default).Time, s.2.set j.toNat (max s.1 (xs.getD j.toNat default).Release + (xs.getD j.toNat default).Time))
/-- When the last one of the first k jobs of an order ends, and when each job ends. -/
def endsTo (xs : List JobD) (o : List Int) (k : Nat) : Int × List Int := (o.take k).foldl (endStep xs) (0, List.replicate xs.length 0)
def endsOf (xs : List JobD) (o : List Int) : List Int := (endsTo xs o o.length).2
theorem endsTo_step {xs : List JobD} {o : List Int} {k : Nat} {j : Int} (h : o[k]? = some j) : endsTo xs o (k + 1) = endStep xs (endsTo xs o k) j := by
  unfold endsTo
  rw [List.take_add_one, h]
  simp
theorem endsTo_length (xs : List JobD) (o : List Int) (k : Nat) : (endsTo xs o k).2.length = xs.length := by
  unfold endsTo
  generalize o.take k = l
  have : ∀ (l : List Int) (s : Int × List Int), s.2.length = xs.length → (l.foldl (endStep xs) s).2.length = xs.length := by
    intro l
    induction l with
    | nil => intro s h; exact h
    | cons a l ih => intro s h; exact ih _ (by simp [endStep, h])
  exact this l _ (by simp)
theorem endsOf_length (xs : List JobD) (o : List Int) : (endsOf xs o).length = xs.length := endsTo_length xs o _
/-- What is known of the round k. -/
theorem ends_round {xs : List JobD} {o : List Int} (hj : areJobs xs = true) (ho : isOrd o xs.length = true) {k : Nat} {f : Int} {es : List Int} (hk : k < xs.length) (hS : endsTo xs o k = (f, es)) (h0 : 0 ≤ f) (h1 : f ≤ 10000 + 10000 * k) :
    ∃ (j : Nat) (x : JobD), o[k]? = some (j : Int) ∧ j < xs.length ∧ xs[j]? = some x ∧ (1 ≤ x.Time ∧ x.Time ≤ 10000) ∧ (0 ≤ x.Release ∧ x.Release ≤ 10000) ∧
      endsTo xs o (k + 1) = (max f x.Release + x.Time, es.set j (max f x.Release + x.Time)) ∧ 0 ≤ max f x.Release + x.Time ∧ max f x.Release + x.Time ≤ 10000 + 10000 * ((k + 1 : Nat) : Int) := by
  have hl := isOrd_len ho
  have e1 : o[k]? = some (o[k]'(by omega)) := List.getElem?_eq_getElem _
  obtain ⟨h2, h3⟩ := isOrd_get ho e1
  obtain ⟨j, hj2⟩ := Int.eq_ofNat_of_zero_le h2
  rw [hj2] at e1 h3
  have e2 : xs[j]? = some (xs[j]'(by omega)) := List.getElem?_eq_getElem _
  obtain ⟨ht, hr, _, _⟩ := okJob_of ((areJobs_of hj).2.2 j _ e2)
  refine ⟨j, _, e1, by omega, e2, ht, hr, ?_, by omega, by omega⟩
  rw [endsTo_step e1, hS]
  unfold endStep
  have e3 : xs.getD ((j : Int)).toNat default = xs[j]'(by omega) := by rw [Int.toNat_natCast, List.getD_eq_getElem?_getD, e2]; rfl
  rw [e3, Int.toNat_natCast]

theorem ends_small {xs : List JobD} {o : List Int} (hj : areJobs xs = true) (ho : isOrd o xs.length = true) : ∀ k, k ≤ xs.length → (0 ≤ (endsTo xs o k).1 ∧ (endsTo xs o k).1 ≤ 10000 + 10000 * k) ∧ Small (endsTo xs o k).2 (10000 + 10000 * k)
  | 0, _ => ⟨by show (0 : Int) ≤ 0 ∧ (0 : Int) ≤ 10000 + 10000 * ((0 : Nat) : Int); omega, fun i => by
      show 0 ≤ (List.replicate xs.length (0 : Int)).getD i 0 ∧ _
      rw [List.getD_eq_getElem?_getD]
      have : (endsTo xs o 0).2 = List.replicate xs.length 0 := rfl
      rw [this, List.getD_eq_getElem?_getD, List.getElem?_replicate]
      split <;> simp⟩
  | k + 1, hk => by
    obtain ⟨⟨h1, h2⟩, h3⟩ := ends_small hj ho k (by omega)
    obtain ⟨j, x, _, _, _, _, _, hS, h4, h5⟩ := ends_round hj ho (k := k) (f := (endsTo xs o k).1) (es := (endsTo xs o k).2) (by omega) rfl h1 h2
    rw [hS]
    exact ⟨⟨h4, h5⟩, h3.set ⟨h4, h5⟩ (by omega)⟩
set_option maxHeartbeats 4000000 in
theorem endsIn_any (B : Nat) (v1 v2 : Value) (xs : List JobD) (o : List Int) (w : World) (h1 : LstJob B w v1 xs) (h2 : LstI B w v2 o) (hj : areJobs xs = true) (ho : isOrd o xs.length = true) (hB : B ≤ w.heap.size) :
    Calls Try.prog 50 #[v1, v2] w fun e w' => ∃ v', e = .returned v' ∧ Own w.heap.size w'.heap.size w' v' 2 1 xs.length ((endsOf xs o).map (Value.int .i64)) ∧ Below w.heap.size w w' := by
  obtain ⟨a1, cap1, rfl, hl1, _, _, hc1⟩ := h1.at_
  obtain ⟨a2, cap2, rfl, hl2, _, _, hc2⟩ := h2.at_
  obtain ⟨i0, hi, hz0, hz1, hz2⟩ := info_parts infoI
  have hol : o.length = xs.length := by have := isOrd_len ho; omega
  have h24 := (areJobs_of hj).2.1
  have hR : Hid (∀ (k : Nat) (f : Int) (es : List Int), k < xs.length → endsTo xs o k = (f, es) → 0 ≤ f → f ≤ 10000 + 10000 * k → _) := Lib.hid fun k f es a b c d => ends_round hj ho (k := k) (f := f) (es := es) a b c d
  have hE : Hid (endsOf xs o = (endsTo xs o xs.length).2) := Lib.hid (by unfold endsOf; rw [hol])
  have hLen : Hid (∀ k, (endsTo xs o k).2.length = xs.length) := Lib.hid (endsTo_length xs o)
  have hZ : Hid (endsTo xs o 0 = (0, List.replicate xs.length 0)) := Lib.hid rfl
  rw [hol] at hc2 hl2 ⊢
  have hC1 := Lib.hid hc1
  have hC2 := Lib.hid hc2
  clear h1 h2 hc1 hc2 hj ho hol
  generalize xs.length = n at *
  go_enter Try.func50, Try.ntmps50
  go_wp2_with (at_make; refine wpList_make_full _ rfl _ _ _ rfl w.heap.size _ i0 (.int .i64 0) 1 Try.underlying24 hi hz0 hz1 _ _ _ _ n rfl rfl rfl rfl ?c1 ?c2 ?c3 ?_)
  case c1 => rw [hz2]; omega
  case c2 => unfold maxLen; omega
  case c3 => exact Nat.le_refl _
  intro w0 hown0 hg0
  have hB0 := Lib.hid (show Below w.heap.size w w0 from (Below.refl _ _).grown hg0 (Nat.le_refl _) (fun k hk => by cases hk))
  have hs0 : w.heap.size < w0.heap.size := (hown0.lt _ rfl).2
  have hO := Lib.hid (show w0.ownsRow w.heap.size 2 1 (.slice (some ⟨w.heap.size, 0, none⟩) n n) n ((List.replicate n (0 : Int)).map (Value.int .i64)) by
    rw [toList_madeCells_one] at hown0; simpa [List.map_replicate] using hown0)
  clear hown0 hg0 hz0 hz1 hz2 hi
  go_wp2
  go_loopw [6, 14] (fun fr i wr => ∃ (k : Nat) (f : Int) (es : List Int), k ≤ n ∧ i = .int .i64 k ∧ fr = .int .i64 f ∧ 0 ≤ f ∧ f ≤ 10000 + 10000 * k ∧ Hid (endsTo xs o k = (f, es)) ∧ Hid (wr.ownsRow w.heap.size 2 1 (.slice (some ⟨w.heap.size, 0, none⟩) n n) n (es.map (Value.int .i64))) ∧ Hid (Below w.heap.size w wr) ∧ w.heap.size < wr.heap.size) (fun _ i _ => n - (intOf i).toNat)
  case atStart => exact ⟨0, 0, _, Nat.zero_le _, rfl, rfl, by omega, by omega, hZ, hO, hB0, hs0⟩
  case round =>
    obtain ⟨k, f, es, hk, rfl, rfl, hf0, hf1, hS, hO1, hB1, hs1⟩ := hrel
    by_cases hlt : k < n
    · obtain ⟨j, x, hoj, hjn, hx, ht, hr, hS2, hb0, hb1⟩ := hR.out k f es hlt hS.out hf0 hf1
      obtain ⟨b1, o1, x', rfl, hbB1, hx', p0, p1, p2, p3⟩ := hC1.out j hjn
      obtain rfl : x' = x := by rw [hx] at hx'; exact (Option.some.inj hx').symm
      obtain ⟨b2, o2, j', rfl, hbB2, hj', q0⟩ := hC2.out k hlt
      obtain rfl : j' = (j : Int) := by rw [hoj] at hj'; exact (Option.some.inj hj').symm
      have hS3 := Lib.hid hS2
      rw [← hB1.out.cell (p := ⟨b1, o1 + j * 4, none⟩) (show b1 < w.heap.size by omega)] at p0
      rw [← hB1.out.cell (p := ⟨b1, o1 + j * 4 + 1, none⟩) (show b1 < w.heap.size by omega)] at p1
      rw [← hB1.out.cell (p := ⟨b2, o2 + k, none⟩) (show b2 < w.heap.size by omega)] at q0
      clear hx hx' hoj hj' hS2 hS p2 p3 hbB1 hbB2
      go_wp2_with fail
      go_quiet (fail)
      simp only [mx_eq]
      generalize max f x'.Release + x'.Time = f2 at *
      generalize hwd : wr.drewN _ = wd at *
      have hO2 := Lib.hid (show wd.ownsRow w.heap.size 2 1 (.slice (some ⟨w.heap.size, 0, none⟩) n n) n (es.map (Value.int .i64)) by rw [← hwd]; exact ownsRow_drewN hO1.out _)
      have hB2 := Lib.hid (show Below w.heap.size w wd by rw [← hwd]; exact Lst.Below.drewN hB1.out _)
      have hs2 : w.heap.size < wd.heap.size := by rw [← hwd]; exact hs1
      have hel : es.length = n := by have := hO1.out.1; rw [List.length_map] at this; omega
      obtain ⟨u0, hdst⟩ : ∃ u, wd.cell? ⟨w.heap.size, j, none⟩ = some u := ⟨_, (hO2.out.cellAt j (by omega)).trans (List.getElem?_eq_getElem (by rw [List.length_map]; omega))⟩
      have hfr : wd.frozen? ⟨w.heap.size, j, none⟩ = false := hO2.out.frozenAt j
      have hO3 := Lib.hid (show (wd.setCell ⟨w.heap.size, j, none⟩ (.int .i64 f2)).ownsRow w.heap.size 2 1 (.slice (some ⟨w.heap.size, 0, none⟩) n n) n ((es.set j f2).map (Value.int .i64)) by
        rw [List.map_set]; exact (hO2.out.stored j (.int .i64 f2)).1)
      have hB3 := Lib.hid (hB2.out.setCell (p := ⟨w.heap.size, j, none⟩) (Nat.le_refl _) (.int .i64 f2))
      have hs3 := Lib.hid (show w.heap.size < (wd.setCell ⟨w.heap.size, j, none⟩ (.int .i64 f2)).heap.size by simpa [World.setCell] using hs2)
      clear hwd hO1 hO2 hB1 hB2 hel hs1 hs2
      go_wp2_with fail
      go_roundw
      case rel => exact ⟨k + 1, _, _, by omega, by go_num, rfl, hb0, hb1, hS3, hO3, hB3, hs3.out⟩
      case measure => simp [intOf]; omega
    · have hkn : k = n := by omega
      have hO3 := hO1.out
      have hF : endsOf xs o = es := by rw [hE.out, ← hkn, hS.out]
      rw [← hF] at hO3
      have hO4 := Lib.hid hO3
      clear hO3 hkn hO1 hF hS
      go_wp2
      go_ret
      exact ⟨_, rfl, Own.new hO4.out (by omega), hB1.out⟩
set_option maxHeartbeats 4000000 in
theorem l02Ends_any (B : Nat) (v1 v2 : Value) (xs : List JobD) (o : List Int) (w : World) (h1 : LstJob B w v1 xs) (h2 : LstI B w v2 o) (hj : areJobs xs = true) (ho : isOrd o xs.length = true) (hB : B ≤ w.heap.size) :
    Calls Try.prog 36 #[v1, v2] w fun e w' => ∃ v', e = .returned v' ∧ Own w.heap.size w'.heap.size w' v' 2 1 xs.length ((endsOf xs o).map (Value.int .i64)) ∧ Below w.heap.size w w' := by
  obtain ⟨a1, cap1, rfl, hl1, _, _, hc1⟩ := h1.at_
  obtain ⟨a2, cap2, rfl, hl2, _, _, hc2⟩ := h2.at_
  obtain ⟨i0, hi, hz0, hz1, hz2⟩ := info_parts infoI
  have hol : o.length = xs.length := by have := isOrd_len ho; omega
  have h24 := (areJobs_of hj).2.1
  have hR : Hid (∀ (k : Nat) (f : Int) (es : List Int), k < xs.length → endsTo xs o k = (f, es) → 0 ≤ f → f ≤ 10000 + 10000 * k → _) := Lib.hid fun k f es a b c d => ends_round hj ho (k := k) (f := f) (es := es) a b c d
  have hE : Hid (endsOf xs o = (endsTo xs o xs.length).2) := Lib.hid (by unfold endsOf; rw [hol])
  have hLen : Hid (∀ k, (endsTo xs o k).2.length = xs.length) := Lib.hid (endsTo_length xs o)
  have hZ : Hid (endsTo xs o 0 = (0, List.replicate xs.length 0)) := Lib.hid rfl
  rw [hol] at hc2 hl2 ⊢
  have hC1 := Lib.hid hc1
  have hC2 := Lib.hid hc2
  clear h1 h2 hc1 hc2 hj ho hol
  generalize xs.length = n at *
  go_enter Try.func36, Try.ntmps36
  go_wp2_with (at_make; refine wpList_make_full _ rfl _ _ _ rfl w.heap.size _ i0 (.int .i64 0) 1 Try.underlying24 hi hz0 hz1 _ _ _ _ n rfl rfl rfl rfl ?c1 ?c2 ?c3 ?_)
  case c1 => rw [hz2]; omega
  case c2 => unfold maxLen; omega
  case c3 => exact Nat.le_refl _
  intro w0 hown0 hg0
  have hB0 := Lib.hid (show Below w.heap.size w w0 from (Below.refl _ _).grown hg0 (Nat.le_refl _) (fun k hk => by cases hk))
  have hs0 : w.heap.size < w0.heap.size := (hown0.lt _ rfl).2
  have hO := Lib.hid (show w0.ownsRow w.heap.size 2 1 (.slice (some ⟨w.heap.size, 0, none⟩) n n) n ((List.replicate n (0 : Int)).map (Value.int .i64)) by
    rw [toList_madeCells_one] at hown0; simpa [List.map_replicate] using hown0)
  clear hown0 hg0 hz0 hz1 hz2 hi
  go_wp2
  go_loopw [6, 7] (fun fr i wr => ∃ (k : Nat) (f : Int) (es : List Int), k ≤ n ∧ i = .int .i64 k ∧ fr = .int .i64 f ∧ 0 ≤ f ∧ f ≤ 10000 + 10000 * k ∧ Hid (endsTo xs o k = (f, es)) ∧ Hid (wr.ownsRow w.heap.size 2 1 (.slice (some ⟨w.heap.size, 0, none⟩) n n) n (es.map (Value.int .i64))) ∧ Hid (Below w.heap.size w wr) ∧ w.heap.size < wr.heap.size) (fun _ i _ => n - (intOf i).toNat)
  case atStart => exact ⟨0, 0, _, Nat.zero_le _, rfl, rfl, by omega, by omega, hZ, hO, hB0, hs0⟩
  case round =>
    obtain ⟨k, f, es, hk, rfl, rfl, hf0, hf1, hS, hO1, hB1, hs1⟩ := hrel
    by_cases hlt : k < n
    · obtain ⟨j, x, hoj, hjn, hx, ht, hr, hS2, hb0, hb1⟩ := hR.out k f es hlt hS.out hf0 hf1
      obtain ⟨b1, o1, x', rfl, hbB1, hx', p0, p1, p2, p3⟩ := hC1.out j hjn
      obtain rfl : x' = x := by rw [hx] at hx'; exact (Option.some.inj hx').symm
      obtain ⟨b2, o2, j', rfl, hbB2, hj', q0⟩ := hC2.out k hlt
      obtain rfl : j' = (j : Int) := by rw [hoj] at hj'; exact (Option.some.inj hj').symm
      have hS3 := Lib.hid hS2
      rw [← hB1.out.cell (p := ⟨b1, o1 + j * 4, none⟩) (show b1 < w.heap.size by omega)] at p0
      rw [← hB1.out.cell (p := ⟨b1, o1 + j * 4 + 1, none⟩) (show b1 < w.heap.size by omega)] at p1
      rw [← hB1.out.cell (p := ⟨b2, o2 + k, none⟩) (show b2 < w.heap.size by omega)] at q0
      clear hx hx' hoj hj' hS2 hS p2 p3 hbB1 hbB2
      go_wp2_with fail
      go_quiet ((go_at_call 52; exact Ret.quiet (Ret.same (l00Max_any _ _ _))))
      generalize max f x'.Release + x'.Time = f2 at *
      generalize hwd : wr.drewN _ = wd at *
      have hO2 := Lib.hid (show wd.ownsRow w.heap.size 2 1 (.slice (some ⟨w.heap.size, 0, none⟩) n n) n (es.map (Value.int .i64)) by rw [← hwd]; exact ownsRow_drewN hO1.out _)
      have hB2 := Lib.hid (show Below w.heap.size w wd by rw [← hwd]; exact Lst.Below.drewN hB1.out _)
      have hs2 : w.heap.size < wd.heap.size := by rw [← hwd]; exact hs1
      have hel : es.length = n := by have := hO1.out.1; rw [List.length_map] at this; omega
      obtain ⟨u0, hdst⟩ : ∃ u, wd.cell? ⟨w.heap.size, j, none⟩ = some u := ⟨_, (hO2.out.cellAt j (by omega)).trans (List.getElem?_eq_getElem (by rw [List.length_map]; omega))⟩
      have hfr : wd.frozen? ⟨w.heap.size, j, none⟩ = false := hO2.out.frozenAt j
      have hO3 := Lib.hid (show (wd.setCell ⟨w.heap.size, j, none⟩ (.int .i64 f2)).ownsRow w.heap.size 2 1 (.slice (some ⟨w.heap.size, 0, none⟩) n n) n ((es.set j f2).map (Value.int .i64)) by
        rw [List.map_set]; exact (hO2.out.stored j (.int .i64 f2)).1)
      have hB3 := Lib.hid (hB2.out.setCell (p := ⟨w.heap.size, j, none⟩) (Nat.le_refl _) (.int .i64 f2))
      have hs3 := Lib.hid (show w.heap.size < (wd.setCell ⟨w.heap.size, j, none⟩ (.int .i64 f2)).heap.size by simpa [World.setCell] using hs2)
      clear hwd hO1 hO2 hB1 hB2 hel hs1 hs2
      go_wp2_with fail
      go_roundw
      case rel => exact ⟨k + 1, _, _, by omega, by go_num, rfl, hb0, hb1, hS3, hO3, hB3, hs3.out⟩
      case measure => simp [intOf]; omega
    · have hkn : k = n := by omega
      have hO3 := hO1.out
      have hF : endsOf xs o = es := by rw [hE.out, ← hkn, hS.out]
      rw [← hF] at hO3
      have hO4 := Lib.hid hO3
      clear hO3 hkn hO1 hF hS
      go_wp2
      go_ret
      exact ⟨_, rfl, Own.new hO4.out (by omega), hB1.out⟩


end Go.Proofs.Ytnkbnkiaokkjhaa
