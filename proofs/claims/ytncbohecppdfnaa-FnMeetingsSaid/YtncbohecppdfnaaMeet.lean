/- Contracts: the least minute for all zones; the program's side. -/
import Derived.Test.YtncbohecppdfnaaLocal
import Derived.RangeFuncBox
namespace Go.Proofs.Ytncbohecppdfnaa
open Go.RowKit Go.Lst

theorem boxed_below0 {W W' : World} {b B : Nat} {t : TypeId} {v : Value} (h : Boxed W b t v) (hb : Below B W W') (hB : b < B) : Boxed W' b t v := (hb.block b hB).trans h
def closedAt (o c l : Int) (t : Int) (z : Int) : Bool := decide (remG (t + z) 1440 < o) || decide (c < remG (t + z) 1440 + l)
def anyClosed (zs : List Int) (o c l : Int) (t : Nat) : Bool := zs.any (closedAt o c l t)
def meetOk (zs : List Int) (o c l : Int) : Bool := decide (1 ≤ zs.length) && decide (zs.length ≤ 8) && allIn zs (-720) 840 && inB o 0 1439 && inB c o 1440 && inB l 1 1440
def meetAt (zs : List Int) (o c l : Int) : Option Nat := if meetOk zs o c l then (List.range 1440).find? fun t => !anyClosed zs o c l t else none
def MeetIs (zs : List Int) (o c l : Int) : World → Ending → World → Prop := NumPost (((meetAt zs o c l).map fun t => (t : Int)).getD 0) (meetAt zs o c l).isSome
theorem meet_no {zs : List Int} {o c l : Int} {w w' : World} (h : meetOk zs o c l = false) (hb : Below w.heap.size w w') : MeetIs zs o c l w (.returned (.tuple #[.int .i64 0, .bool false])) w' := by
  unfold MeetIs meetAt
  rw [h]
  exact ⟨rfl, hb⟩
theorem meet_none {zs : List Int} {o c l : Int} {w w' : World} (h : meetOk zs o c l = true) (hn : ∀ t, t < 1440 → anyClosed zs o c l t = true) (hb : Below w.heap.size w w') : MeetIs zs o c l w (.returned (.tuple #[.int .i64 0, .bool false])) w' := by
  unfold MeetIs meetAt
  rw [h, if_pos rfl, List.find?_eq_none.2 fun t ht => by rw [hn t (List.mem_range.1 ht)]; decide]
  exact ⟨rfl, hb⟩
theorem meet_some {zs : List Int} {o c l : Int} {w w' : World} {t : Nat} (h : meetOk zs o c l = true) (ht : t < 1440) (hn : ∀ i, i < t → anyClosed zs o c l i = true) (hf : anyClosed zs o c l t = false) (hb : Below w.heap.size w w') :
    MeetIs zs o c l w (.returned (.tuple #[.int .i64 t, .bool true])) w' := by
  unfold MeetIs meetAt
  rw [h, if_pos rfl, List.find?_range_eq_some.2 ⟨by rw [hf]; rfl, List.mem_range.2 ht, fun j hj => by rw [hn j hj]; rfl⟩]
  exact ⟨rfl, hb⟩

set_option maxHeartbeats 2000000 in
set_option maxRecDepth 100000 in
theorem isClosed_any (o c l z : Int) (t : Nat) (pm po pl pc : Addr) (w : World) (hm : w.cell? pm = some (.int .i64 t)) (ho : w.cell? po = some (.int .i64 o)) (hl : w.cell? pl = some (.int .i64 l)) (hc : w.cell? pc = some (.int .i64 c))
    (bm : pm.block < w.heap.size) (bo : po.block < w.heap.size) (bl : pl.block < w.heap.size) (bc : pc.block < w.heap.size) (ht : t < 1440) (hz : inB z (-720) 840 = true) (h1 : inB l 1 1440 = true) :
    Calls Try.prog 41 #[.int .i64 z, .pointer (some pm), .pointer (some po), .pointer (some pl), .pointer (some pc)] w fun e w' => e = .returned (.bool (closedAt o c l t z)) ∧ Below w.heap.size w w' := by
  have hok : locOk t z = true := by
    unfold locOk inB
    have := inB_true hz
    rw [Bool.and_eq_true, decide_eq_true_eq, decide_eq_true_eq]; omega
  have hL := Lib.hid (implLocalTime_any t z w)
  unfold LocIs LocPost at hL
  rw [hok] at hL
  have hV := Lib.hid (show closedAt o c l t z = (decide (remG ((t : Int) + z) 1440 < o) || decide (c < remG ((t : Int) + z) 1440 + l)) from rfl)
  have hr := remG_in (x := (t : Int) + z) (show (1 : Int) ≤ 1440 by omega)
  have hlb := inB_true h1
  unfold locM at hL
  generalize remG ((t : Int) + z) 1440 = r at *
  generalize closedAt o c l t z = q at *
  have hw1 : IntKind.i64.wrap (r + l) = r + l := IntWalk.i64_in _ (by omega)
  clear hok hz h1
  go_enter Try.func41, Try.ntmps41
  go_wp2_with fail
  with_reducible refine hL.out.mono ?_
  rintro e w1 ⟨rfl, hb⟩
  rw [← hb.cell (p := po) bo] at ho
  rw [← hb.cell (p := pl) bl] at hl
  rw [← hb.cell (p := pc) bc] at hc
  have hB := Lib.hid hb
  clear hb hm
  by_cases h1 : r < o
  · have hF := Lib.hid (show q = true by rw [hV.out, decide_eq_true h1]; rfl)
    go_wp2_with fail
    go_ret
    exact ⟨ret_bool hF.out.symm, hB.out⟩
  · have d1 : decide (r < o) = false := decide_eq_false h1
    have hF := Lib.hid (show decide (c < r + l) = q by rw [hV.out, d1, Bool.false_or])
    clear hV h1
    go_wp2_with fail
    go_ret
    exact ⟨ret_bool hF.out, hB.out⟩
set_option maxHeartbeats 4000000 in
theorem meetIndex_any (B : Nat) (v p1 p2 p3 p4 : Value) (zs : List Int) (f : Int → Bool) (w : World) (h : LstI B w v zs) (hB : B ≤ w.heap.size)
    (hCl : ∀ (w' : World) (z : Int), Below w.heap.size w w' → z ∈ zs → Calls Try.prog 41 #[.int .i64 z, p1, p2, p3, p4] w' fun e w'' => e = .returned (.bool (f z)) ∧ Below w'.heap.size w' w'') :
    Calls Try.prog 72 #[v, .func (.func 41) #[] #[p1, p2, p3, p4]] w fun e w' => (∃ r : Int, e = .returned (.int .i64 r) ∧ -1 ≤ r ∧ decide (0 ≤ r) = zs.any f) ∧ Below w.heap.size w w' := by
  obtain ⟨a, cap, rfl, hl, hcap, hcm, hc⟩ := h.at_
  have hX := Lib.hid hc
  have hC := Lib.hid hCl
  have hYes : Hid (∀ (k : Nat) (z : Int), zs[k]? = some z → f z = true → decide (0 ≤ (k : Int)) = zs.any f) := Lib.hid fun k z hz hf => by
    rw [decide_eq_true (by omega), List.any_eq_true.2 ⟨z, List.mem_of_getElem? hz, hf⟩]
  have hNo : Hid (∀ k, k = zs.length → (∀ (i : Nat) (z : Int), i < k → zs[i]? = some z → f z = false) → decide (0 ≤ (-1 : Int)) = zs.any f) := Lib.hid fun k hk hp => by
    rw [decide_eq_false (by omega)]
    symm
    rw [List.any_eq_false]
    intro z hz
    obtain ⟨i, hi, rfl⟩ := List.mem_iff_getElem.1 hz
    have := hp i _ (by omega) (List.getElem?_eq_getElem hi)
    simp [this]
  clear hc hCl h
  generalize zs.any f = res at *
  generalize zs.length = n at *
  unfold maxLen at hl hcm
  go_enter Try.func72, Try.ntmps72
  go_wp2_with fail
  go_loopw [8] (fun i wr => ∃ k : Nat, k ≤ n ∧ i = .int .i64 k ∧ Hid (∀ (i : Nat) (z : Int), i < k → zs[i]? = some z → f z = false) ∧ Hid (Below w.heap.size w wr)) (fun i _ => n - (intOf i).toNat)
  case atStart => exact ⟨0, Nat.zero_le _, rfl, Lib.hid (fun i z hi _ => by omega), Lib.hid (Below.refl _ _)⟩
  case round =>
    obtain ⟨k, hk, rfl, hP, hB1⟩ := hrel
    by_cases hlt : k < n
    · obtain ⟨b, o, z, rfl, hb, hz, hcell⟩ := hX.out k hlt
      rw [← hB1.out.cell (p := ⟨b, o + k, none⟩) (show b < w.heap.size by omega)] at hcell
      have hZz := Lib.hid hz
      have hck := Lib.hid (hC.out wr z hB1.out (List.mem_of_getElem? hz))
      clear hz hb
      go_wp2_with fail
      with_reducible refine (hck.out).mono ?_
      rintro e w3 ⟨rfl, hb3⟩
      have hB3 := Lib.hid (below_on hB1.out (Nat.le_refl _) hb3)
      clear hb3 hB1 hck hcell
      cases hq : f z
      · have hP2 : Hid (∀ (i : Nat) (x : Int), i < k + 1 → zs[i]? = some x → f x = false) := Lib.hid fun i y hi hy => by
          by_cases h1 : i < k
          · exact hP.out i y h1 hy
          · have : i = k := by omega
            subst this
            rw [hZz.out] at hy
            cases hy
            exact hq
        clear hP
        go_wp2_with fail
        go_roundw
        case rel => exact ⟨k + 1, by omega, by go_num, hP2, hB3⟩
        case measure => simp [intOf]; omega
      · have hD := Lib.hid (hYes.out k z hZz.out hq)
        go_wp2_with fail
        go_ret
        exact ⟨⟨_, rfl, by omega, hD.out⟩, hB3.out⟩
    · have hD := Lib.hid (hNo.out k (by omega) hP.out)
      go_wp2_with fail
      go_ret
      exact ⟨⟨_, rfl, by omega, hD.out⟩, hB1.out⟩
set_option maxHeartbeats 1000000 in
theorem meetContains_any (B : Nat) (v p1 p2 p3 p4 : Value) (zs : List Int) (f : Int → Bool) (w : World) (h : LstI B w v zs) (hB : B ≤ w.heap.size)
    (hCl : ∀ (w' : World) (z : Int), Below w.heap.size w w' → z ∈ zs → Calls Try.prog 41 #[.int .i64 z, p1, p2, p3, p4] w' fun e w'' => e = .returned (.bool (f z)) ∧ Below w'.heap.size w' w'') :
    Calls Try.prog 42 #[v, .func (.func 41) #[] #[p1, p2, p3, p4]] w fun e w' => e = .returned (.bool (zs.any f)) ∧ Below w.heap.size w w' := by
  have hI := Lib.hid (meetIndex_any B v p1 p2 p3 p4 zs f w h hB hCl)
  obtain ⟨a, cap, rfl, _⟩ := h
  generalize zs.any f = res at *
  clear hCl
  go_enter Try.func42, Try.ntmps42
  go_wp2_with fail
  with_reducible refine (hI.out).mono ?_
  rintro e w' ⟨⟨r, rfl, hr1, hr2⟩, hb⟩
  have hB1 := Lib.hid hb
  have hR2 := Lib.hid hr2
  clear hb hr2
  go_wp2_with fail
  go_ret
  exact ⟨ret_bool hR2.out, hB1.out⟩

set_option maxHeartbeats 8000000 in
set_option maxRecDepth 100000 in
theorem implMeetingTime_any (B : Nat) (v : Value) (zs : List Int) (o c l : Int) (w : World) (h : LstI B w v zs) (hB : B ≤ w.heap.size) :
    Calls Try.prog 11 #[v, .int .i64 o, .int .i64 c, .int .i64 l] w (MeetIs zs o c l w) := by
  have hNo : Hid (∀ w', meetOk zs o c l = false → Below w.heap.size w w' → MeetIs zs o c l w (.returned (.tuple #[.int .i64 0, .bool false])) w') := Lib.hid fun w' hh hb => meet_no hh hb
  have hNone : Hid (∀ w', meetOk zs o c l = true → (∀ t, t < 1440 → anyClosed zs o c l t = true) → Below w.heap.size w w' → MeetIs zs o c l w (.returned (.tuple #[.int .i64 0, .bool false])) w') := Lib.hid fun w' hh hn hb => meet_none hh hn hb
  have hSome : Hid (∀ (t : Nat) w', meetOk zs o c l = true → t < 1440 → (∀ i, i < t → anyClosed zs o c l i = true) → anyClosed zs o c l t = false → Below w.heap.size w w' → MeetIs zs o c l w (.returned (.tuple #[.int .i64 t, .bool true])) w') := Lib.hid fun t w' hh ht hn hf hb => meet_some hh ht hn hf hb
  have hOk : Hid (meetOk zs o c l = (decide (1 ≤ zs.length) && decide (zs.length ≤ 8) && allIn zs (-720) 840 && inB o 0 1439 && inB c o 1440 && inB l 1 1440)) := Lib.hid rfl
  generalize MeetIs zs o c l w = Q at *
  have hb1 := Lib.hid (below_alloc (below_alloc (below_alloc (Below.refl w.heap.size w) (.cells #[.int .i64 o] 2)) (.cells #[.int .i64 c] 2)) (.cells #[.int .i64 l] 2))
  have hZ := Lib.hid (areZones_any B v zs (((w.alloc (.cells #[.int .i64 o] 2)).alloc (.cells #[.int .i64 c] 2)).alloc (.cells #[.int .i64 l] 2)) (h.below hb1.out hB).lst)
  have hLw := Lib.hid h
  obtain ⟨a, cap, rfl, hl, hcap, hcm, _⟩ := h.at_
  clear h
  generalize hn : zs.length = n at *
  have hnn := Lib.hid hn
  clear hn
  unfold maxLen at hl hcm
  by_cases h1 : n < 1
  · have d1 : (n : Int) < 1 := by omega
    have hF := Lib.hid (hNo.out _ (by rw [hOk.out, decide_eq_false (show ¬ 1 ≤ n by omega)]; rfl) hb1.out)
    clear hNo hNone hSome
    go_enter Try.func11, Try.ntmps11
    go_wp2_with fail
    exact hF.out
  · have d1 : decide ((n : Int) < 1) = false := decide_eq_false (by omega)
    by_cases h2 : 8 < n
    · have d2 : (8 : Int) < (n : Int) := by omega
      have hF := Lib.hid (hNo.out _ (by rw [hOk.out, decide_eq_false (show ¬ n ≤ 8 by omega)]; simp) hb1.out)
      clear hNo hNone hSome
      go_enter Try.func11, Try.ntmps11
      go_wp2_with fail
      exact hF.out
    · have d2 : decide ((8 : Int) < (n : Int)) = false := decide_eq_false (by omega)
      cases h3 : allIn zs (-720) 840
      · have hF := Lib.hid (hNo.out _ (by rw [hOk.out, h3]; simp) hb1.out)
        rw [h3] at hZ
        clear hNo hNone hSome
        go_enter Try.func11, Try.ntmps11
        go_wp2_with (go_at_call 39; (with_reducible refine hZ.out.mono ?_); rintro e' w' ⟨rfl, rfl⟩)
        exact hF.out
      · rw [h3] at hZ
        cases h4 : inB o 0 1439
        · have hF := Lib.hid (hNo.out _ (by rw [hOk.out, h4]; simp) hb1.out)
          clear hNo hNone hSome
          go_enter Try.func11, Try.ntmps11
          go_wp2_with (first | (go_at_call 39; (with_reducible refine hZ.out.mono ?_); rintro e' w' ⟨rfl, rfl⟩) | (go_at_call 38; (with_reducible refine (isWithin_any _ _ _ _).mono ?_); rintro e' w' ⟨rfl, rfl⟩; rw [h4]))
          exact hF.out
        · cases h5 : inB c o 1440
          · have hF := Lib.hid (hNo.out _ (by rw [hOk.out, h5]; simp) hb1.out)
            clear hNo hNone hSome
            go_enter Try.func11, Try.ntmps11
            go_wp2_with (first | (go_at_call 39; (with_reducible refine hZ.out.mono ?_); rintro e' w' ⟨rfl, rfl⟩) | (go_at_call 38; (with_reducible refine (isWithin_any _ _ _ _).mono ?_); rintro e' w' ⟨rfl, rfl⟩; first | rw [h4] | rw [h5]))
            exact hF.out
          · cases h6 : inB l 1 1440
            · have hF := Lib.hid (hNo.out _ (by rw [hOk.out, h6]; simp) hb1.out)
              clear hNo hNone hSome
              go_enter Try.func11, Try.ntmps11
              go_wp2_with (first | (go_at_call 39; (with_reducible refine hZ.out.mono ?_); rintro e' w' ⟨rfl, rfl⟩) | (go_at_call 38; (with_reducible refine (isWithin_any _ _ _ _).mono ?_); rintro e' w' ⟨rfl, rfl⟩; first | rw [h4] | rw [h5] | rw [h6]))
              exact hF.out
            · have hK := hOk.out
              rw [decide_eq_true (show 1 ≤ n by omega), decide_eq_true (show n ≤ 8 by omega), h3, h4, h5, h6] at hK
              have hNone2 := Lib.hid (fun w' hn hb => hNone.out w' hK hn hb)
              have hSome2 := Lib.hid (fun t w' ht hn hf hb => hSome.out t w' hK ht hn hf hb)
              have x1 := (((Boxed.new w 2 (.int .i64 o)).alloc (.cells #[.int .i64 c] 2)).alloc (.cells #[.int .i64 l] 2))
              have x2 := ((Boxed.new (w.alloc (.cells #[.int .i64 o] 2)) 2 (.int .i64 c)).alloc (.cells #[.int .i64 l] 2))
              have x3 := Boxed.new ((w.alloc (.cells #[.int .i64 o] 2)).alloc (.cells #[.int .i64 c] 2)) 2 (.int .i64 l)
              simp only [World.size_alloc] at x2 x3
              have hX := Lib.hid (And.intro x1 (And.intro x2 x3))
              clear hNo hNone hSome hK hOk x1 x2 x3
              go_enter Try.func11, Try.ntmps11
              go_wp2_with (first | (go_at_call 39; (with_reducible refine hZ.out.mono ?_); rintro e' w' ⟨rfl, rfl⟩) | (go_at_call 38; (with_reducible refine (isWithin_any _ _ _ _).mono ?_); rintro e' w' ⟨rfl, rfl⟩; first | rw [h4] | rw [h5] | rw [h6]))
              obtain ⟨x1, x2, x3⟩ := hX.out
              have g3 := x3.lt
              generalize ((w.alloc _).alloc _).alloc _ = W1 at *
              clear hX
              have hX2 := Lib.hid (And.intro x1 (And.intro x2 x3))
              clear x1 x2 x3
              have hLW : Hid (LstI w.heap.size W1 (.slice a n cap) zs) := Lib.hid ((hLw.out.below hb1.out hB).mono hB)
              have hCon : Hid (∀ (wr : World) (t : Nat), Below W1.heap.size W1 wr → t < 1440 → Calls Try.prog 42 #[.slice a n cap, .func (.func 41) #[] #[.pointer (some ⟨wr.heap.size, 0, none⟩), .pointer (some ⟨w.heap.size, 0, none⟩), .pointer (some ⟨w.heap.size + 1 + 1, 0, none⟩), .pointer (some ⟨w.heap.size + 1, 0, none⟩)]] (wr.alloc (.cells #[.int .i64 t] 2)) fun e w' => e = .returned (.bool (anyClosed zs o c l t)) ∧ Below (wr.alloc (.cells #[.int .i64 t] 2)).heap.size (wr.alloc (.cells #[.int .i64 t] 2)) w') := Lib.hid fun wr t hb ht => by
                have hbk : Below W1.heap.size W1 (wr.alloc (.cells #[.int .i64 t] 2)) := hb.alloc hb.size _
                refine meetContains_any w.heap.size _ _ _ _ _ zs (closedAt o c l t) _ (hLW.out.below hbk (by omega)) (by have := hbk.size; omega) fun w' z hb' hz => ?_
                have b0 := boxed_below0 (Boxed.new wr 2 (.int .i64 t)) hb' (by simp)
                have b1 := boxed_below0 (boxed_below0 hX2.out.1 hbk hX2.out.1.lt) hb' (by have := hbk.size; omega)
                have b2 := boxed_below0 (boxed_below0 hX2.out.2.1 hbk hX2.out.2.1.lt) hb' (by have := hbk.size; omega)
                have b3 := boxed_below0 (boxed_below0 hX2.out.2.2 hbk hX2.out.2.2.lt) hb' (by have := hbk.size; omega)
                exact isClosed_any o c l z t _ _ _ _ w' b0.cell b1.cell b3.cell b2.cell b0.lt b1.lt b3.lt b2.lt ht (List.all_eq_true.1 h3 z hz) h6
              clear hLW hX2 hZ hLw h3 h4 h5 h6
              go_loopw [39] (fun tv wr => ∃ t : Nat, t ≤ 1440 ∧ tv = .int .i64 t ∧ Hid (∀ i, i < t → anyClosed zs o c l i = true) ∧ Hid (Below W1.heap.size W1 wr)) (fun tv _ => 1440 - (intOf tv).toNat)
              case atStart => exact ⟨0, Nat.zero_le _, rfl, Lib.hid (fun i hi => by omega), Lib.hid (Below.refl _ _)⟩
              case round =>
                obtain ⟨t, ht, rfl, hP, hB1⟩ := hrel
                by_cases hlt : t < 1440
                · have hck := Lib.hid (hCon.out wr t hB1.out hlt)
                  have cm := (Boxed.new wr 2 (.int .i64 t)).cell
                  have hBk : Hid (Below W1.heap.size W1 (wr.alloc (.cells #[.int .i64 t] 2))) := Lib.hid (hB1.out.alloc hB1.out.size _)
                  have hlm : wr.heap.size < (wr.alloc (.cells #[.int .i64 t] 2)).heap.size := by simp
                  cases hq : anyClosed zs o c l t
                  · rw [hq] at hck
                    have hF := Lib.hid (fun w' hb => hSome2.out t w' hlt hP.out hq hb)
                    go_wp2_with (go_at_call 42; (with_reducible refine hck.out.mono ?_); rintro e w3 ⟨rfl, hb3⟩; rw [← hb3.cell (p := ⟨wr.heap.size, 0, none⟩) hlm] at cm; have hB3 := Lib.hid (below_on hBk.out (by have := hBk.out.size; omega) hb3); clear hb3)
                    exact hF.out _ (below_on hb1.out (Nat.le_refl _) hB3.out)
                  · rw [hq] at hck
                    have hP2 : Hid (∀ i, i < t + 1 → anyClosed zs o c l i = true) := Lib.hid fun i hi => by
                      by_cases e : i = t
                      · subst e; exact hq
                      · exact hP.out i (by omega)
                    go_wp2_with (go_at_call 42; (with_reducible refine hck.out.mono ?_); rintro e w3 ⟨rfl, hb3⟩; rw [← hb3.cell (p := ⟨wr.heap.size, 0, none⟩) hlm] at cm; have hB3 := Lib.hid (below_on hBk.out (by have := hBk.out.size; omega) hb3); clear hb3)
                    go_roundw
                    case rel => exact ⟨t + 1, by omega, by go_num, hP2, hB3⟩
                    case measure => simp [intOf]; omega
                · have hF := Lib.hid (hNone2.out _ (fun i hi => hP.out i (by omega)) (below_on hb1.out (Nat.le_refl _) hB1.out))
                  go_wp2_with fail
                  exact hF.out
end Go.Proofs.Ytncbohecppdfnaa
