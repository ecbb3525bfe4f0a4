/- Tasks are given to stations: the model's and the program's, alike. -/
import Derived.Test.YtfidppepchobeaaStat
import Derived.StillTailTactics
namespace Go.Proofs.Ytfidppepchobeaa
open Go.RowKit Go.Lst

def okCyc (ts : List Int) (c : Int) : Bool := inB c 1 10000 && decide (maxTo ts (ts.length - 1) ≤ c)
def okStat (ts bs : List Int) (c : Int) : Bool := isLine ts bs && okCyc ts c
def statR (ts bs : List Int) (c : Int) : List Int := if okStat ts bs c then stations ts bs c else []
theorem isLine_of {ts bs : List Int} (h : isLine ts bs = true) : okLine ts = true ∧ bs.length = ts.length ∧ okSets bs ts.length = true := by
  unfold isLine at h
  simp only [Bool.and_eq_true, decide_eq_true_eq] at h
  exact ⟨h.1.1, h.1.2, by rw [← h.1.2]; exact h.2⟩
theorem stTo_len (ts bs : List Int) (c : Int) : ∀ k, (stTo ts bs c k).out.length = ts.length
  | 0 => List.length_replicate
  | k + 1 => by
    have := stTo_len ts bs c k
    show (stNext ts bs c (stTo ts bs c k)).out.length = _
    unfold stNext
    split
    · exact this
    · split
      · exact this
      · show (List.set _ _ _).length = _
        rw [List.length_set]; exact this
theorem statR_len (ts bs : List Int) (c : Int) : (statR ts bs c).length ≤ 1048576 := by
  unfold statR
  split
  · rename_i h
    unfold okStat at h
    rw [Bool.and_eq_true] at h
    have := (okLine_of (isLine_of h.1).1).2.1
    unfold stations
    rw [stTo_len]; omega
  · simp
/-- What the walks want of a line. -/
theorem line_facts {ts bs : List Int} {c : Int} (h : okStat ts bs c = true) : bs.length = ts.length ∧ 1 ≤ ts.length ∧ ts.length ≤ 12 ∧ okSets bs ts.length = true ∧ (∀ i, i < ts.length → 1 ≤ ts.getD i 0 ∧ ts.getD i 0 ≤ 10000) ∧
    (∀ i, i < ts.length → 0 ≤ bs.getD i 0 ∧ bs.getD i 0 ≤ 4096) ∧ (∀ i, i < ts.length → ts.getD i 0 ≤ c) ∧ 1 ≤ c ∧ c ≤ 10000 := by
  unfold okStat okCyc at h
  simp only [Bool.and_eq_true, decide_eq_true_eq] at h
  obtain ⟨h1, h2, h3⟩ := h
  obtain ⟨l1, l2, l3⟩ := isLine_of h1
  obtain ⟨k1, k2, k3⟩ := okLine_of l1
  obtain ⟨c1, c2⟩ := inB_true h2
  have hg : ∀ i, i < ts.length → ts[i]? = some (ts.getD i 0) := fun i hi => by rw [List.getD_eq_getElem?_getD, List.getElem?_eq_getElem hi]; rfl
  refine ⟨l2, k1, k2, l3, fun i hi => k3 i _ (hg i hi), fun i hi => ?_, fun i hi => ?_, c1, c2⟩
  · have hb := okSets_at l3 hi
    rw [setsAt_nat (by omega)] at hb
    obtain ⟨b0, b1⟩ := inB_true hb
    have hi12 : (2 : Nat) ^ i ≤ 2 ^ 12 := Nat.pow_le_pow_right (by omega) (by omega)
    generalize (2 : Nat) ^ i = P at *
    omega
  · have := maxTo_ge (xs := ts) (k := ts.length - 1) (i := i) (by omega)
    omega
theorem cyc_eq {ts : List Int} {c : Int} (h : okLine ts = true) : inB c (maxTo ts (ts.length - 1)) 10000 = okCyc ts c := by
  obtain ⟨h1, h2, h3⟩ := okLine_of h
  have := maxTo_bound (ts := ts) (lo := 1) (hi := 10000) h3 (ts.length - 1) (by omega)
  unfold okCyc inB
  rw [Bool.eq_iff_iff]
  simp only [Bool.and_eq_true, decide_eq_true_eq]
  omega
theorem below4096 {d n : Nat} (hn : n ≤ 12) (h : d < 2 ^ n) : d < 4096 := Nat.lt_of_lt_of_le h (Nat.pow_le_pow_right (n := 2) (by omega) (i := n) (j := 12) hn)
theorem pow_nat_lt {b n : Nat} (hn : n ≤ 12) (hb : b < n) : 2 ^ b < 4096 := Nat.lt_of_lt_of_le (Nat.pow_lt_pow_right (by omega) hb) (Nat.pow_le_pow_right (n := 2) (by omega) (i := n) (j := 12) hn)
theorem not_full {d n : Nat} (hn : n ≤ 12) (h : d ≠ 2 ^ n - 1) : ((d : Int) != setsAt n) = true := by
  rw [setsAt_nat hn, bne_iff_ne]
  omega
theorem is_full {d n : Nat} (hn : n ≤ 12) (h : d = 2 ^ n - 1) : ((d : Int) != setsAt n) = false := by
  rw [setsAt_nat hn, bne_eq_false_iff_eq, h]

def rest (c r : Int) : Nat := if r = c then 0 else 1
theorem rest_same (c : Int) : rest c c = 0 := if_pos rfl
theorem rest_other {c r : Int} (h : r ≠ c) : rest c r = 1 := if_neg h
theorem rest_le (c r : Int) : rest c r ≤ 1 := by unfold rest; split <;> omega
set_option maxHeartbeats 1000000 in
theorem isLineFor_any (B : Nat) (v1 v2 : Value) (ts bs : List Int) (c : Int) (w : World) (h1 : LstI B w v1 ts) (h2 : LstI B w v2 bs) :
    Calls Try.prog 39 #[v1, v2, .int .i64 c] w fun e w' => e = .returned (.bool (okStat ts bs c)) ∧ w = w' := by
  have hL := Lib.hid (implIsLine_any B v1 v2 ts bs w h1 h2)
  cases hq : isLine ts bs
  · have hV : okStat ts bs c = false := by unfold okStat; rw [hq]; rfl
    rw [hV]
    rw [hq] at hL
    clear h1 h2 hq hV
    go_enter Try.func39, Try.ntmps39
    go_wp2_with (go_at_call 88; (with_reducible refine hL.out.mono ?_); rintro e w' ⟨rfl, rfl⟩)
    go_ret
    exact ⟨rfl, rfl⟩
  · have hl := (isLine_of hq).1
    have hM := Lib.hid (slicesMax_any B v1 ts w h1 (okLine_of hl).1)
    have hW := Lib.hid (isWithin_any c (maxTo ts (ts.length - 1)) 10000 w)
    have hV : okStat ts bs c = okCyc ts c := by unfold okStat; rw [hq, Bool.true_and]
    rw [cyc_eq hl, ← hV] at hW
    rw [hq] at hL
    generalize okStat ts bs c = Q at *
    generalize maxTo ts (ts.length - 1) = mx at *
    clear h1 h2 hq hV hl
    go_enter Try.func39, Try.ntmps39
    go_wp2_with (first | (go_at_call 88; (with_reducible refine hL.out.mono ?_); rintro e w' ⟨rfl, rfl⟩) | (go_at_call 78; (with_reducible refine hM.out.mono ?_); rintro e w' ⟨rfl, rfl⟩) | (go_at_call 89; (with_reducible refine hW.out.mono ?_); rintro e w' ⟨rfl, rfl⟩))
    go_ret
    exact ⟨rfl, rfl⟩
set_option maxHeartbeats 1000000 in
theorem l04Cycle_any (B : Nat) (v : Value) (ts : List Int) (c : Int) (w : World) (h : LstI B w v ts) (hp : 1 ≤ ts.length) :
    Calls Try.prog 38 #[v, .int .i64 c] w fun e w' => e = .returned (.bool (okCyc ts c)) ∧ w = w' := by
  have hG := Lib.hid (l02Greatest_any B v ts w h hp)
  unfold okCyc
  generalize maxTo ts (ts.length - 1) = mx at *
  clear h hp
  cases hq : inB c 1 10000
  · have hI := Lib.hid (l00In_is c 1 10000 hq w)
    clear hq
    go_enter Try.func38, Try.ntmps38
    go_wp2_with (go_at_call 80; (with_reducible refine hI.out.mono ?_); rintro e w' ⟨rfl, rfl⟩)
    go_ret
    exact ⟨rfl, rfl⟩
  · have hI := Lib.hid (l00In_is c 1 10000 hq w)
    clear hq
    go_enter Try.func38, Try.ntmps38
    go_wp2_with (first | (go_at_call 80; (with_reducible refine hI.out.mono ?_); rintro e w' ⟨rfl, rfl⟩) | (go_at_call 73; (with_reducible refine hG.out.mono ?_); rintro e w' ⟨rfl, rfl⟩))
    go_ret
    exact ⟨rfl, rfl⟩
set_option maxHeartbeats 4000000 in
theorem implStations_any (B : Nat) (v1 v2 : Value) (ts bs : List Int) (c : Int) (w : World) (h1 : LstI B w v1 ts) (h2 : LstI B w v2 bs) (hB : B ≤ w.heap.size) :
    Calls Try.prog 12 #[v1, v2, .int .i64 c] w (ListPost (statR ts bs c) (okStat ts bs c) w) := by
  have hT := Lib.hid (isLineFor_any B v1 v2 ts bs c w h1 h2)
  have hLs := Lib.hid (show ∀ w', Below w.heap.size w w' → LstI B w' v1 ts ∧ LstI B w' v2 bs from fun w' hb => ⟨h1.below hb hB, h2.below hb hB⟩)
  obtain ⟨a1, cap1, rfl, hl1, _, _, hc1⟩ := h1.at_
  obtain ⟨a2, cap2, rfl, _⟩ := h2.at_
  cases hq : okStat ts bs c
  · have hP := Lib.hid (list_no (r := statR ts bs c) (ok := false) (w := w) (w' := w) (by unfold statR; rw [hq]; rfl) rfl (Below.refl _ _))
    generalize ListPost (statR ts bs c) false w = Q at *
    rw [hq] at hT
    clear hc1 h1 h2 hq hLs
    generalize ts.length = n at *
    generalize bs.length = m at *
    unfold maxLen at hl1
    go_enter Try.func12, Try.ntmps12
    go_wp2_with (first | (go_at_call 39; (with_reducible refine (hT.out).mono ?_); rintro e w' ⟨rfl, rfl⟩))
    first | exact hP.out | (go_ret2; exact hP.out)
  · obtain ⟨f1, f2, f3, f4, f5, f6, f7, f8, f9⟩ := line_facts hq
    rw [hq] at hT
    have hP : Hid (∀ w' k (s : St), StOk ts bs c k s → s.d = 2 ^ ts.length - 1 → w'.ownsRow w.heap.size 2 1 (.slice (some ⟨w.heap.size, 0, none⟩) ts.length ts.length) ts.length (s.out.map (Value.int .i64)) → Below w.heap.size w w' → ListPost (statR ts bs c) true w (.returned (.tuple #[.slice (some ⟨w.heap.size, 0, none⟩) ts.length ts.length, .bool true])) w') := Lib.hid fun w' k s hs hd ho hb => by
      have hr : statR ts bs c = s.out := by unfold statR; rw [hq, if_pos rfl]; exact (st_end hs hd).symm
      rw [hr]
      exact list_yes rfl (Nat.le_refl _) hs.len ho (by omega) hb
    have hNx : Hid (∀ w' k (s : St), Below w.heap.size w w' → StOk ts bs c k s → Calls Try.prog 40 #[.slice a1 ts.length cap1, .slice a2 bs.length cap2, .int .i64 (s.d : Int), .int .i64 (c - s.ld)] w' fun e w'' => e = .returned (.int .i64 (pickTo ts bs c s.d s.ld ts.length)) ∧ w' = w'') := Lib.hid fun w' k s hb hs =>
      nextAtStation_any B _ _ ts bs c s.ld s.d w' (hLs.out w' hb).1 (hLs.out w' hb).2 f1 f3 (below4096 f3 hs.d) f5 f6 ⟨hs.ld0, hs.ld1⟩ f9
    have hNew : Hid (∀ k (s : St), StOk ts bs c k s → s.d ≠ 2 ^ ts.length - 1 → pickTo ts bs c s.d s.ld ts.length < 0 → StOk ts bs c (k + 1) ⟨s.d, s.st + 1, 0, s.out⟩ ∧ s.ld ≠ 0) := Lib.hid fun k s hs hd hp => st_new hs f3 f4 f7 hd hp
    have hPut : Hid (∀ k (s : St) (b : Nat), StOk ts bs c k s → s.d ≠ 2 ^ ts.length - 1 → pickTo ts bs c s.d s.ld ts.length = (b : Int) →
        StOk ts bs c (k + 1) ⟨s.d ||| 2 ^ b, s.st, s.ld + ts.getD b 0, s.out.set b s.st⟩ ∧ b < ts.length ∧ s.d.testBit b = false ∧ s.ld + ts.getD b 0 ≤ c) := Lib.hid fun k s b hs hd hp => st_put hs (fun i hi => (f5 i hi).1) hd hp
    have hC1 : Hid (∀ k, k < ts.length → ∃ b o, a1 = some ⟨b, o, none⟩ ∧ b < w.heap.size ∧ w.cell? ⟨b, o + k, none⟩ = some (.int .i64 (ts.getD k 0))) := Lib.hid fun k hk => by
      obtain ⟨b, o, x, h1, h2, h3, h4⟩ := hc1 k hk
      exact ⟨b, o, h1, by omega, by rw [getD_of h3]; exact h4⟩
    have hSt0 := Lib.hid (st_start ts bs c (by omega))
    have hTb := Lib.hid f5
    have hLft : Hid (∀ k (s : St), StOk ts bs c k s → k ≤ 24 ∧ 0 ≤ s.st ∧ s.st ≤ k ∧ 0 ≤ s.ld ∧ s.ld ≤ c ∧ s.d < 4096 ∧ s.out.length = ts.length) := Lib.hid fun k s hs => ⟨by have := hs.left; omega, hs.st0, hs.st1, hs.ld0, hs.ld1, below4096 f3 hs.d, hs.len⟩
    obtain ⟨i0, hi, hz0, hz1, hz2⟩ := info_parts infoI
    generalize ListPost (statR ts bs c) true w = Q at *
    have hOp : Hid (∀ d b, d.testBit b = false → b < ts.length → openN (d ||| 2 ^ b) ts.length + 1 = openN d ts.length) := Lib.hid fun d b h1 h2 => openN_put d b h1 _ h2
    clear hc1 h1 h2 hq f1 f4 f5 f6 f7 hLs
    have hPw : Hid (∀ b, b < ts.length → 2 ^ b < 4096) := Lib.hid fun b hb => pow_nat_lt f3 hb
    have hFu : Hid (∀ d : Nat, d = 2 ^ ts.length - 1 → ((d : Int) != setsAt ts.length) = false) := Lib.hid fun d h => is_full f3 h
    have hNf : Hid (∀ d : Nat, d ≠ 2 ^ ts.length - 1 → ((d : Int) != setsAt ts.length) = true) := Lib.hid fun d h => not_full f3 h
    have hst0 : stTo ts bs c 0 = ⟨0, 0, 0, List.replicate ts.length 0⟩ := rfl
    rw [hst0] at hSt0
    clear hst0
    generalize hNN : ts.length = n at *
    have hNn := Lib.hid hNN
    clear hNN
    unfold maxLen at hl1
    go_enter Try.func12, Try.ntmps12
    go_wp2_with (first | (go_at_call 39; (with_reducible refine (hT.out).mono ?_); rintro e w' ⟨rfl, rfl⟩) | (at_make; refine wpList_make_full _ rfl _ _ _ rfl w.heap.size _ i0 (.int .i64 0) 1 Try.underlying22 hi hz0 hz1 _ _ _ _ n rfl rfl rfl rfl ?c1 ?c2 ?c3 ?_))
    case c1 => rw [hz2]; omega
    case c2 => unfold maxLen; omega
    case c3 => exact Nat.le_refl _
    intro w2 hown2 hg2
    have hB2 := Lib.hid ((Below.refl w.heap.size w).grown hg2 (Nat.le_refl _) (fun k hk => by cases hk))
    have hO2 := Lib.hid (zeros_row hown2)
    clear hown2 hg2 hz0 hz1 hz2 hi
    have hWg := Lib.hid (rfl : w.heap.size = w.heap.size)
    generalize hgg : w.heap.size = g at *
    have hGG := Lib.hid hgg
    clear hgg hWg
    go_wp2_with fail
    go_loopw [9, 10, 11] (fun dv sv rv wr => ∃ (k : Nat) (s : St), dv = .int .i64 (s.d : Int) ∧ sv = .int .i64 s.st ∧ rv = .int .i64 (c - s.ld) ∧ Hid (StOk ts bs c k s) ∧ Hid (wr.ownsRow g 2 1 (.slice (some ⟨g, 0, none⟩) n n) n (s.out.map (Value.int .i64))) ∧ Hid (Below g w wr)) (fun dv _ rv _ => 2 * openN (intOf dv).toNat n + rest c (intOf rv))
    case atStart => exact ⟨0, ⟨0, 0, 0, List.replicate n 0⟩, rfl, rfl, by show _ = Value.int .i64 (c - 0); rw [Int.sub_zero], hSt0, hO2, hB2⟩
    case round =>
      clear hB2 hO2 hSt0
      obtain ⟨k, s, rfl, rfl, rfl, hS, hO, hBw⟩ := hrel
      obtain ⟨l1, l2, l3, l4, l5, l6, l7⟩ := hLft.out k s hS.out
      have hsh : IntKind.i64.wrap (1 * 2 ^ n) = p2 n := rfl
      have hsh2 : IntKind.i64.wrap (2 ^ n) = p2 n := by unfold p2; rw [Int.one_mul]
      have hsub : IntKind.i64.wrap (p2 n - 1) = setsAt n := rfl
      have hk3 : (n : Int) ≤ 64 := by omega
      by_cases hd : s.d = 2 ^ n - 1
      · have hR := Lib.hid (hP.out wr k s hS.out hd hO.out hBw.out)
        have hF := hFu.out s.d hd
        clear hO hBw hS
        generalize setsAt n = sn at *
        generalize p2 n = pn at *
        generalize s.d = d at *
        clear hd
        go_wp2_with fail
        first | exact hR.out | (go_ret2; exact hR.out)
      · have hF := hNf.out s.d hd
        have hNn1 := Lib.hid (hNx.out wr k s hBw.out hS.out)
        by_cases hneg : pickTo ts bs c s.d s.ld n < 0
        · obtain ⟨hS2, hl0⟩ := hNew.out k s hS.out hd hneg
          have hS3 := Lib.hid hS2
          have hn2 : decide (pickTo ts bs c s.d s.ld n < 0) = true := decide_eq_true hneg
          generalize pickTo ts bs c s.d s.ld n = f at *
          clear hS2 hS
          generalize setsAt n = sn at *
          generalize p2 n = pn at *
          obtain ⟨d, st, ld, out⟩ := s
          dsimp only at *
          clear hd
          go_wp2_with (go_at_call 40; (with_reducible refine hNn1.out.mono ?_); rintro e w' ⟨rfl, rfl⟩)
          go_roundw
          case rel => exact ⟨k + 1, ⟨d, st + 1, 0, out⟩, rfl, rfl, by show _ = Value.int .i64 (c - 0); rw [Int.sub_zero], hS3, hO, hBw⟩
          case measure =>
            simp only [intOf]
            rw [rest_same, rest_other (show c - ld ≠ c by omega)]
            omega
        · obtain ⟨b, hb⟩ := Int.eq_ofNat_of_zero_le (show 0 ≤ pickTo ts bs c s.d s.ld n by omega)
          obtain ⟨hS2, hbn, hbit, hov⟩ := hPut.out k s b hS.out hd hb
          have hS3 := Lib.hid hS2
          have hop := Lib.hid (hOp.out s.d b hbit hbn)
          obtain ⟨b1, o1, rfl, hb1, p0⟩ := hC1.out b hbn
          rw [← hBw.out.cell (p := ⟨b1, o1 + b, none⟩) hb1] at p0
          obtain ⟨t1, t2⟩ := hTb.out b hbn
          have hor := or_nat s.d (2 ^ b) l6 (hPw.out b hbn)
          have hp2 : ((2 ^ b : Nat) : Int) = p2 b := (p2_nat (by omega)).symm
          rw [hp2] at hor
          have hshb : IntKind.i64.wrap (1 * 2 ^ b) = p2 b := rfl
          have hshb2 : IntKind.i64.wrap (2 ^ b) = p2 b := by unfold p2; rw [Int.one_mul]
          have hb3 : (b : Int) ≤ 64 := by omega
          have hbN : (b : Int) < n := by omega
          rw [hb] at hNn1
          have q0 : wr.cell? ⟨g, b, none⟩ = some (.int .i64 (s.out.getD b 0)) := row_cell hO.out (by rw [l7]; exact hbn)
          have fr : wr.frozen? ⟨g, b, none⟩ = false := hO.out.frozenAt b
          have hst := row_set hO.out b s.st
          have hO4 := Lib.hid hst.1
          have hB4 := Lib.hid (hBw.out.setCell (p := ⟨g, b, none⟩) (Nat.le_refl _) (.int .i64 s.st))
          have p1 : (wr.setCell ⟨g, b, none⟩ (.int .i64 s.st)).cell? ⟨b1, o1 + b, none⟩ = some (.int .i64 (ts.getD b 0)) := by
            rw [World.cell?_setCell_other _ _ _ _ (fun e => by have e2 : g = b1 := congrArg Addr.block e; omega)]
            exact p0
          clear hst hS2 hS hO hBw hd hneg hb hbit hp2
          have hor2 := Lib.hid (rfl : s.d ||| 2 ^ b = s.d ||| 2 ^ b)
          generalize hdd : s.d ||| 2 ^ b = d2 at *
          generalize setsAt n = sn at *
          generalize p2 n = pn at *
          generalize p2 b = pb at *
          generalize ts.getD b 0 = x at *
          obtain ⟨d, st, ld, out⟩ := s
          dsimp only at *
          go_wp2_with (go_at_call 40; (with_reducible refine hNn1.out.mono ?_); rintro e w' ⟨rfl, rfl⟩)
          go_roundw
          case rel => exact ⟨k + 1, ⟨d2, st, ld + x, out.set b st⟩, rfl, rfl, by show Value.int .i64 _ = Value.int .i64 (c - (ld + x)); rw [Int.sub_sub], hS3, hO4, hB4⟩
          case measure =>
            have := hop.out
            have h1 := rest_le c (c - ld)
            simp only [intOf, Int.toNat_natCast]
            rw [rest_other (show c - ld - x ≠ c by omega)]
            omega
set_option maxHeartbeats 4000000 in
set_option maxRecDepth 100000 in
theorem specStations_any (B : Nat) (v1 v2 : Value) (ts bs : List Int) (c : Int) (w : World) (h1 : LstI B w v1 ts) (h2 : LstI B w v2 bs) (hB : B ≤ w.heap.size) :
    Calls Try.prog 10 #[v1, v2, .int .i64 c] w (ListPost (statR ts bs c) (okStat ts bs c) w) := by
  have hT := Lib.hid (l04Line_any B v1 v2 ts bs w h1 h2)
  have hCy : Hid (1 ≤ ts.length → _) := Lib.hid fun hp => l04Cycle_any B v1 ts c w h1 hp
  obtain ⟨a1, cap1, rfl, hl1, _, _, hc1⟩ := h1.at_
  obtain ⟨a2, cap2, rfl, hl2, _, _, hc2⟩ := h2.at_
  cases hq : okStat ts bs c
  · have hP := Lib.hid (list_no (r := statR ts bs c) (ok := false) (w := w) (w' := w) (by unfold statR; rw [hq]; rfl) rfl (Below.refl _ _))
    generalize ListPost (statR ts bs c) false w = Q at *
    cases hi : isLine ts bs
    · rw [hi] at hT
      clear hc1 hc2 h1 h2 hq hi
      generalize ts.length = n at *
      generalize bs.length = m at *
      unfold maxLen at hl1 hl2
      go_enter Try.func10, Try.ntmps10
      go_wp2_with (first | (go_at_call 37; (with_reducible refine (hT.out).mono ?_); rintro e w' ⟨rfl, rfl⟩))
      first | exact hP.out | (go_ret2; exact hP.out)
    · have hcq : okCyc ts c = false := by
        have := hq
        unfold okStat at this
        rw [hi, Bool.true_and] at this
        exact this
      have hC := Lib.hid (hCy.out (okLine_of (isLine_of hi).1).1)
      rw [hi] at hT
      rw [hcq] at hC
      clear hc1 hc2 h1 h2 hq hi hCy hcq
      generalize ts.length = n at *
      generalize bs.length = m at *
      unfold maxLen at hl1 hl2
      go_enter Try.func10, Try.ntmps10
      go_wp2_with (first | (go_at_call 37; (with_reducible refine (hT.out).mono ?_); rintro e w' ⟨rfl, rfl⟩) | (go_at_call 38; (with_reducible refine (hC.out).mono ?_); rintro e w' ⟨rfl, rfl⟩))
      first | exact hP.out | (go_ret2; exact hP.out)
  · obtain ⟨f1, f2, f3, f4, f5, f6, f7, f8, f9⟩ := line_facts hq
    have hiq : isLine ts bs = true ∧ okCyc ts c = true := by
      have := hq
      unfold okStat at this
      rw [Bool.and_eq_true] at this
      exact this
    have hC := Lib.hid (hCy.out f2)
    rw [hiq.1] at hT
    rw [hiq.2] at hC
    have hP : Hid (∀ w' k (s : St), StOk ts bs c k s → s.d = 2 ^ ts.length - 1 → w'.ownsRow w.heap.size 2 1 (.slice (some ⟨w.heap.size, 0, none⟩) ts.length ts.length) ts.length (s.out.map (Value.int .i64)) → Below w.heap.size w w' → ListPost (statR ts bs c) true w (.returned (.tuple #[.slice (some ⟨w.heap.size, 0, none⟩) ts.length ts.length, .bool true])) w') := Lib.hid fun w' k s hs hd ho hb => by
      have hr : statR ts bs c = s.out := by unfold statR; rw [hq, if_pos rfl]; exact (st_end hs hd).symm
      rw [hr]
      exact list_yes rfl (Nat.le_refl _) hs.len ho (by omega) hb
    have hNew : Hid (∀ k (s : St), StOk ts bs c k s → s.d ≠ 2 ^ ts.length - 1 → pickTo ts bs c s.d s.ld ts.length < 0 → StOk ts bs c (k + 1) ⟨s.d, s.st + 1, 0, s.out⟩ ∧ s.ld ≠ 0) := Lib.hid fun k s hs hd hp => st_new hs f3 f4 f7 hd hp
    have hPut : Hid (∀ k (s : St) (b : Nat), StOk ts bs c k s → s.d ≠ 2 ^ ts.length - 1 → pickTo ts bs c s.d s.ld ts.length = (b : Int) →
        StOk ts bs c (k + 1) ⟨s.d ||| 2 ^ b, s.st, s.ld + ts.getD b 0, s.out.set b s.st⟩ ∧ b < ts.length ∧ s.d.testBit b = false ∧ s.ld + ts.getD b 0 ≤ c) := Lib.hid fun k s b hs hd hp => st_put hs (fun i hi => (f5 i hi).1) hd hp
    have hC1 : Hid (∀ k, k < ts.length → ∃ b o, a1 = some ⟨b, o, none⟩ ∧ b < w.heap.size ∧ w.cell? ⟨b, o + k, none⟩ = some (.int .i64 (ts.getD k 0))) := Lib.hid fun k hk => by
      obtain ⟨b, o, x, h1, h2, h3, h4⟩ := hc1 k hk
      exact ⟨b, o, h1, by omega, by rw [getD_of h3]; exact h4⟩
    rw [f1] at hc2 hl2 hT ⊢
    have hC2 : Hid (∀ k, k < ts.length → ∃ b o, a2 = some ⟨b, o, none⟩ ∧ b < w.heap.size ∧ w.cell? ⟨b, o + k, none⟩ = some (.int .i64 (bs.getD k 0))) := Lib.hid fun k hk => by
      obtain ⟨b, o, x, h1, h2, h3, h4⟩ := hc2 k hk
      exact ⟨b, o, h1, by omega, by rw [getD_of h3]; exact h4⟩
    have hSt0 := Lib.hid (st_start ts bs c (by omega))
    have hTb := Lib.hid f5
    have hBs := Lib.hid f6
    have hLft : Hid (∀ k (s : St), StOk ts bs c k s → k ≤ 24 ∧ 0 ≤ s.st ∧ s.st ≤ k ∧ 0 ≤ s.ld ∧ s.ld ≤ c ∧ s.d < 4096 ∧ s.out.length = ts.length) := Lib.hid fun k s hs => ⟨by have := hs.left; omega, hs.st0, hs.st1, hs.ld0, hs.ld1, below4096 f3 hs.d, hs.len⟩
    obtain ⟨i0, hi, hz0, hz1, hz2⟩ := info_parts infoI
    generalize ListPost (statR ts bs c) true w = Q at *
    have hOp : Hid (∀ d b, d.testBit b = false → b < ts.length → openN (d ||| 2 ^ b) ts.length + 1 = openN d ts.length) := Lib.hid fun d b h1 h2 => openN_put d b h1 _ h2
    clear hc1 hc2 h1 h2 hq f1 f4 f5 f6 f7 hCy hiq
    have hPw : Hid (∀ b, b < ts.length → 2 ^ b < 4096) := Lib.hid fun b hb => pow_nat_lt f3 hb
    have hFu : Hid (∀ d : Nat, d = 2 ^ ts.length - 1 → ((d : Int) != setsAt ts.length) = false) := Lib.hid fun d h => is_full f3 h
    have hNf : Hid (∀ d : Nat, d ≠ 2 ^ ts.length - 1 → ((d : Int) != setsAt ts.length) = true) := Lib.hid fun d h => not_full f3 h
    have hst0 : stTo ts bs c 0 = ⟨0, 0, 0, List.replicate ts.length 0⟩ := rfl
    rw [hst0] at hSt0
    clear hst0
    generalize hNN : ts.length = n at *
    have hNn := Lib.hid hNN
    clear hNN
    unfold maxLen at hl1 hl2
    go_enter Try.func10, Try.ntmps10
    go_wp2_with (first | (go_at_call 37; (with_reducible refine (hT.out).mono ?_); rintro e w' ⟨rfl, rfl⟩) | (go_at_call 38; (with_reducible refine (hC.out).mono ?_); rintro e w' ⟨rfl, rfl⟩) | (at_make; refine wpList_make_full _ rfl _ _ _ rfl w.heap.size _ i0 (.int .i64 0) 1 Try.underlying22 hi hz0 hz1 _ _ _ _ n rfl rfl rfl rfl ?c1 ?c2 ?c3 ?_))
    case c1 => rw [hz2]; omega
    case c2 => unfold maxLen; omega
    case c3 => exact Nat.le_refl _
    intro w2 hown2 hg2
    have hB2 := Lib.hid ((Below.refl w.heap.size w).grown hg2 (Nat.le_refl _) (fun k hk => by cases hk))
    have hO2 := Lib.hid (zeros_row hown2)
    clear hown2 hg2 hz0 hz1 hz2 hi
    have hWg := Lib.hid (rfl : w.heap.size = w.heap.size)
    generalize hgg : w.heap.size = g at *
    have hGG := Lib.hid hgg
    clear hgg hWg
    go_wp2_with fail
    go_loopw [9, 10, 11] (fun dv sv lv wr => ∃ (k : Nat) (s : St), dv = .int .i64 (s.d : Int) ∧ sv = .int .i64 s.st ∧ lv = .int .i64 s.ld ∧ Hid (StOk ts bs c k s) ∧ Hid (wr.ownsRow g 2 1 (.slice (some ⟨g, 0, none⟩) n n) n (s.out.map (Value.int .i64))) ∧ Hid (Below g w wr)) (fun dv _ lv _ => 2 * openN (intOf dv).toNat n + rest 0 (intOf lv))
    case atStart => exact ⟨0, ⟨0, 0, 0, List.replicate n 0⟩, rfl, rfl, rfl, hSt0, hO2, hB2⟩
    case round =>
      clear hB2 hO2 hSt0
      obtain ⟨k, s, rfl, rfl, rfl, hS, hO, hBw⟩ := hrel
      obtain ⟨l1, l2, l3, l4, l5, l6, l7⟩ := hLft.out k s hS.out
      have hsh : IntKind.i64.wrap (1 * 2 ^ n) = p2 n := rfl
      have hsh2 : IntKind.i64.wrap (2 ^ n) = p2 n := by unfold p2; rw [Int.one_mul]
      have hsub : IntKind.i64.wrap (p2 n - 1) = setsAt n := rfl
      have hk3 : (n : Int) ≤ 64 := by omega
      by_cases hd : s.d = 2 ^ n - 1
      · have hR := Lib.hid (hP.out wr k s hS.out hd hO.out hBw.out)
        have hF := hFu.out s.d hd
        clear hO hBw hS
        generalize setsAt n = sn at *
        generalize p2 n = pn at *
        generalize s.d = d at *
        clear hd
        go_wp2_with fail
        first | exact hR.out | (go_ret2; exact hR.out)
      · have hF := hNf.out s.d hd
        have hN1 : Hid (∀ wr' : World, _) := Lib.hid fun (_ : World) => hNew.out k s hS.out hd
        have hP1 : Hid (∀ (_ : World) (b : Nat), _) := Lib.hid fun (_ : World) b => hPut.out k s b hS.out hd
        have hD : Hid (∀ k : Nat, bits .and .i64 ((s.d : Int) / 2 ^ k) 1 = if s.d.testBit k then 1 else 0) := Lib.hid fun k => digit_of s.d k (by omega)
        have hP0 : Hid (pickTo ts bs c s.d s.ld 0 = -1) := Lib.hid rfl
        have hPi : Hid (∀ k, -1 ≤ pickTo ts bs c s.d s.ld k ∧ pickTo ts bs c s.d s.ld k < k) := Lib.hid fun k => pickTo_in _ _ _ _ _ k
        have hNo : Hid (∀ k, fits ts bs c s.d s.ld k = false → pickTo ts bs c s.d s.ld (k + 1) = pickTo ts bs c s.d s.ld k) := Lib.hid fun k h => pick_not h
        have hFi : Hid (∀ k, fits ts bs c s.d s.ld k = true → pickTo ts bs c s.d s.ld k < 0 → pickTo ts bs c s.d s.ld (k + 1) = (k : Int)) := Lib.hid fun k h => pick_first h
        have hMo : Hid (∀ k q : Nat, fits ts bs c s.d s.ld k = true → pickTo ts bs c s.d s.ld k = (q : Int) → ts.getD q 0 < ts.getD k 0 → pickTo ts bs c s.d s.ld (k + 1) = (k : Int)) := Lib.hid fun k q h => pick_more h
        have hSt : Hid (∀ k q : Nat, fits ts bs c s.d s.ld k = true → pickTo ts bs c s.d s.ld k = (q : Int) → ¬ ts.getD q 0 < ts.getD k 0 → pickTo ts bs c s.d s.ld (k + 1) = pickTo ts bs c s.d s.ld k) := Lib.hid fun k q h => pick_stay h
        have hT1 : Hid (∀ m k, k < n → ∃ b o, a1 = some ⟨b, o, none⟩ ∧ b < g ∧ (wr.drewN m).cell? ⟨b, o + k, none⟩ = some (.int .i64 (ts.getD k 0))) := Lib.hid fun m k hk => by
          obtain ⟨b, o, e1, e2, e3⟩ := hC1.out k hk
          exact ⟨b, o, e1, e2, by rw [World.cell?_drewN, hBw.out.cell (p := ⟨b, o + k, none⟩) e2]; exact e3⟩
        have hT2 : Hid (∀ m k, k < n → ∃ b o, a2 = some ⟨b, o, none⟩ ∧ b < g ∧ (wr.drewN m).cell? ⟨b, o + k, none⟩ = some (.int .i64 (bs.getD k 0))) := Lib.hid fun m k hk => by
          obtain ⟨b, o, e1, e2, e3⟩ := hC2.out k hk
          exact ⟨b, o, e1, e2, by rw [World.cell?_drewN, hBw.out.cell (p := ⟨b, o + k, none⟩) e2]; exact e3⟩
        have hFt : Hid (∀ k, fits ts bs c s.d s.ld k = true ∨ fits ts bs c s.d s.ld k = false) := Lib.hid fun k => by cases fits ts bs c s.d s.ld k <;> simp
        have hfd : Hid (∀ k, s.d.testBit k = true → fits ts bs c s.d s.ld k = false) := Lib.hid fun k h => fits_done h
        have hfb : Hid (∀ k, (bits .andNot .i64 (bs.getD k 0) (s.d : Int) == 0) = false → fits ts bs c s.d s.ld k = false) := Lib.hid fun k h => fits_before h
        have hfo : Hid (∀ k, c < s.ld + ts.getD k 0 → fits ts bs c s.d s.ld k = false) := Lib.hid fun k h => fits_over h
        have hfy : Hid (∀ k, s.d.testBit k = false → (bits .andNot .i64 (bs.getD k 0) (s.d : Int) == 0) = true → ¬ c < s.ld + ts.getD k 0 → fits ts bs c s.d s.ld k = true) := Lib.hid fun k h1 h2 h3 => fits_yes h1 h2 h3
        generalize fits ts bs c s.d s.ld = ft at *
        generalize hpk : pickTo ts bs c s.d s.ld = F at *
        have hPk := Lib.hid hpk
        clear hFt hd hNew hPut hpk
        generalize hsn : setsAt n = sn at *
        generalize hpn : p2 n = pn at *
        clear hsn hpn
        obtain ⟨d, st, ld, out⟩ := s
        dsimp only at *
        go_wp2_with fail
        clear hF hsh hsh2 hsub
        go_loopw [12, 13] (fun fv iv w' => ∃ (i m : Nat) (f : Int), i ≤ n ∧ iv = .int .i64 i ∧ fv = .int .i64 f ∧ Hid (f = F i) ∧ w' = wr.drewN m) (fun _ iv _ => n - (intOf iv).toNat)
        case atStart => exact ⟨0, 0, -1, Nat.zero_le _, rfl, rfl, Lib.hid hP0.out.symm, rfl⟩
        case round =>
          obtain ⟨i, m, f, hi2, rfl, rfl, hf, rfl⟩ := hrel
          have hin := hPi.out i
          rw [← hf.out] at hin
          by_cases hlt : i < n
          · obtain ⟨b1, o1, rfl, hb1, p1⟩ := hT1.out m i hlt
            obtain ⟨b2, o2, rfl, hb2, p2⟩ := hT2.out m i hlt
            obtain ⟨t1, t2⟩ := hTb.out i hlt
            obtain ⟨s1, s2⟩ := hBs.out i hlt
            have hdg := hD.out i
            have hmin : min i 64 = i := by omega
            have hi3 : (i : Int) ≤ 64 := by omega
            cases hq : d.testBit i
            case true =>
              have hF2 := Lib.hid (show f = F (i + 1) by rw [hNo.out i (hfd.out i hq)]; exact hf.out)
              rw [hq, if_pos rfl] at hdg
              generalize ts.getD i 0 = x at *
              generalize bs.getD i 0 = y at *
              generalize hwo : wr.drewN m = wo at *
              have hWo := Lib.hid hwo
              clear hwo hq hf
              go_wp2_with fail
              go_roundw
              case rel => exact ⟨i + 1, m, _, by omega, by go_num, rfl, hF2, hWo.out.symm⟩
              case measure => simp [intOf]; omega
            case false =>
              rw [hq, if_neg (by simp)] at hdg
              cases hb : (bits .andNot .i64 (bs.getD i 0) (d : Int) == 0)
              case false =>
                have hF2 := Lib.hid (show f = F (i + 1) by rw [hNo.out i (hfb.out i hb)]; exact hf.out)
                have hb2 : (bits .andNot .i64 (bs.getD i 0) (d : Int) != 0) = true := by simp only [bne, hb, Bool.not_false]
                generalize ts.getD i 0 = x at *
                generalize bs.getD i 0 = y at *
                generalize hwo : wr.drewN m = wo at *
                have hWo := Lib.hid hwo
                clear hwo hq hf hb
                go_wp2_with fail
                go_roundw
                case rel => exact ⟨i + 1, m, _, by omega, by go_num, rfl, hF2, hWo.out.symm⟩
                case measure => simp [intOf]; omega
              case true =>
                have hb2 : (bits .andNot .i64 (bs.getD i 0) (d : Int) != 0) = false := by simp only [bne, hb, Bool.not_true]
                by_cases hov : c < ld + ts.getD i 0
                · have hF2 := Lib.hid (show f = F (i + 1) by rw [hNo.out i (hfo.out i hov)]; exact hf.out)
                  have ho2 : decide (c < ld + ts.getD i 0) = true := decide_eq_true (by omega)
                  generalize ts.getD i 0 = x at *
                  generalize bs.getD i 0 = y at *
                  generalize hwo : wr.drewN m = wo at *
                  have hWo := Lib.hid hwo
                  clear hwo hq hf hb
                  go_wp2_with fail
                  go_roundw
                  case rel => exact ⟨i + 1, m, _, by omega, by go_num, rfl, hF2, hWo.out.symm⟩
                  case measure => simp [intOf]; omega
                · have hyy := hfy.out i hq hb (by omega)
                  have ho2 : decide (c < ld + ts.getD i 0) = false := decide_eq_false (by omega)
                  by_cases hneg : f < 0
                  · have hF2 := Lib.hid (show (i : Int) = F (i + 1) from (hFi.out i hyy (by rw [← hf.out]; exact hneg)).symm)
                    have hn2 : decide (f < 0) = true := decide_eq_true hneg
                    generalize ts.getD i 0 = x at *
                    generalize bs.getD i 0 = y at *
                    generalize hwo : wr.drewN m = wo at *
                    have hWo := Lib.hid hwo
                    clear hwo hq hf hb hyy
                    go_wp2_with fail
                    go_quiet (fail)
                    go_wp2_with fail
                    go_roundw
                    case rel => exact ⟨i + 1, _, _, by omega, by go_num, rfl, hF2, by rw [← hWo.out, World.drewN_drewN]⟩
                    case measure => simp [intOf]; omega
                  · obtain ⟨q, rfl⟩ := Int.eq_ofNat_of_zero_le (show 0 ≤ f by omega)
                    obtain ⟨b1', o1', hab, _, p3⟩ := hT1.out m q (by omega)
                    obtain ⟨rfl, rfl⟩ : b1 = b1' ∧ o1 = o1' := by simpa using hab
                    obtain ⟨t3, t4⟩ := hTb.out q (by omega)
                    have hqn : (q : Int) < n := by omega
                    have hn2 : decide ((q : Int) < 0) = false := decide_eq_false (by omega)
                    clear hab
                    by_cases hx : ts.getD q 0 < ts.getD i 0
                    · have hF2 := Lib.hid (show (i : Int) = F (i + 1) from (hMo.out i q hyy hf.out.symm hx).symm)
                      have hx2 : decide (ts.getD q 0 < ts.getD i 0) = true := decide_eq_true hx
                      generalize ts.getD i 0 = x at *
                      generalize ts.getD q 0 = x2 at *
                      generalize bs.getD i 0 = y at *
                      generalize hwo : wr.drewN m = wo at *
                      have hWo := Lib.hid hwo
                      clear hwo hq hf hb hyy
                      go_wp2_with fail
                      go_quiet (fail)
                      go_wp2_with fail
                      go_roundw
                      case rel => exact ⟨i + 1, _, _, by omega, by go_num, rfl, hF2, by rw [← hWo.out, World.drewN_drewN]⟩
                      case measure => simp [intOf]; omega
                    · have hF2 := Lib.hid (show (q : Int) = F (i + 1) by rw [hSt.out i q hyy hf.out.symm (by omega)]; exact hf.out)
                      have hx2 : decide (ts.getD q 0 < ts.getD i 0) = false := decide_eq_false hx
                      generalize ts.getD i 0 = x at *
                      generalize ts.getD q 0 = x2 at *
                      generalize bs.getD i 0 = y at *
                      generalize hwo : wr.drewN m = wo at *
                      have hWo := Lib.hid hwo
                      clear hwo hq hf hb hyy
                      go_wp2_with fail
                      go_quiet (fail)
                      go_wp2_with fail
                      go_roundw
                      case rel => exact ⟨i + 1, _, _, by omega, by go_num, rfl, hF2, by rw [← hWo.out, World.drewN_drewN]⟩
                      case measure => simp [intOf]; omega
          · obtain rfl : i = n := by omega
            have hO5 := Lib.hid (ownsRow_drewN hO.out m)
            have hB5 := Lib.hid (show Below g w (wr.drewN m) from below_drewN hBw.out m)
            have hT3 := Lib.hid (hT1.out m)
            clear hT1 hT2
            by_cases hneg : f < 0
            · obtain ⟨hS2, hl0⟩ := hN1.out wr (by rw [← hf.out]; exact hneg)
              have hS3 := Lib.hid hS2
              have hn2 : decide (f < 0) = true := decide_eq_true hneg
              clear hS2 hS hf hin
              generalize wr.drewN m = wo at *
              go_wp2_with fail
              go_roundw
              case rel => exact ⟨k + 1, ⟨d, st + 1, 0, out⟩, rfl, rfl, rfl, hS3, hO5, hB5⟩
              case measure =>
                simp only [intOf]
                rw [rest_same, rest_other hl0]
                omega
            · obtain ⟨b, rfl⟩ := Int.eq_ofNat_of_zero_le (show 0 ≤ f by omega)
              obtain ⟨hS2, hbn, hbit, hov⟩ := hP1.out wr b hf.out.symm
              have hS3 := Lib.hid hS2
              have hn2 : decide ((b : Int) < 0) = false := decide_eq_false (by omega)
              have hop := Lib.hid (hOp.out d b hbit hbn)
              obtain ⟨b1, o1, rfl, hb1, p0⟩ := hT3.out b hbn
              obtain ⟨t1, t2⟩ := hTb.out b hbn
              have hor := or_nat d (2 ^ b) l6 (hPw.out b hbn)
              have hp2 : ((2 ^ b : Nat) : Int) = p2 b := (p2_nat (by omega)).symm
              rw [hp2] at hor
              have hshb : IntKind.i64.wrap (1 * 2 ^ b) = p2 b := rfl
              have hshb2 : IntKind.i64.wrap (2 ^ b) = p2 b := by unfold p2; rw [Int.one_mul]
              have hb3 : (b : Int) ≤ 64 := by omega
              have hbN : (b : Int) < i := by omega
              have q0 : (wr.drewN m).cell? ⟨g, b, none⟩ = some (.int .i64 (out.getD b 0)) := row_cell hO5.out (by rw [l7]; exact hbn)
              have fr : (wr.drewN m).frozen? ⟨g, b, none⟩ = false := hO5.out.frozenAt b
              have hst := row_set hO5.out b st
              have hO4 := Lib.hid hst.1
              have hB4 := Lib.hid (hB5.out.setCell (p := ⟨g, b, none⟩) (Nat.le_refl _) (.int .i64 st))
              have p1 : ((wr.drewN m).setCell ⟨g, b, none⟩ (.int .i64 st)).cell? ⟨b1, o1 + b, none⟩ = some (.int .i64 (ts.getD b 0)) := by
                rw [World.cell?_setCell_other _ _ _ _ (fun e => by have e2 : g = b1 := congrArg Addr.block e; omega)]
                exact p0
              clear hst hS2 hS hO hBw hneg hbit hp2 hO5 hB5 hf hin
              generalize hdd : d ||| 2 ^ b = d2 at *
              generalize p2 b = pb at *
              generalize ts.getD b 0 = x at *
              generalize wr.drewN m = wo at *
              go_wp2_with fail
              go_roundw
              case rel => exact ⟨k + 1, ⟨d2, st, ld + x, out.set b st⟩, rfl, rfl, rfl, hS3, hO4, hB4⟩
              case measure =>
                have := hop.out
                have h1 := rest_le 0 ld
                simp only [intOf, Int.toNat_natCast]
                rw [rest_other (show ld + x ≠ 0 by omega)]
                omega
theorem lineStations_both (ts bs : List Int) (c : Int) (_ : ∀ x ∈ ts, (Lit.int .i64 x).wf = true) (_ : ∀ x ∈ bs, (Lit.int .i64 x).wf = true) (_ : (Lit.int .i64 c).wf = true) : ∃ (r0 : List Int) (r1 : Bool), r0.length ≤ 1048576 ∧
    (∀ (B : Nat) (v1 v2 : Value) (w : World), LstI B w v1 ts → LstI B w v2 bs → B ≤ w.heap.size → Calls Try.prog 10 #[v1, v2, .int .i64 c] w fun e w' => ∃ v', e = .returned (.tuple #[v', .bool r1]) ∧ Own w.heap.size w'.heap.size w' v' 2 1 r0.length (r0.map (Value.int .i64)) ∧ Below w.heap.size w w') ∧
    (∀ (B : Nat) (v1 v2 : Value) (w : World), LstI B w v1 ts → LstI B w v2 bs → B ≤ w.heap.size → Calls Try.prog 12 #[v1, v2, .int .i64 c] w fun e w' => ∃ v', e = .returned (.tuple #[v', .bool r1]) ∧ Own w.heap.size w'.heap.size w' v' 2 1 r0.length (r0.map (Value.int .i64)) ∧ Below w.heap.size w w') :=
  ⟨statR ts bs c, okStat ts bs c, statR_len ts bs c, fun B v1 v2 w h1 h2 hB => specStations_any B v1 v2 ts bs c w h1 h2 hB, fun B v1 v2 w h1 h2 hB => implStations_any B v1 v2 ts bs c w h1 h2 hB⟩
end Go.Proofs.Ytfidppepchobeaa
