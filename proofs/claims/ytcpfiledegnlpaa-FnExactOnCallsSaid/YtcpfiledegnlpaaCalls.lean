/- Contracts: who is called on each day. -/
import Derived.Test.YtcpfiledegnlpaaCallsPure
import Derived.Test.YtcpfiledegnlpaaMake
import Derived.Test.YtcpfiledegnlpaaPost
import Derived.Test.YtcpfiledegnlpaaFillI
namespace Go.Proofs.Ytcpfiledegnlpaa
open Go.RowKit Go.Lst

set_option maxHeartbeats 4000000 in
theorem fewestCalled_any (B : Nat) (v : Value) (cs : List Int) (z : Nat) (w : World) (h : LstI B w v cs) (hz : z < 4096) (hn : cs.length ≤ 12) :
    Calls Try.prog 73 #[v, .int .i64 (z : Int)] w fun e w' => e = .returned (.tuple #[.int .i64 (bestTo cs (fun i => z.testBit i) cs.length), .bool (bestTo cs (fun i => z.testBit i) cs.length != -1)]) ∧ w = w' := by
  obtain ⟨a, cap, rfl, hl, _, _, hc⟩ := h.at_
  have hC : Hid (∀ k, k < cs.length → ∃ b o, a = some ⟨b, o, none⟩ ∧ w.cell? ⟨b, o + k, none⟩ = some (.int .i64 (cs.getD k 0))) := Lib.hid fun k hk => by
    obtain ⟨b, o, x, h1, _, h3, h4⟩ := hc k hk
    exact ⟨b, o, h1, by rw [getD_of h3]; exact h4⟩
  have hD : Hid (∀ k, bits .and .i64 ((z : Int) / 2 ^ k) 1 = if z.testBit k then 1 else 0) := Lib.hid fun k => digit_of z k (by omega)
  have hAw : Hid (∀ k, z.testBit k = true → bestTo cs (fun i => z.testBit i) (k + 1) = bestTo cs (fun i => z.testBit i) k) := Lib.hid fun k h => best_away (away := fun i => z.testBit i) h
  have hFi : Hid (∀ k, z.testBit k = false → bestTo cs (fun i => z.testBit i) k = -1 → bestTo cs (fun i => z.testBit i) (k + 1) = (k : Int)) := Lib.hid fun k h h2 => best_first (away := fun i => z.testBit i) h h2
  have hLe : Hid (∀ k q : Nat, z.testBit k = false → bestTo cs (fun i => z.testBit i) k = (q : Int) → cs.getD k 0 < cs.getD q 0 → bestTo cs (fun i => z.testBit i) (k + 1) = (k : Int)) := Lib.hid fun k q h h2 h3 => best_less (away := fun i => z.testBit i) h h2 h3
  have hNo : Hid (∀ k q : Nat, z.testBit k = false → bestTo cs (fun i => z.testBit i) k = (q : Int) → ¬ cs.getD k 0 < cs.getD q 0 → bestTo cs (fun i => z.testBit i) (k + 1) = bestTo cs (fun i => z.testBit i) k) := Lib.hid fun k q h h2 h3 => best_not (away := fun i => z.testBit i) h h2 h3
  have hIn : Hid (∀ k, -1 ≤ bestTo cs (fun i => z.testBit i) k ∧ bestTo cs (fun i => z.testBit i) k < k) := Lib.hid fun k => bestTo_in _ _ k
  have h0 : Hid (bestTo cs (fun i => z.testBit i) 0 = -1) := Lib.hid rfl
  clear h hc
  generalize bestTo cs (fun i => z.testBit i) = F at *
  generalize cs.length = n at *
  unfold maxLen at hl
  go_enter Try.func73, Try.ntmps73
  go_wp2_with fail
  go_loopw [6, 7, 12] (fun fv mv iv wr => ∃ (k : Nat) (f m : Int), k ≤ n ∧ iv = .int .i64 k ∧ fv = .int .i64 f ∧ mv = .int .i64 m ∧ Hid (f = F k) ∧ Hid (∀ q : Nat, f = (q : Int) → m = cs.getD q 0) ∧ w = wr) (fun _ _ iv _ => n - (intOf iv).toNat)
  case atStart => exact ⟨0, -1, 0, Nat.zero_le _, rfl, rfl, rfl, Lib.hid h0.out.symm, Lib.hid (fun q hq => by omega), rfl⟩
  case round =>
    obtain ⟨k, f, m, hk, rfl, rfl, rfl, hf, hm, rfl⟩ := hrel
    have hin := hIn.out k
    rw [← hf.out] at hin
    by_cases hlt : k < n
    · obtain ⟨b, o, rfl, p0⟩ := hC.out k hlt
      have hd := hD.out k
      cases hq : z.testBit k
      · rw [hq, if_neg (by simp)] at hd
        by_cases hf1 : f = -1
        · have hF2 := Lib.hid (show (k : Int) = F (k + 1) from (hFi.out k hq (by rw [← hf.out]; exact hf1)).symm)
          have hm2 : Hid (∀ q : Nat, (k : Int) = (q : Int) → cs.getD k 0 = cs.getD q 0) := Lib.hid fun q hq => by rw [show k = q by omega]
          have hb : (f == -1) = true := by rw [beq_iff_eq]; exact hf1
          generalize cs.getD k 0 = x at *
          clear hq hf hm hf1
          go_wp2_with fail
          go_roundw
          case rel => exact ⟨k + 1, _, _, by omega, by go_num, rfl, rfl, hF2, hm2, by trivial⟩
          case measure => simp [intOf]; omega
        · obtain ⟨q, rfl⟩ := Int.eq_ofNat_of_zero_le (show 0 ≤ f by omega)
          have hmq := hm.out q rfl
          have hb : ((q : Int) == -1) = false := by rw [beq_eq_false_iff_ne]; exact hf1
          by_cases hx : cs.getD k 0 < m
          · have hF2 := Lib.hid (show (k : Int) = F (k + 1) from (hLe.out k q hq hf.out.symm (by rw [← hmq]; omega)).symm)
            have hm2 : Hid (∀ q : Nat, (k : Int) = (q : Int) → cs.getD k 0 = cs.getD q 0) := Lib.hid fun q hq => by rw [show k = q by omega]
            have hd2 : decide (cs.getD k 0 < m) = true := decide_eq_true hx
            clear hmq
            generalize cs.getD k 0 = x at *
            clear hq hf hm hf1
            go_wp2_with fail
            go_roundw
            case rel => exact ⟨k + 1, _, _, by omega, by go_num, rfl, rfl, hF2, hm2, by trivial⟩
            case measure => simp [intOf]; omega
          · have hF2 := Lib.hid (show (q : Int) = F (k + 1) by rw [hNo.out k q hq hf.out.symm (by rw [← hmq]; omega)]; exact hf.out)
            have hd2 : decide (cs.getD k 0 < m) = false := decide_eq_false hx
            clear hmq
            generalize cs.getD k 0 = x at *
            clear hq hf hf1
            go_wp2_with fail
            go_roundw
            case rel => exact ⟨k + 1, _, _, by omega, by go_num, rfl, rfl, hF2, hm, by trivial⟩
            case measure => simp [intOf]; omega
      · rw [hq, if_pos rfl] at hd
        have hF2 := Lib.hid (show f = F (k + 1) by rw [hAw.out k hq]; exact hf.out)
        generalize cs.getD k 0 = x at *
        clear hq hf
        go_wp2_with fail
        go_roundw
        case rel => exact ⟨k + 1, _, _, by omega, by go_num, rfl, rfl, hF2, hm, by trivial⟩
        case measure => simp [intOf]; omega
    · obtain rfl : n = k := by omega
      go_wp2_with fail
      go_ret2
      exact ⟨by rw [hf.out]; rfl, rfl⟩
theorem fewest_none (B : Nat) (v : Value) (cs : List Int) (z : Nat) (w : World) (h : LstI B w v cs) (hz : z < 4096) (hn : cs.length ≤ 12) (h1 : bestTo cs (fun i => z.testBit i) cs.length = -1) :
    Calls Try.prog 73 #[v, .int .i64 (z : Int)] w fun e w' => e = .returned (.tuple #[.int .i64 (-1), .bool false]) ∧ w = w' := by
  have := fewestCalled_any B v cs z w h hz hn
  rw [h1] at this
  exact this
theorem fewest_one (B : Nat) (v : Value) (cs : List Int) (z q : Nat) (w : World) (h : LstI B w v cs) (hz : z < 4096) (hn : cs.length ≤ 12) (h1 : bestTo cs (fun i => z.testBit i) cs.length = (q : Int)) :
    Calls Try.prog 73 #[v, .int .i64 (z : Int)] w fun e w' => e = .returned (.tuple #[.int .i64 (q : Int), .bool true]) ∧ w = w' := by
  have := fewestCalled_any B v cs z w h hz hn
  rw [h1, show ((q : Int) != -1) = true by rw [bne_iff_ne]; omega] at this
  exact this
set_option maxHeartbeats 8000000 in
set_option maxRecDepth 100000 in
theorem implOnCalls_any (B : Nat) (v : Value) (zs : List Int) (p days : Int) (w : World) (h : LstI B w v zs) (hB : B ≤ w.heap.size) :
    Calls Try.prog 49 #[.int .i64 p, .int .i64 days, v] w (ListPost (callsRes p days zs) (callsOk p days zs) w) := by
  obtain ⟨a, cap, rfl, hl, _, _, hc⟩ := h.at_
  have hNo : Hid (canCall p days zs = false → ListPost (callsRes p days zs) (callsOk p days zs) w (.returned (.tuple #[.slice none 0 0, .bool false])) w) := Lib.hid fun hq => list_no (no_calls hq).1 (no_calls hq).2 (Below.refl _ _)
  cases e0 : inB p 1 12
  case false =>
    have hP := Lib.hid (hNo.out (by simp [canCall, e0]))
    generalize ListPost (callsRes p days zs) (callsOk p days zs) w = Q at *
    clear h hc hNo
    generalize zs.length = n at *
    unfold maxLen at hl
    go_enter Try.func49, Try.ntmps49
    go_wp2_with (go_at_call 64; refine (isWithin_any _ _ _ _).mono ?_; rintro e w' ⟨rfl, rfl⟩)
    first | exact hP.out | (go_ret2; exact hP.out)
  cases e1 : inB days 1 128
  case false =>
    have hP := Lib.hid (hNo.out (by simp [canCall, e0, e1]))
    generalize ListPost (callsRes p days zs) (callsOk p days zs) w = Q at *
    clear h hc hNo
    generalize zs.length = n at *
    unfold maxLen at hl
    go_enter Try.func49, Try.ntmps49
    go_wp2_with (go_at_call 64; refine (isWithin_any _ _ _ _).mono ?_; rintro e w' ⟨rfl, rfl⟩)
    first | exact hP.out | (go_ret2; exact hP.out)
  by_cases e2 : (zs.length : Int) = days
  case neg =>
    have hP := Lib.hid (hNo.out (by simp [canCall, e2]))
    have hb : ((zs.length : Int) != days) = true := by rw [bne_iff_ne]; exact e2
    generalize ListPost (callsRes p days zs) (callsOk p days zs) w = Q at *
    clear h hc hNo e2
    generalize zs.length = n at *
    unfold maxLen at hl
    go_enter Try.func49, Try.ntmps49
    go_wp2_with (go_at_call 64; refine (isWithin_any _ _ _ _).mono ?_; rintro e w' ⟨rfl, rfl⟩)
    first | exact hP.out | (go_ret2; exact hP.out)
  subst e2
  have p1 := (inB_true e0).1
  have p12 := (inB_true e0).2
  have d1 := (inB_true e1).1
  have d128 := (inB_true e1).2
  obtain ⟨q, rfl⟩ : ∃ q : Nat, p = q := ⟨p.toNat, by omega⟩
  have hpw := pow_few (p := q) (by omega)
  have hW := Lib.hid (areWithin_any B _ zs 0 ((2 : Int) ^ q - 1) w h.lst)
  have hb : ((zs.length : Int) != (zs.length : Int)) = false := by simp
  cases e3 : allIn zs 0 ((2 : Int) ^ q - 1)
  case false =>
    have hP := Lib.hid (hNo.out (by simp [canCall, e3]))
    generalize ListPost (callsRes (q : Int) zs.length zs) (callsOk (q : Int) zs.length zs) w = Q at *
    rw [e3] at hW
    clear h hc hNo
    generalize zs.length = n at *
    unfold maxLen at hl
    go_enter Try.func49, Try.ntmps49
    go_wp2_with (first | (go_at_call 64; refine (isWithin_any _ _ _ _).mono ?_; rintro e w' ⟨rfl, rfl⟩) | (go_at_call 55; (with_reducible refine (hW.out).mono ?_); rintro e w' ⟨rfl, rfl⟩))
    first | exact hP.out | (go_ret2; exact hP.out)
  have hcan : canCall (q : Int) zs.length zs = true := by simp [canCall, e0, e1, e3]
  obtain ⟨g, hg0⟩ : ∃ g, w.heap.size = g := ⟨_, rfl⟩
  have hZ : Hid (∀ d, d < zs.length → ∃ (z : Nat) (b o : Nat), z < 4096 ∧ (zs.getD d 0).toNat = z ∧ a = some ⟨b, o, none⟩ ∧ b < B ∧ w.cell? ⟨b, o + d, none⟩ = some (.int .i64 (z : Int))) := Lib.hid fun d hd => by
    obtain ⟨b, o, x, h1, h2, h3, h4⟩ := hc d hd
    have hx := (canCall_of hcan).2.2.2.2.2 d x h3
    rw [show (q : Int).toNat = q by omega] at hx
    exact ⟨x.toNat, b, o, by omega, by rw [getD_of h3], h1, h2, by rw [h4]; congr 2; omega⟩
  have hStop : Hid (∀ d cs out, callsAt q zs d = some (cs, out) → d < zs.length → pick cs (zs.getD d 0).toNat (lastOf out) q = -1 → ∀ w', Below g w w' → ListPost (callsRes (q : Int) zs.length zs) (callsOk (q : Int) zs.length zs) w (.returned (.tuple #[.slice none 0 0, .bool false])) w') := Lib.hid fun d cs out h1 h2 h3 w' hb => by
    have := none_calls (days := zs.length) (callsAt_no h1 h3) (by omega)
    subst hg0
    exact list_no this.1 this.2 hb
  have hEnd : Hid (∀ d cs out v w', d = zs.length → callsAt q zs d = some (cs, out) → w'.ownsRow (g + 1) 2 1 v d (out.map (Value.int .i64)) → Below g w w' → ListPost (callsRes (q : Int) zs.length zs) (callsOk (q : Int) zs.length zs) w (.returned (.tuple #[v, .bool true])) w') := Lib.hid fun d cs out v w' hd h1 ho hb => by
    subst hd hg0
    have := some_calls hcan h1
    rw [this.1]
    exact list_yes this.2 (Nat.le_succ _) (callsAt_in h1).2.1 ho (by omega) hb
  have hCI : Hid (∀ d cs out, callsAt q zs d = some (cs, out) → cs.length = q ∧ (∀ i, 0 ≤ cs.getD i 0 ∧ cs.getD i 0 ≤ d)) := Lib.hid fun d cs out h => ⟨(callsAt_in h).1, (callsAt_in h).2.2.1⟩
  have hYes : Hid (∀ d k cs out, callsAt q zs d = some (cs, out) → pick cs (zs.getD d 0).toNat (lastOf out) q = ((k : Nat) : Int) → callsAt q zs (d + 1) = some (cs.set k (cs.getD k 0 + 1), out ++ [(k : Int)])) := Lib.hid fun d k cs out h1 h2 => callsAt_yes h1 h2
  have hStart : Hid (callsAt q zs 0 = some (List.replicate q 0, [])) := Lib.hid rfl
  obtain ⟨i0, hi, hz0, hz1, hz2⟩ := info_parts infoI
  have hmk := make_ints 30 i0 Try.underlying30 hi hz0 hz1 hz2 q (by omega)
  have hmr := Lib.hid (made_row w q (by omega))
  have hG0 := Lib.hid hg0
  generalize ListPost (callsRes (q : Int) zs.length zs) (callsOk (q : Int) zs.length zs) w = Q at *
  rw [e3] at hW
  have hBg : B ≤ g := by omega
  clear h hc hNo hcan hg0 hB
  generalize zs.length = n at *
  unfold maxLen at hl
  go_enter Try.func49, Try.ntmps49
  go_wp2_with (first | (go_at_call 64; refine (isWithin_any _ _ _ _).mono ?_; rintro e w' ⟨rfl, rfl⟩) | (go_at_call 55; (with_reducible refine (hW.out).mono ?_); rintro e w' ⟨rfl, rfl⟩))
  clear e0 e1 e3 hb hpw
  have hY1 := Lib.hid (show Own w.heap.size (w.heap.size + 1) (w.alloc (.cells (madeCells #[.int .i64 0] q) 2)) (.slice (some ⟨w.heap.size, 0, none⟩) q q) 2 1 q ((List.replicate q (0 : Int)).map (Value.int .i64)) by
    have := Own.new hmr.out (show q ≤ maxLen by unfold maxLen; omega)
    rw [alloc_size] at this
    exact this)
  have hB1 := Lib.hid (show Below w.heap.size w (w.alloc (.cells (madeCells #[.int .i64 0] q) 2)) from below_alloc (Below.refl _ _) _)
  have hs1 : (w.alloc (.cells (madeCells #[.int .i64 0] q) 2)).heap.size = w.heap.size + 1 := alloc_size w _
  clear hmr hmk
  generalize w.alloc (.cells (madeCells #[.int .i64 0] q) 2) = w5 at *
  have hs2 : w.heap.size + 1 ≤ w5.heap.size := by omega
  clear hs1
  generalize hgg : w.heap.size = g2 at *
  obtain rfl : g2 = g := hG0.out
  have hGg := Lib.hid hgg
  clear hgg hG0
  go_loopw [8, 10, 41] (fun ov dv iv wr => ∃ (d db : Nat) (cs out : List Int), d ≤ n ∧ iv = .int .i64 d ∧ dv = .int .i64 (db : Int) ∧ db < 4096 ∧ Hid (callsAt q zs d = some (cs, out)) ∧ Hid (∀ i, i < q → db.testBit i = decide ((i : Int) = lastOf out)) ∧ Hid (wr.ownsRow (g2 + 1) 2 1 ov d (out.map (Value.int .i64))) ∧ Hid (Own g2 (g2 + 1) wr (.slice (some ⟨g2, 0, none⟩) q q) 2 1 q (cs.map (Value.int .i64))) ∧ Hid (Below g2 w wr) ∧ g2 + 1 ≤ wr.heap.size) (fun _ _ iv _ => n - (intOf iv).toNat)
  case atStart => exact ⟨0, 0, _, _, Nat.zero_le _, rfl, rfl, by omega, hStart, Lib.hid (fun i _ => by rw [Nat.zero_testBit]; symm; exact decide_eq_false (by show ¬ (i : Int) = -1; omega)), Lib.hid ⟨rfl, .inl ⟨rfl, rfl⟩⟩, hY1, hB1, hs2⟩
  case round =>
    clear hY1 hB1 hs2
    obtain ⟨d, db, cs, out, hd, rfl, rfl, hdb, hS, hT, hO, hY, hBw, hsz⟩ := hrel
    by_cases hlt : d < n
    · obtain ⟨z, b, o, hz4, hzz, rfl, hbB, p0⟩ := hZ.out d hlt
      rw [← hBw.out.cell (p := ⟨b, o + d, none⟩) (show b < g2 by omega)] at p0
      have hor := or_nat z db hz4 hdb
      have hor4 : z ||| db < 4096 := Nat.or_lt_two_pow (n := 12) hz4 hdb
      obtain ⟨hlen, hcin⟩ := hCI.out d cs out hS.out
      have hLen := Lib.hid hlen
      have hCin := Lib.hid hcin
      have hLI := Lib.hid (show LstI (g2 + 1) wr (.slice (some ⟨g2, 0, none⟩) q q) cs by
        have h := hY.out
        rw [← hlen] at h ⊢
        exact h.lstI (Nat.le_refl _))
      have hX : bestTo cs (fun i => (z ||| db).testBit i) cs.length = bestTo cs (outOf z (lastOf out)) q := by
        rw [hlen]
        exact bestTo_congr q fun i hi => by rw [Nat.testBit_or, hT.out i hi]; rfl
      have hrg1 := bestTo_in cs (outOf z (lastOf out)) q
      have hrg2 := bestTo_in cs (fun i => z.testBit i) q
      clear hlen hcin
      by_cases hf1 : bestTo cs (outOf z (lastOf out)) q = -1
      · have hF1 := Lib.hid (fewest_none (g2 + 1) _ cs (z ||| db) wr hLI.out hor4 (by have := hLen.out; omega) (by rw [hX, hf1]))
        have hpk : pick cs (zs.getD d 0).toNat (lastOf out) q = bestTo cs (fun i => z.testBit i) q := by rw [hzz]; unfold pick; rw [if_pos hf1]
        by_cases hf2 : bestTo cs (fun i => z.testBit i) q = -1
        · have hF2 := Lib.hid (fewest_none (g2 + 1) _ cs z wr hLI.out hz4 (by have := hLen.out; omega) (by rw [hLen.out]; exact hf2))
          have hR := Lib.hid (hStop.out d cs out hS.out hlt (by rw [hpk]; exact hf2) wr hBw.out)
          clear hX hpk hf1 hf2 hzz hrg1 hrg2
          generalize z ||| db = zd at *
          go_wp2_with (go_at_call 73; first | ((with_reducible refine (hF1.out).mono ?_); rintro e w' ⟨rfl, rfl⟩) | ((with_reducible refine (hF2.out).mono ?_); rintro e w' ⟨rfl, rfl⟩))
          first | exact hR.out | (go_ret2; exact hR.out)
        · obtain ⟨k, hk⟩ := Int.eq_ofNat_of_zero_le (show 0 ≤ bestTo cs (fun i => z.testBit i) q by omega)
          have hF2 := Lib.hid (fewest_one (g2 + 1) _ cs z k wr hLI.out hz4 (by have := hLen.out; omega) (by rw [hLen.out]; exact hk))
          have hNext := Lib.hid (hYes.out d k cs out hS.out (by rw [hpk]; exact hk))
          have hkq : k < q := by omega
          clear hX hpk hf1 hf2 hzz hrg1 hrg2 hk
          have hck := hCin.out k
          generalize hcg : cs.getD k 0 = ck at *
          have hCk := Lib.hid hcg
          clear hcg
          have hw1 : IntKind.i64.wrap (ck + 1) = ck + 1 := IntWalk.i64_in _ (by omega)
          have hLast : Hid (∀ i, i < q → (2 ^ k).testBit i = decide ((i : Int) = lastOf (out ++ [(k : Int)]))) := Lib.hid fun i _ => by rw [lastOf_snoc]; exact two_bit k i
          have hpk := pow_few (p := k) (by omega)
          have hpc : ((2 ^ k : Nat) : Int) = (2 : Int) ^ k := by rw [Int.natCast_pow]; rfl
          have hPc := Lib.hid hpc
          have hp3 := pow_less (p := k) (by omega)
          clear hpc
          generalize z ||| db = zd at *
          go_wp2_with (first | (go_at_call 73; first | ((with_reducible refine (hF1.out).mono ?_); rintro e w' ⟨rfl, rfl⟩) | ((with_reducible refine (hF2.out).mono ?_); rintro e w' ⟨rfl, rfl⟩)) | (at_builtin; refine wpList_append_own _ rfl _ _ _ rfl (g2 + 1) 2 i0 (.int .i64 0) 1 8 Try.underlying30 hi hz0 hz1 hz2 rfl (by decide) _ d _ rfl (hO.out.alloc _) ⟨wr.heap.size, 0, none⟩ 1 1 [.int .i64 (k : Int)] rfl rfl (news1 wr _ _) (one_int _) (by unfold maxLen; omega) (by omega) (grow_le hsz _) ?_; intro v8 w8 hown8 hgrow8 hnil8; have hY8 := Lib.hid ((hY.out.below (w' := wr.alloc _) (below_alloc (Below.refl _ _) _) hsz).beside hgrow8 (fun x hx => .inr (hO.out.lt x hx).1) (grow_le hsz _)); have f2 : w8.cell? ⟨g2, k, none⟩ = some (.int .i64 ck) := (row_cell hY8.out.1 (by rw [hLen.out]; omega)).trans (by rw [hCk.out]); have f3 : w8.frozen? ⟨g2, k, none⟩ = false := hY8.out.1.frozenAt k))
          have hB8 := Lib.hid (below_app hBw.out hO.out hgrow8 (by omega) (by omega))
          have hO8 := Lib.hid (show w8.ownsRow (g2 + 1) 2 1 v8 (d + 1) ((out ++ [(k : Int)]).map (Value.int .i64)) by rw [List.map_append]; exact hown8)
          have e10 : g2 + 1 ≤ w8.heap.size := Nat.le_trans (grow_le hsz _) hgrow8.size
          have hs2 := row_set hY8.out.1 k (ck + 1)
          have hO9 := Lib.hid ((Own.new hO8.out (by unfold maxLen; omega)).beside hs2.2 (fun x hx => .inl (by cases hx; omega)) (Nat.le_refl _)).1
          have hY9 := Lib.hid (show Own g2 (g2 + 1) (w8.setCell ⟨g2, k, none⟩ (.int .i64 (ck + 1))) (.slice (some ⟨g2, 0, none⟩) q q) 2 1 q ((cs.set k (ck + 1)).map (Value.int .i64)) from ⟨hs2.1, by unfold maxLen; omega, fun x hx => by cases hx; exact Nat.lt_succ_self _⟩)
          have hB9 := Lib.hid (hB8.out.grown hs2.2 (by omega) (fun x hx => by cases hx; omega))
          have e11 : g2 + 1 ≤ (w8.setCell ⟨g2, k, none⟩ (.int .i64 (ck + 1))).heap.size := Nat.le_trans e10 hs2.2.size
          clear hs2 hown8 hgrow8 hnil8 hO8 hB8 f2 f3
          go_roundw
          case rel => exact ⟨d + 1, 2 ^ k, _, _, by omega, by go_num, by rw [hPc.out], by omega, hNext, hLast, hO9, hY9, hB9, e11⟩
          case measure => simp [intOf]; omega
      · obtain ⟨k, hk⟩ := Int.eq_ofNat_of_zero_le (show 0 ≤ bestTo cs (outOf z (lastOf out)) q by omega)
        have hF1 := Lib.hid (fewest_one (g2 + 1) _ cs (z ||| db) k wr hLI.out hor4 (by have := hLen.out; omega) (by rw [hX, hk]))
        have hF2 := hF1
        have hNext := Lib.hid (hYes.out d k cs out hS.out (by rw [hzz]; unfold pick; rw [if_neg hf1]; exact hk))
        have hkq : k < q := by omega
        clear hX hf1 hzz hrg1 hrg2 hk
        have hck := hCin.out k
        generalize hcg : cs.getD k 0 = ck at *
        have hCk := Lib.hid hcg
        clear hcg
        have hw1 : IntKind.i64.wrap (ck + 1) = ck + 1 := IntWalk.i64_in _ (by omega)
        have hLast : Hid (∀ i, i < q → (2 ^ k).testBit i = decide ((i : Int) = lastOf (out ++ [(k : Int)]))) := Lib.hid fun i _ => by rw [lastOf_snoc]; exact two_bit k i
        have hpk := pow_few (p := k) (by omega)
        have hpc : ((2 ^ k : Nat) : Int) = (2 : Int) ^ k := by rw [Int.natCast_pow]; rfl
        have hPc := Lib.hid hpc
        have hp3 := pow_less (p := k) (by omega)
        clear hpc
        generalize z ||| db = zd at *
        go_wp2_with (first | (go_at_call 73; first | ((with_reducible refine (hF1.out).mono ?_); rintro e w' ⟨rfl, rfl⟩) | ((with_reducible refine (hF2.out).mono ?_); rintro e w' ⟨rfl, rfl⟩)) | (at_builtin; refine wpList_append_own _ rfl _ _ _ rfl (g2 + 1) 2 i0 (.int .i64 0) 1 8 Try.underlying30 hi hz0 hz1 hz2 rfl (by decide) _ d _ rfl (hO.out.alloc _) ⟨wr.heap.size, 0, none⟩ 1 1 [.int .i64 (k : Int)] rfl rfl (news1 wr _ _) (one_int _) (by unfold maxLen; omega) (by omega) (grow_le hsz _) ?_; intro v8 w8 hown8 hgrow8 hnil8; have hY8 := Lib.hid ((hY.out.below (w' := wr.alloc _) (below_alloc (Below.refl _ _) _) hsz).beside hgrow8 (fun x hx => .inr (hO.out.lt x hx).1) (grow_le hsz _)); have f2 : w8.cell? ⟨g2, k, none⟩ = some (.int .i64 ck) := (row_cell hY8.out.1 (by rw [hLen.out]; omega)).trans (by rw [hCk.out]); have f3 : w8.frozen? ⟨g2, k, none⟩ = false := hY8.out.1.frozenAt k))
        have hB8 := Lib.hid (below_app hBw.out hO.out hgrow8 (by omega) (by omega))
        have hO8 := Lib.hid (show w8.ownsRow (g2 + 1) 2 1 v8 (d + 1) ((out ++ [(k : Int)]).map (Value.int .i64)) by rw [List.map_append]; exact hown8)
        have e10 : g2 + 1 ≤ w8.heap.size := Nat.le_trans (grow_le hsz _) hgrow8.size
        have hs2 := row_set hY8.out.1 k (ck + 1)
        have hO9 := Lib.hid ((Own.new hO8.out (by unfold maxLen; omega)).beside hs2.2 (fun x hx => .inl (by cases hx; omega)) (Nat.le_refl _)).1
        have hY9 := Lib.hid (show Own g2 (g2 + 1) (w8.setCell ⟨g2, k, none⟩ (.int .i64 (ck + 1))) (.slice (some ⟨g2, 0, none⟩) q q) 2 1 q ((cs.set k (ck + 1)).map (Value.int .i64)) from ⟨hs2.1, by unfold maxLen; omega, fun x hx => by cases hx; exact Nat.lt_succ_self _⟩)
        have hB9 := Lib.hid (hB8.out.grown hs2.2 (by omega) (fun x hx => by cases hx; omega))
        have e11 : g2 + 1 ≤ (w8.setCell ⟨g2, k, none⟩ (.int .i64 (ck + 1))).heap.size := Nat.le_trans e10 hs2.2.size
        clear hs2 hown8 hgrow8 hnil8 hO8 hB8 f2 f3
        go_roundw
        case rel => exact ⟨d + 1, 2 ^ k, _, _, by omega, by go_num, by rw [hPc.out], by omega, hNext, hLast, hO9, hY9, hB9, e11⟩
        case measure => simp [intOf]; omega
    · have hR := Lib.hid (hEnd.out d cs out _ wr (by omega) hS.out hO.out hBw.out)
      obtain rfl : d = n := by omega
      go_wp2_with fail
      first | exact hR.out | (go_ret2; exact hR.out)
set_option maxHeartbeats 8000000 in
set_option maxRecDepth 100000 in
theorem specOnCalls_any (B : Nat) (v : Value) (zs : List Int) (p days : Int) (w : World) (h : LstI B w v zs) (hB : B ≤ w.heap.size) :
    Calls Try.prog 48 #[.int .i64 p, .int .i64 days, v] w (ListPost (callsRes p days zs) (callsOk p days zs) w) := by
  obtain ⟨a, cap, rfl, hl, _, _, hc⟩ := h.at_
  have hNo : Hid (canCall p days zs = false → ListPost (callsRes p days zs) (callsOk p days zs) w (.returned (.tuple #[.slice none 0 0, .bool false])) w) := Lib.hid fun hq => list_no (no_calls hq).1 (no_calls hq).2 (Below.refl _ _)
  cases e0 : inB p 1 12
  case false =>
    have hP := Lib.hid (hNo.out (by simp [canCall, e0]))
    generalize ListPost (callsRes p days zs) (callsOk p days zs) w = Q at *
    clear h hc hNo
    generalize zs.length = n at *
    unfold maxLen at hl
    go_enter Try.func48, Try.ntmps48
    go_wp2_with (go_at_call 68; refine (l00In_any _ _ _ _).mono ?_; rintro e w' ⟨rfl, rfl⟩)
    first | exact hP.out | (go_ret2; exact hP.out)
  cases e1 : inB days 1 128
  case false =>
    have hP := Lib.hid (hNo.out (by simp [canCall, e0, e1]))
    generalize ListPost (callsRes p days zs) (callsOk p days zs) w = Q at *
    clear h hc hNo
    generalize zs.length = n at *
    unfold maxLen at hl
    go_enter Try.func48, Try.ntmps48
    go_wp2_with (go_at_call 68; refine (l00In_any _ _ _ _).mono ?_; rintro e w' ⟨rfl, rfl⟩)
    first | exact hP.out | (go_ret2; exact hP.out)
  by_cases e2 : (zs.length : Int) = days
  case neg =>
    have hP := Lib.hid (hNo.out (by simp [canCall, e2]))
    have hb : ((zs.length : Int) != days) = true := by rw [bne_iff_ne]; exact e2
    generalize ListPost (callsRes p days zs) (callsOk p days zs) w = Q at *
    clear h hc hNo e2
    generalize zs.length = n at *
    unfold maxLen at hl
    go_enter Try.func48, Try.ntmps48
    go_wp2_with (go_at_call 68; refine (l00In_any _ _ _ _).mono ?_; rintro e w' ⟨rfl, rfl⟩)
    first | exact hP.out | (go_ret2; exact hP.out)
  subst e2
  have p1 := (inB_true e0).1
  have p12 := (inB_true e0).2
  have d1 := (inB_true e1).1
  have d128 := (inB_true e1).2
  obtain ⟨q, rfl⟩ : ∃ q : Nat, p = q := ⟨p.toNat, by omega⟩
  have hpw := pow_few (p := q) (by omega)
  have hb : ((zs.length : Int) != (zs.length : Int)) = false := by simp
  obtain ⟨g, hg0⟩ : ∃ g, w.heap.size = g := ⟨_, rfl⟩
  have hCan : Hid (∀ d, d = zs.length → (∀ i x, i < d → zs[i]? = some x → inB x 0 ((2 : Int) ^ q - 1) = true) → canCall (q : Int) zs.length zs = true) := Lib.hid fun d hd hp => by
    have : allIn zs 0 ((2 : Int) ^ q - 1) = true := all_upto fun i x hi hx => hp i x (by omega) hx
    simp [canCall, e0, e1, this]
  have hBad : Hid (∀ (d : Nat) (x : Int), zs[d]? = some x → inB x 0 ((2 : Int) ^ q - 1) = false → ∀ w', Below g w w' → ListPost (callsRes (q : Int) zs.length zs) (callsOk (q : Int) zs.length zs) w (.returned (.tuple #[.slice none 0 0, .bool false])) w') := Lib.hid fun d x hx hf w' hb => by
    have hc : canCall (q : Int) zs.length zs = false := by
      have : allIn zs 0 ((2 : Int) ^ q - 1) = false := all_not hx hf
      simp [canCall, this]
    subst hg0
    exact list_no (no_calls hc).1 (no_calls hc).2 hb
  have hStop : Hid (∀ d cs out, callsAt q zs d = some (cs, out) → d < zs.length → pick cs (zs.getD d 0).toNat (lastOf out) q = -1 → ∀ w', Below g w w' → ListPost (callsRes (q : Int) zs.length zs) (callsOk (q : Int) zs.length zs) w (.returned (.tuple #[.slice none 0 0, .bool false])) w') := Lib.hid fun d cs out h1 h2 h3 w' hb => by
    have := none_calls (days := zs.length) (callsAt_no h1 h3) (by omega)
    subst hg0
    exact list_no this.1 this.2 hb
  have hEnd : Hid (∀ d cs out v w', d = zs.length → (∀ i x, i < d → zs[i]? = some x → inB x 0 ((2 : Int) ^ q - 1) = true) → callsAt q zs d = some (cs, out) → w'.ownsRow (g + 1) 2 1 v d (out.map (Value.int .i64)) → Below g w w' → ListPost (callsRes (q : Int) zs.length zs) (callsOk (q : Int) zs.length zs) w (.returned (.tuple #[v, .bool true])) w') := Lib.hid fun d cs out v w' hd hp h1 ho hb => by
    have hcan := hCan.out d hd hp
    subst hd hg0
    have := some_calls hcan h1
    rw [this.1]
    exact list_yes this.2 (Nat.le_succ _) (callsAt_in h1).2.1 ho (by omega) hb
  have hCI : Hid (∀ d cs out, callsAt q zs d = some (cs, out) → cs.length = q ∧ out.length = d ∧ (∀ i, 0 ≤ cs.getD i 0 ∧ cs.getD i 0 ≤ d) ∧ ((d = 0 ∧ lastOf out = -1) ∨ (0 < d ∧ 0 ≤ lastOf out ∧ lastOf out < q))) := Lib.hid fun d cs out h => callsAt_in h
  have hYes : Hid (∀ d k cs out, callsAt q zs d = some (cs, out) → pick cs (zs.getD d 0).toNat (lastOf out) q = ((k : Nat) : Int) → callsAt q zs (d + 1) = some (cs.set k (cs.getD k 0 + 1), out ++ [(k : Int)])) := Lib.hid fun d k cs out h1 h2 => callsAt_yes h1 h2
  have hStart : Hid (callsAt q zs 0 = some (List.replicate q 0, [])) := Lib.hid rfl
  obtain ⟨i0, hi, hz0, hz1, hz2⟩ := info_parts infoI
  have hmk := make_ints 30 i0 Try.underlying30 hi hz0 hz1 hz2 q (by omega)
  have hmr := Lib.hid (made_row w q (by omega))
  have hG0 := Lib.hid hg0
  have hC := Lib.hid hc
  have hBg : B ≤ g := by omega
  generalize ListPost (callsRes (q : Int) zs.length zs) (callsOk (q : Int) zs.length zs) w = Q at *
  clear h hc hNo hg0 hB hCan
  generalize zs.length = n at *
  unfold maxLen at hl
  go_enter Try.func48, Try.ntmps48
  go_wp2_with (go_at_call 68; refine (l00In_any _ _ _ _).mono ?_; rintro e w' ⟨rfl, rfl⟩)
  clear e0 e1 hb
  have hY1 := Lib.hid (show Own w.heap.size (w.heap.size + 1) (w.alloc (.cells (madeCells #[.int .i64 0] q) 2)) (.slice (some ⟨w.heap.size, 0, none⟩) q q) 2 1 q ((List.replicate q (0 : Int)).map (Value.int .i64)) by
    have := Own.new hmr.out (show q ≤ maxLen by unfold maxLen; omega)
    rw [alloc_size] at this
    exact this)
  have hB1 := Lib.hid (show Below w.heap.size w (w.alloc (.cells (madeCells #[.int .i64 0] q) 2)) from below_alloc (Below.refl _ _) _)
  have hs1 : (w.alloc (.cells (madeCells #[.int .i64 0] q) 2)).heap.size = w.heap.size + 1 := alloc_size w _
  clear hmr hmk
  generalize w.alloc (.cells (madeCells #[.int .i64 0] q) 2) = w4 at *
  have hO2 := Lib.hid (show (w4.alloc (Obj.cells #[] 2)).ownsRow w4.heap.size 2 1 (.slice (some ⟨w4.heap.size, 0, none⟩) 0 0) 0 (([] : List Int).map (Value.int .i64)) from World.ownsRow_lit w4 #[] 0 (Nat.le_refl _) (Nat.zero_le _) rfl)
  have hY2 := Lib.hid (hY1.out.below (w' := w4.alloc (Obj.cells #[] 2)) (below_alloc (Below.refl _ _) _) (by omega))
  have hB2 := Lib.hid (hB1.out.alloc (by omega) (Obj.cells #[] 2))
  have hs2 : (w4.alloc (Obj.cells #[] 2)).heap.size = w4.heap.size + 1 := alloc_size w4 _
  clear hY1 hB1
  generalize w4.alloc (Obj.cells #[] 2) = w5 at *
  have hs3 := Lib.hid hs1
  have hs4 := Lib.hid hs2
  clear hs1 hs2
  generalize hw4 : w4.heap.size = g1 at *
  generalize hgg : w.heap.size = g2 at *
  obtain rfl : g2 = g := hG0.out
  obtain rfl : g1 = g2 + 1 := hs3.out
  have hgs := hs4.out
  have hGg := Lib.hid hgg
  clear hs3 hs4 hw4 hgg hG0
  go_loopw [9, 10] (fun ov iv wr => ∃ (d : Nat) (cs out : List Int), d ≤ n ∧ iv = .int .i64 d ∧ Hid (callsAt q zs d = some (cs, out)) ∧ Hid (∀ i x, i < d → zs[i]? = some x → inB x 0 ((2 : Int) ^ q - 1) = true) ∧ Hid (wr.ownsRow (g2 + 1) 2 1 ov d (out.map (Value.int .i64))) ∧ Hid (Own g2 (g2 + 1) wr (.slice (some ⟨g2, 0, none⟩) q q) 2 1 q (cs.map (Value.int .i64))) ∧ Hid (Below g2 w wr) ∧ g2 + 1 ≤ wr.heap.size) (fun _ iv _ => n - (intOf iv).toNat)
  case atStart => exact ⟨0, _, _, Nat.zero_le _, rfl, hStart, Lib.hid (fun i x h => by omega), hO2, hY2, hB2, by omega⟩
  case round =>
    clear hO2 hY2 hB2 hgs
    obtain ⟨d, cs, out, hd, rfl, hS, hP, hO, hY, hBw, hsz⟩ := hrel
    by_cases hlt : d < n
    · obtain ⟨b, o, x, rfl, hbB, hx, p0⟩ := hC.out d hlt
      have P0 := Lib.hid p0
      rw [← hBw.out.cell (p := ⟨b, o + d, none⟩) (show b < g2 by omega)] at p0
      cases hin : inB x 0 ((2 : Int) ^ q - 1)
      case false =>
        have hR := Lib.hid (hBad.out d x hx hin wr hBw.out)
        clear hx
        go_wp2_with (go_at_call 68; refine (l00In_is _ _ _ ‹_› _).mono ?_; rintro e w' ⟨rfl, rfl⟩)
        first | exact hR.out | (go_ret2; exact hR.out)
      case true =>
        have hxa := (inB_true hin).1
        have hxb := (inB_true hin).2
        have hP2 : Hid (∀ i y, i < d + 1 → zs[i]? = some y → inB y 0 ((2 : Int) ^ q - 1) = true) := Lib.hid fun i y hi hy => by
          by_cases h1 : i < d
          · exact hP.out i y h1 hy
          · obtain rfl : i = d := by omega
            rw [hx] at hy
            cases hy
            exact hin
        obtain ⟨z, rfl⟩ := Int.eq_ofNat_of_zero_le hxa
        have hz4 : z < 4096 := by omega
        have hzz : (zs.getD d 0).toNat = z := by rw [getD_of hx]; exact Int.toNat_natCast z
        obtain ⟨hlen, hlo, hcin, hlast⟩ := hCI.out d cs out hS.out
        have hPick : Hid (∀ r, pick cs z (lastOf out) q = r → pick cs (zs.getD d 0).toNat (lastOf out) q = r) := Lib.hid fun r hr => by rw [hzz]; exact hr
        have hLen := Lib.hid hlen
        have hCin := Lib.hid hcin
        have hOL : LstI wr.heap.size wr _ out := (show Own (g2 + 1) wr.heap.size wr _ 2 1 out.length (out.map (Value.int .i64)) by rw [hlo]; exact Own.new hO.out (by unfold maxLen; omega)).lstI (Nat.le_refl _)
        obtain ⟨ao, co, rfl, _, _, _, hoc⟩ := hOL.at_
        rw [hlo] at hO hoc ⊢
        have hLc : Hid (0 < d → ∃ bo oo, ao = some ⟨bo, oo, none⟩ ∧ wr.cell? ⟨bo, oo + (d - 1), none⟩ = some (.int .i64 (lastOf out))) := Lib.hid fun h0 => by
          obtain ⟨bo, oo, y, h1, _, h3, h4⟩ := hoc (d - 1) (by omega)
          exact ⟨bo, oo, h1, by rw [last_is hlo h3]; exact h4⟩
        have hDg : Hid (∀ k, bits .and .i64 ((z : Int) / 2 ^ k) 1 = if z.testBit k then 1 else 0) := Lib.hid fun k => digit_of z k (by omega)
        have hAl0 : Hid (alone z (lastOf out) 0 = false) := Lib.hid (decide_eq_false (by omega))
        have hBt0 : Hid (bestTo cs (outOf z (lastOf out)) 0 = -1) := Lib.hid rfl
        clear hx hlen hlo hcin hzz hoc hOL
        generalize hLL : lastOf out = L at *
        have hLLh := Lib.hid hLL
        clear hLL
        go_wp2_with (go_at_call 68; refine (l00In_is _ _ _ ‹_› _).mono ?_; rintro e w' ⟨rfl, rfl⟩)
        clear hin p0
        go_loopw [11, 12, 13] (fun fv av iv w' => ∃ (i nq : Nat) (f : Int) (ag : Bool), i ≤ q ∧ iv = .int .i64 i ∧ fv = .int .i64 f ∧ av = .bool ag ∧ Hid (f = bestTo cs (outOf z L) i) ∧ Hid (ag = alone z L i) ∧ w' = wr.drewN nq) (fun _ _ iv _ => q - (intOf iv).toNat)
        case atStart => exact ⟨0, 0, _, _, Nat.zero_le _, rfl, rfl, rfl, Lib.hid hBt0.out.symm, Lib.hid hAl0.out.symm, rfl⟩
        case round =>
          obtain ⟨i, nq, f, ag, hi2, rfl, rfl, rfl, hf, hag, rfl⟩ := hrel
          have hfin := bestTo_in cs (outOf z L) i
          rw [← hf.out] at hfin
          by_cases hlt2 : i < q
          · have p0 := P0.out
            rw [← hBw.out.cell (p := ⟨b, o + d, none⟩) (show b < g2 by omega), ← World.cell?_drewN (n := nq)] at p0
            have hdg := hDg.out i
            cases hbt : z.testBit i
            case true =>
              rw [hbt, if_pos rfl] at hdg
              have hf2 := Lib.hid (hf.out.trans (best_away (cs := cs) (away := outOf z L) (k := i) (out_bit hbt)).symm)
              have ha2 := Lib.hid (hag.out.trans (alone_same (.inr hbt)).symm)
              generalize hwo : wr.drewN nq = wo at *
              have hWo := Lib.hid hwo
              clear hwo hf hag hbt
              go_wp2_with fail
              go_roundw
              case rel => exact ⟨i + 1, _, _, _, by omega, by go_num, rfl, rfl, hf2, ha2, hWo.out.symm⟩
              case measure => simp [intOf]; omega
            case false =>
              rw [hbt, if_neg (by simp)] at hdg
              by_cases hd0 : 0 < d
              · obtain ⟨bo, oo, rfl, hlc⟩ := hLc.out hd0
                rw [← World.cell?_drewN (n := nq)] at hlc
                have t1 : ((d : Int) - 1).toNat = d - 1 := by omega
                have t2 : (0 : Int) ≤ (d : Int) - 1 := by omega
                have t2b : 1 ≤ d := hd0
                have t3 : (d : Int) - 1 < d := by omega
                have hwd : IntKind.i64.wrap ((d : Int) - 1) = (d : Int) - 1 := IntWalk.i64_in _ (by omega)
                have dd : decide ((0 : Int) < (d : Int)) = true := decide_eq_true (by omega)
                have dd2 : decide (0 < d) = true := decide_eq_true hd0
                by_cases hiL : (i : Int) = L
                · have hf2 := Lib.hid (hf.out.trans (best_away (cs := cs) (away := outOf z L) (k := i) (out_last hiL)).symm)
                  have ha2 := Lib.hid (alone_yes hiL hbt).symm
                  have hbL : (L == (i : Int)) = true := by rw [beq_iff_eq]; exact hiL.symm
                  generalize hwo : wr.drewN nq = wo at *
                  have hWo := Lib.hid hwo
                  clear hwo hf hag hbt hiL
                  go_wp2_with fail
                  go_roundw
                  case rel => exact ⟨i + 1, _, _, _, by omega, by go_num, rfl, rfl, hf2, ha2, hWo.out.symm⟩
                  case measure => simp [intOf]; omega
                · have hbL : (L == (i : Int)) = false := by rw [beq_eq_false_iff_ne]; exact fun e => hiL e.symm
                  have ha2 := Lib.hid (hag.out.trans (alone_same (.inl hiL)).symm)
                  have hOut := out_of (last := L) hbt hiL
                  have r1 : (wr.drewN nq).cell? ⟨g2, i, none⟩ = some (.int .i64 (cs.getD i 0)) := row_cell hY.out.1 (by rw [hLen.out]; exact hlt2)
                  by_cases hf0 : f < 0
                  · have hf2 := Lib.hid (show (i : Int) = bestTo cs (outOf z L) (i + 1) from (best_first hOut (by rw [← hf.out]; omega)).symm)
                    generalize cs.getD i 0 = ci at *
                    generalize hwo : wr.drewN nq = wo at *
                    have hWo := Lib.hid hwo
                    clear hwo hf hag hbt hiL hOut
                    go_wp2_with fail
                    go_quiet (fail)
                    go_wp2_with fail
                    go_roundw
                    case rel => exact ⟨i + 1, _, _, _, by omega, by go_num, rfl, rfl, hf2, ha2, by rw [← hWo.out, World.drewN_drewN]⟩
                    case measure => simp [intOf]; omega
                  · obtain ⟨k, rfl⟩ := Int.eq_ofNat_of_zero_le (show 0 ≤ f by omega)
                    have r2 : (wr.drewN nq).cell? ⟨g2, k, none⟩ = some (.int .i64 (cs.getD k 0)) := row_cell hY.out.1 (by rw [hLen.out]; omega)
                    have hkq : (k : Int) < q := by omega
                    by_cases hxx : cs.getD i 0 < cs.getD k 0
                    · have hf2 := Lib.hid (show (i : Int) = bestTo cs (outOf z L) (i + 1) from (best_less hOut hf.out.symm hxx).symm)
                      have dx : decide (cs.getD i 0 < cs.getD k 0) = true := decide_eq_true hxx
                      generalize cs.getD i 0 = ci at *
                      generalize cs.getD k 0 = ck at *
                      generalize hwo : wr.drewN nq = wo at *
                      have hWo := Lib.hid hwo
                      clear hwo hf hag hbt hiL hOut
                      go_wp2_with fail
                      go_quiet (fail)
                      go_wp2_with fail
                      go_roundw
                      case rel => exact ⟨i + 1, _, _, _, by omega, by go_num, rfl, rfl, hf2, ha2, by rw [← hWo.out, World.drewN_drewN]⟩
                      case measure => simp [intOf]; omega
                    · have hf2 := Lib.hid (hf.out.trans (best_not hOut hf.out.symm hxx).symm)
                      have dx : decide (cs.getD i 0 < cs.getD k 0) = false := decide_eq_false hxx
                      generalize cs.getD i 0 = ci at *
                      generalize cs.getD k 0 = ck at *
                      generalize hwo : wr.drewN nq = wo at *
                      have hWo := Lib.hid hwo
                      clear hwo hf hag hbt hiL hOut
                      go_wp2_with fail
                      go_quiet (fail)
                      go_wp2_with fail
                      go_roundw
                      case rel => exact ⟨i + 1, _, _, _, by omega, by go_num, rfl, rfl, hf2, ha2, by rw [← hWo.out, World.drewN_drewN]⟩
                      case measure => simp [intOf]; omega
              · have hd00 : d = 0 := by omega
                have hiL : ¬ (i : Int) = L := by omega
                have dd : decide ((0 : Int) < (d : Int)) = false := decide_eq_false (by omega)
                have dd2 : decide (0 < d) = false := decide_eq_false hd0
                clear hd00
                have ha2 := Lib.hid (hag.out.trans (alone_same (.inl hiL)).symm)
                have hOut := out_of (last := L) hbt hiL
                have r1 : (wr.drewN nq).cell? ⟨g2, i, none⟩ = some (.int .i64 (cs.getD i 0)) := row_cell hY.out.1 (by rw [hLen.out]; exact hlt2)
                by_cases hf0 : f < 0
                · have hf2 := Lib.hid (show (i : Int) = bestTo cs (outOf z L) (i + 1) from (best_first hOut (by rw [← hf.out]; omega)).symm)
                  generalize cs.getD i 0 = ci at *
                  generalize hwo : wr.drewN nq = wo at *
                  have hWo := Lib.hid hwo
                  clear hwo hf hag hbt hiL hOut
                  go_wp2_with fail
                  go_quiet (fail)
                  go_wp2_with fail
                  go_roundw
                  case rel => exact ⟨i + 1, _, _, _, by omega, by go_num, rfl, rfl, hf2, ha2, by rw [← hWo.out, World.drewN_drewN]⟩
                  case measure => simp [intOf]; omega
                · obtain ⟨k, rfl⟩ := Int.eq_ofNat_of_zero_le (show 0 ≤ f by omega)
                  have r2 : (wr.drewN nq).cell? ⟨g2, k, none⟩ = some (.int .i64 (cs.getD k 0)) := row_cell hY.out.1 (by rw [hLen.out]; omega)
                  have hkq : (k : Int) < q := by omega
                  by_cases hxx : cs.getD i 0 < cs.getD k 0
                  · have hf2 := Lib.hid (show (i : Int) = bestTo cs (outOf z L) (i + 1) from (best_less hOut hf.out.symm hxx).symm)
                    have dx : decide (cs.getD i 0 < cs.getD k 0) = true := decide_eq_true hxx
                    generalize cs.getD i 0 = ci at *
                    generalize cs.getD k 0 = ck at *
                    generalize hwo : wr.drewN nq = wo at *
                    have hWo := Lib.hid hwo
                    clear hwo hf hag hbt hiL hOut
                    go_wp2_with fail
                    go_quiet (fail)
                    go_wp2_with fail
                    go_roundw
                    case rel => exact ⟨i + 1, _, _, _, by omega, by go_num, rfl, rfl, hf2, ha2, by rw [← hWo.out, World.drewN_drewN]⟩
                    case measure => simp [intOf]; omega
                  · have hf2 := Lib.hid (hf.out.trans (best_not hOut hf.out.symm hxx).symm)
                    have dx : decide (cs.getD i 0 < cs.getD k 0) = false := decide_eq_false hxx
                    generalize cs.getD i 0 = ci at *
                    generalize cs.getD k 0 = ck at *
                    generalize hwo : wr.drewN nq = wo at *
                    have hWo := Lib.hid hwo
                    clear hwo hf hag hbt hiL hOut
                    go_wp2_with fail
                    go_quiet (fail)
                    go_wp2_with fail
                    go_roundw
                    case rel => exact ⟨i + 1, _, _, _, by omega, by go_num, rfl, rfl, hf2, ha2, by rw [← hWo.out, World.drewN_drewN]⟩
                    case measure => simp [intOf]; omega
          · obtain rfl : q = i := by omega
            have hO6 := Lib.hid (ownsRow_drewN hO.out nq)
            have hY6 := Lib.hid (hY.out.below (w' := wr.drewN nq) (Lst.Below.drewN (Below.refl wr.heap.size wr) nq) hsz)
            have hL6 := Lib.hid (Lst.Below.drewN hBw.out nq)
            have e8 : g2 + 1 ≤ (wr.drewN nq).heap.size := hsz
            have hLc6 : Hid (0 < d → ∃ bo oo, ao = some ⟨bo, oo, none⟩ ∧ (wr.drewN nq).cell? ⟨bo, oo + (d - 1), none⟩ = some (.int .i64 L)) := Lib.hid fun h0 => hLc.out h0
            clear hO hY hBw hsz hLc
            generalize wr.drewN nq = w6 at *
            by_cases hf0 : f < 0
            · have hfm : bestTo cs (outOf z L) q = -1 := by rw [← hf.out]; omega
              cases ag
              · have hpn := pick_none (cs := cs) hfm (by have := hag.out; exact of_decide_eq_false this.symm)
                have hR := Lib.hid (hStop.out d cs out hS.out hlt (by rw [hLLh.out]; exact hPick.out (-1) hpn) w6 hL6.out)
                clear hpn hfm hf hag
                go_wp2_with fail
                first | exact hR.out | (go_ret2; exact hR.out)
              · have hal := of_decide_eq_true hag.out.symm
                obtain ⟨k, rfl⟩ := Int.eq_ofNat_of_zero_le hal.1
                have hpl := pick_last hfm hal
                have hNext := Lib.hid (hYes.out d k cs out hS.out (by rw [hLLh.out]; exact hPick.out (k : Int) hpl))
                have hkq : k < q := by omega
                have hd0 : 0 < d := by omega
                obtain ⟨bo, oo, rfl, hlc⟩ := hLc6.out hd0
                have t1 : ((d : Int) - 1).toNat = d - 1 := by omega
                have t2 : (0 : Int) ≤ (d : Int) - 1 := by omega
                have t2b : 1 ≤ d := hd0
                have t3 : (d : Int) - 1 < d := by omega
                have hwd : IntKind.i64.wrap ((d : Int) - 1) = (d : Int) - 1 := IntWalk.i64_in _ (by omega)
                clear hpl hal hfm hf hag hlast hfin
                have hck := hCin.out k
                have f2 : w6.cell? ⟨g2, k, none⟩ = some (.int .i64 (cs.getD k 0)) := row_cell hY6.out.1 (by rw [hLen.out]; exact hkq)
                have f3 : w6.frozen? ⟨g2, k, none⟩ = false := hY6.out.1.frozenAt k
                generalize hcg : cs.getD k 0 = ck at *
                have hCk := Lib.hid hcg
                have hw1 : IntKind.i64.wrap (ck + 1) = ck + 1 := IntWalk.i64_in _ (by omega)
                have hs2 := row_set hY6.out.1 k (ck + 1)
                have hO7 := Lib.hid ((Own.new hO6.out (by unfold maxLen; omega)).beside hs2.2 (fun x hx => .inl (by cases hx; omega)) (Nat.le_refl _)).1
                generalize hw7 : w6.setCell ⟨g2, k, none⟩ (.int .i64 (ck + 1)) = w7 at *
                have hY7 := Lib.hid (show Own g2 (g2 + 1) w7 (.slice (some ⟨g2, 0, none⟩) q q) 2 1 q ((cs.set k (ck + 1)).map (Value.int .i64)) from ⟨hs2.1, by unfold maxLen; omega, fun x hx => by cases hx; exact Nat.lt_succ_self _⟩)
                have hL7 := Lib.hid (hL6.out.grown hs2.2 (by omega) (fun x hx => by cases hx; omega))
                have e9 : g2 + 1 ≤ w7.heap.size := Nat.le_trans e8 hs2.2.size
                clear hcg hs2 hO6 hY6 hL6 hLc6
                go_wp2_with (at_builtin; refine wpList_append_own _ rfl _ _ _ rfl (g2 + 1) 2 i0 (.int .i64 0) 1 8 Try.underlying30 hi hz0 hz1 hz2 rfl (by decide) _ d _ rfl (hO7.out.alloc _) ⟨w7.heap.size, 0, none⟩ 1 1 [.int .i64 (k : Int)] rfl rfl (news1 w7 _ _) (one_int _) (by unfold maxLen; omega) (by omega) (grow_le e9 _) ?_; intro v8 w8 hown8 hgrow8 hnil8)
                have hB8 := Lib.hid (below_app hL7.out hO7.out hgrow8 (by omega) (by omega))
                have hO8 := Lib.hid (show w8.ownsRow (g2 + 1) 2 1 v8 (d + 1) ((out ++ [(k : Int)]).map (Value.int .i64)) by rw [List.map_append]; exact hown8)
                have hY8 := Lib.hid ((hY7.out.below (w' := w7.alloc _) (below_alloc (Below.refl _ _) _) e9).beside hgrow8 (fun x hx => .inr (hO7.out.lt x hx).1) (grow_le e9 _))
                have e10 : g2 + 1 ≤ w8.heap.size := Nat.le_trans (grow_le e9 _) hgrow8.size
                clear hown8 hgrow8 hnil8
                go_roundw
                case rel => exact ⟨d + 1, _, _, by omega, by go_num, hNext, hP2, hO8, hY8, hB8, e10⟩
                case measure => simp [intOf]; omega
            · obtain ⟨k, rfl⟩ := Int.eq_ofNat_of_zero_le (show 0 ≤ f by omega)
              have hpb := pick_best hf.out.symm
              have hNext := Lib.hid (hYes.out d k cs out hS.out (by rw [hLLh.out]; exact hPick.out (k : Int) hpb))
              have hkq : k < q := by omega
              clear hpb hf hag
              have hck := hCin.out k
              have f2 : w6.cell? ⟨g2, k, none⟩ = some (.int .i64 (cs.getD k 0)) := row_cell hY6.out.1 (by rw [hLen.out]; exact hkq)
              have f3 : w6.frozen? ⟨g2, k, none⟩ = false := hY6.out.1.frozenAt k
              generalize hcg : cs.getD k 0 = ck at *
              have hCk := Lib.hid hcg
              have hw1 : IntKind.i64.wrap (ck + 1) = ck + 1 := IntWalk.i64_in _ (by omega)
              have hs2 := row_set hY6.out.1 k (ck + 1)
              have hO7 := Lib.hid ((Own.new hO6.out (by unfold maxLen; omega)).beside hs2.2 (fun x hx => .inl (by cases hx; omega)) (Nat.le_refl _)).1
              generalize hw7 : w6.setCell ⟨g2, k, none⟩ (.int .i64 (ck + 1)) = w7 at *
              have hY7 := Lib.hid (show Own g2 (g2 + 1) w7 (.slice (some ⟨g2, 0, none⟩) q q) 2 1 q ((cs.set k (ck + 1)).map (Value.int .i64)) from ⟨hs2.1, by unfold maxLen; omega, fun x hx => by cases hx; exact Nat.lt_succ_self _⟩)
              have hL7 := Lib.hid (hL6.out.grown hs2.2 (by omega) (fun x hx => by cases hx; omega))
              have e9 : g2 + 1 ≤ w7.heap.size := Nat.le_trans e8 hs2.2.size
              clear hcg hs2 hO6 hY6 hL6 hLc6
              go_wp2_with (at_builtin; refine wpList_append_own _ rfl _ _ _ rfl (g2 + 1) 2 i0 (.int .i64 0) 1 8 Try.underlying30 hi hz0 hz1 hz2 rfl (by decide) _ d _ rfl (hO7.out.alloc _) ⟨w7.heap.size, 0, none⟩ 1 1 [.int .i64 (k : Int)] rfl rfl (news1 w7 _ _) (one_int _) (by unfold maxLen; omega) (by omega) (grow_le e9 _) ?_; intro v8 w8 hown8 hgrow8 hnil8)
              have hB8 := Lib.hid (below_app hL7.out hO7.out hgrow8 (by omega) (by omega))
              have hO8 := Lib.hid (show w8.ownsRow (g2 + 1) 2 1 v8 (d + 1) ((out ++ [(k : Int)]).map (Value.int .i64)) by rw [List.map_append]; exact hown8)
              have hY8 := Lib.hid ((hY7.out.below (w' := w7.alloc _) (below_alloc (Below.refl _ _) _) e9).beside hgrow8 (fun x hx => .inr (hO7.out.lt x hx).1) (grow_le e9 _))
              have e10 : g2 + 1 ≤ w8.heap.size := Nat.le_trans (grow_le e9 _) hgrow8.size
              clear hown8 hgrow8 hnil8
              go_roundw
              case rel => exact ⟨d + 1, _, _, by omega, by go_num, hNext, hP2, hO8, hY8, hB8, e10⟩
              case measure => simp [intOf]; omega
    · have hR := Lib.hid (hEnd.out d cs out _ wr (by omega) hP.out hS.out hO.out hBw.out)
      obtain rfl : d = n := by omega
      go_wp2_with fail
      first | exact hR.out | (go_ret2; exact hR.out)
theorem onCalls_both (p days : Int) (zs : List Int) (_ : (Lit.int .i64 p).wf = true) (_ : (Lit.int .i64 days).wf = true) (_ : ∀ x ∈ zs, (Lit.int .i64 x).wf = true) : ∃ (r0 : List Int) (r1 : Bool), r0.length ≤ 1048576 ∧
    (∀ (B : Nat) (v : Value) (w : World), LstI B w v zs → B ≤ w.heap.size → Calls Try.prog 48 #[.int .i64 p, .int .i64 days, v] w fun e w' => ∃ v', e = .returned (.tuple #[v', .bool r1]) ∧ Own w.heap.size w'.heap.size w' v' 2 1 r0.length (r0.map (Value.int .i64)) ∧ Below w.heap.size w w') ∧
    (∀ (B : Nat) (v : Value) (w : World), LstI B w v zs → B ≤ w.heap.size → Calls Try.prog 49 #[.int .i64 p, .int .i64 days, v] w fun e w' => ∃ v', e = .returned (.tuple #[v', .bool r1]) ∧ Own w.heap.size w'.heap.size w' v' 2 1 r0.length (r0.map (Value.int .i64)) ∧ Below w.heap.size w w') :=
  ⟨callsRes p days zs, callsOk p days zs, callsRes_length p days zs, fun B v w h hB => specOnCalls_any B v zs p days w h hB, fun B v w h hB => implOnCalls_any B v zs p days w h hB⟩
end Go.Proofs.Ytcpfiledegnlpaa
