/- Contracts: the model's flows. -/
import Derived.Test.YtnkbnkiaokkjhaaFlowPure
import Derived.Test.YtnkbnkiaokkjhaaCount
import Derived.Deep.QuietTactic
import Derived.BigQuiet
namespace Go.Proofs.Ytnkbnkiaokkjhaa
open Go.RowKit Go.Lst Go.Plan

def FlowPost (ts o : List Int) (m n : Nat) (w : World) (e : Ending) (w' : World) : Prop :=
  ∃ v', e = .returned (.tuple #[v', .int .i64 ((flowTo ts o m n).2.getD (m - 1) 0)]) ∧ Own w.heap.size w'.heap.size w' v' 2 1 (flowTo ts o m n).1.length ((flowTo ts o m n).1.map (Value.int .i64)) ∧ Below w.heap.size w w'
set_option maxHeartbeats 8000000 in
set_option maxRecDepth 100000 in
theorem l04Ends_any (B : Nat) (v1 v2 : Value) (ts o : List Int) (m n : Nat) (w : World) (h1 : LstI B w v1 ts) (h2 : LstI B w v2 o) (hB : B ≤ w.heap.size) (hm1 : 1 ≤ m) (hm8 : m ≤ 8) (hn1 : 1 ≤ n) (hn24 : n ≤ 24) (hlen : ts.length = n * m)
    (ht : ∀ (i : Nat) (x : Int), ts[i]? = some x → 1 ≤ x ∧ x ≤ 10000) (ho : isOrd o n = true) :
    Calls Try.prog 31 #[v1, .int .i64 m, v2] w (FlowPost ts o m n w) := by
  have hol := isOrd_len ho
  have hol2 : o.length = n := by omega
  have hmn := mul_le24 hn24 hm8
  have hP : Hid (∀ w' (g : Nat), w.heap.size ≤ g → w'.ownsRow g 2 1 (.slice (some ⟨g, 0, none⟩) ts.length ts.length) ts.length ((flowTo ts o m n).1.map (Value.int .i64)) → Below w.heap.size w w' → FlowPost ts o m n w (.returned (.tuple #[.slice (some ⟨g, 0, none⟩) ts.length ts.length, .int .i64 ((flowTo ts o m n).2.getD (m - 1) 0)])) w') := Lib.hid fun w' g hg ho' hb =>
    ⟨_, rfl, by rw [(flow_small ht hlen hm8 ho n (Nat.le_refl _)).2]; exact (Own.new ho' (by unfold maxLen; omega)).mono hg (Nat.le_refl _), hb⟩
  have hK : Hid (∀ k, k < n → _) := Lib.hid fun k (hk : k < n) => flow_round ht hlen ho hk
  have hSm : Hid (∀ k, k ≤ n → _) := Lib.hid fun k (hk : k ≤ n) => flow_small ht hlen hm8 ho k hk
  have hLf := Lib.hid (flowTo_free ts o m)
  have hRb : Hid (∀ (fr : List Int) (p : Nat) (X : Int), p + m ≤ ts.length → Small fr X → ∀ q, q ≤ m → 0 ≤ rdy ts fr p q ∧ rdy ts fr p q ≤ X + 10000 * q) := Lib.hid fun fr p X a b q c => rdy_bound ht a b q c
  have hAt : Hid (∀ q, q < ts.length → 1 ≤ ts.getD q 0 ∧ ts.getD q 0 ≤ 10000) := Lib.hid fun q hq => all_at ht hq
  obtain ⟨a1, cap1, rfl, hl1, _, _, hc1⟩ := h1.at_
  obtain ⟨a2, cap2, rfl, hl2, _, _, hc2⟩ := h2.at_
  rw [hol2] at hc2 hl2 ⊢
  have hC1 := Lib.hid hc1
  have hC2 := Lib.hid hc2
  have hL192 : ts.length ≤ 192 := by omega
  obtain ⟨i0, hi, hz0, hz1, hz2⟩ := info_parts infoI
  have hZ : Hid (flowTo ts o m 0 = (List.replicate ts.length 0, List.replicate m 0)) := Lib.hid rfl
  generalize FlowPost ts o m n w = Q at *
  clear h1 h2 hc1 hc2 hlen ht ho hol hol2 hmn
  generalize ts.length = L at *
  unfold maxLen at hl1 hl2
  go_enter Try.func31, Try.ntmps31
  go_wp2_with (at_make; refine wpList_make_full _ rfl _ _ _ rfl w.heap.size _ i0 (.int .i64 0) 1 Try.underlying24 hi hz0 hz1 _ _ _ _ L rfl rfl rfl rfl ?c1 ?c2 ?c3 ?_)
  case c1 => rw [hz2]; omega
  case c2 => unfold maxLen; omega
  case c3 => exact Nat.le_refl _
  intro w2 hown2 hg2
  have hB2 := Lib.hid ((Below.refl w.heap.size w).grown hg2 (Nat.le_refl _) (fun k hk => by cases hk))
  have hO2 := Lib.hid (zeros_row hown2)
  have hs2 : w.heap.size < w2.heap.size := (hown2.lt _ rfl).2
  clear hown2 hg2
  go_wp2_with (at_make; refine wpList_make_full _ rfl _ _ _ rfl w2.heap.size _ i0 (.int .i64 0) 1 Try.underlying24 hi hz0 hz1 _ _ _ _ m rfl rfl rfl rfl ?d1 ?d2 ?d3 ?_)
  case d1 => rw [hz2]; omega
  case d2 => unfold maxLen; omega
  case d3 => exact Nat.le_refl _
  intro w3 hown3 hg3
  have hB3 := Lib.hid (hB2.out.grown hg3 hB2.out.size (fun k hk => by cases hk))
  have hF3 := Lib.hid (zeros_row hown3)
  have hO3 := Lib.hid (hO2.out.kept hg3 (.inr (by simp [Value.ownBlock])))
  have hs3 : w2.heap.size < w3.heap.size := (hown3.lt _ rfl).2
  clear hown3 hg3 hO2 hz0 hz1 hz2 hi
  generalize hga : w.heap.size = ga at *
  generalize w2.heap.size = gf at *
  have hGA := Lib.hid hga
  clear hga
  go_wp2_with fail
  go_loopw [10] (fun ii wr => ∃ (k : Nat), k ≤ n ∧ ii = .int .i64 k ∧ Hid (wr.ownsRow ga 2 1 (.slice (some ⟨ga, 0, none⟩) L L) L ((flowTo ts o m k).1.map (Value.int .i64))) ∧ Hid (wr.ownsRow gf 2 1 (.slice (some ⟨gf, 0, none⟩) m m) m ((flowTo ts o m k).2.map (Value.int .i64))) ∧ Hid (Below ga w wr) ∧ gf < wr.heap.size) (fun ii _ => n - (intOf ii).toNat)
  case atStart => exact ⟨0, Nat.zero_le _, rfl, by rw [hZ.out]; exact hO3, by rw [hZ.out]; exact hF3, hB3, hs3⟩
  case round =>
    clear hB2 hB3 hO3 hF3 hs3
    obtain ⟨k, hk, rfl, hO, hF, hB, g2⟩ := hrel
    by_cases hlt : k < n
    · obtain ⟨j, p, hj, hjn, hp, hpL, hS⟩ := hK.out k hlt
      obtain ⟨hsm, hlo⟩ := hSm.out k hk
      have hlf := hLf.out k
      have hS2 := Lib.hid hS
      have hJ := Lib.hid hj
      have hPJ : IntKind.i64.wrap ((j : Int) * (m : Int)) = (p : Int) := by
        rw [hp, Int.natCast_mul]
        exact IntWalk.i64_in _ (by have := mul_le24 (show j ≤ 24 by omega) hm8; rw [← Int.natCast_mul]; omega)
      generalize hou : (flowTo ts o m k).1 = ou at *
      generalize hfr : (flowTo ts o m k).2 = fr at *
      clear hS hj hp hou hfr
      go_wp2_with fail
      go_loopw [11, 12] (fun nv iv wr2 => ∃ (q : Nat), q ≤ m ∧ iv = .int .i64 q ∧ nv = .int .i64 (rdy ts fr p q) ∧ Hid (wr2.ownsRow ga 2 1 (.slice (some ⟨ga, 0, none⟩) L L) L ((splice ou p (rdyL ts fr p q)).map (Value.int .i64))) ∧ Hid (wr2.ownsRow gf 2 1 (.slice (some ⟨gf, 0, none⟩) m m) m ((freeIn ts fr p q).map (Value.int .i64))) ∧ Hid (Below ga w wr2) ∧ gf < wr2.heap.size) (fun _ iv _ => m - (intOf iv).toNat)
      case atStart => exact ⟨0, Nat.zero_le _, rfl, rfl, by rw [show rdyL ts fr p 0 = [] from rfl, splice_nil]; exact hO, by rw [freeIn_zero]; exact hF, hB, g2⟩
      case round =>
        clear hO hF hB g2
        obtain ⟨q, hq, rfl, rfl, hO, hF, hB, g2⟩ := hrel
        have hqL : p + q ≤ L := by omega
        by_cases hqm : q < m
        · obtain ⟨r0, r1⟩ := hRb.out fr p _ hpL hsm q (by omega)
          obtain ⟨x0, x1⟩ := hAt.out (p + q) (by omega)
          have hfq := hsm q
          obtain ⟨b1, o1, x, rfl, hb1, hx, p0⟩ := hC1.out (p + q) (by omega)
          obtain rfl : x = ts.getD (p + q) 0 := (getD_of hx).symm
          obtain ⟨b2, o2, j', rfl, hb2, hj', q0⟩ := hC2.out k hlt
          obtain rfl : j' = (j : Int) := by rw [hJ.out] at hj'; exact (Option.some.inj hj').symm
          have hba : b1 < ga ∧ b2 < ga := by have := hGA.out; omega
          rw [← hB.out.cell (p := ⟨b1, o1 + (p + q), none⟩) hba.1] at p0
          rw [← hB.out.cell (p := ⟨b2, o2 + k, none⟩) hba.2] at q0
          have hfc : wr.cell? ⟨gf, q, none⟩ = some (.int .i64 (fr.getD q 0)) := by
            rw [row_cell hF.out (by rw [freeIn_length _ _ _ _ (by omega)]; omega), freeIn_at _ _ _ _ (by omega)]
          have hff : wr.frozen? ⟨gf, q, none⟩ = false := hF.out.frozenAt q
          have hR : Hid (max (rdy ts fr p q) (fr.getD q 0) + ts.getD (p + q) 0 = rdy ts fr p (q + 1)) := Lib.hid rfl
          have hst1 := hF.out.stored q (.int .i64 (rdy ts fr p (q + 1)))
          rw [← List.map_set, freeIn_step _ _ _ _ (by omega)] at hst1
          have hst2 := hO.out.stored (p + q) (.int .i64 (rdy ts fr p (q + 1)))
          have hsp := Lib.hid (splice_step (L := ou) (p := p) (y := rdy ts fr p (q + 1)) (rdyL_length ts fr p q) (by omega))
          clear hx hj'
          generalize hfv : fr.getD q 0 = fv at *
          generalize hxv : ts.getD (p + q) 0 = xv at *
          generalize hrv : rdy ts fr p q = rv at *
          generalize hrn : rdy ts fr p (q + 1) = rn at *
          have hRN := Lib.hid hrn
          have hw1 : IntKind.i64.wrap ((p : Int) + (q : Int)) = (p : Int) + (q : Int) := IntWalk.i64_in _ (by omega)
          have hw2 : 0 ≤ (p : Int) + (q : Int) := by omega
          have hw3 : ((p : Int) + (q : Int)).toNat = p + q := by omega
          have hw4 : (p : Int) + (q : Int) < (L : Int) := by omega
          have hw5 : IntKind.i64.wrap (max rv fv + xv) = rn := by rw [hR.out]; exact IntWalk.i64_in _ (by have := hR.out; omega)
          clear hfv hxv hrv hrn hst1 hst2
          go_wp2_with fail
          go_quiet ((go_at_call 52; exact Ret.quiet (Ret.same (l00Max_any _ _ _))))
          have hO4 := Lib.hid (ownsRow_drewN hO.out nq)
          have hF4 := Lib.hid (ownsRow_drewN hF.out nq)
          have hB4 := Lib.hid (Lst.Below.drewN hB.out nq)
          have q4 : (wr.drewN nq).cell? ⟨b2, o2 + k, none⟩ = some (.int .i64 (j : Int)) := q0
          have f4 : (wr.drewN nq).cell? ⟨gf, q, none⟩ = some (.int .i64 fv) := hfc
          have g4 : (wr.drewN nq).frozen? ⟨gf, q, none⟩ = false := hff
          have z4 : gf < (wr.drewN nq).heap.size := g2
          clear hO hF hB q0 hfc hff g2 p0 hw5
          generalize wr.drewN nq = w4 at *
          have hst1 := row_set hF4.out q rn
          have hF5 := Lib.hid (show (w4.setCell ⟨gf, q, none⟩ (.int .i64 rn)).ownsRow gf 2 1 (.slice (some ⟨gf, 0, none⟩) m m) m ((freeIn ts fr p (q + 1)).map (Value.int .i64)) by rw [← freeIn_step _ _ _ _ (by omega), hRN.out]; exact hst1.1)
          have hO5 := Lib.hid (hO4.out.kept hst1.2 (.inr (by simp [Value.ownBlock]; omega)))
          have hB5 := Lib.hid (hB4.out.grown hst1.2 (by omega) (fun q hq => by cases hq; omega))
          have q5 : (w4.setCell ⟨gf, q, none⟩ (.int .i64 rn)).cell? ⟨b2, o2 + k, none⟩ = some (.int .i64 (j : Int)) := by
            rw [World.cell?_of_block (w := w4) (hst1.2.block b2 (by omega) (by intro h; injection h with h; omega))]; exact q4
          have z5 : gf < (w4.setCell ⟨gf, q, none⟩ (.int .i64 rn)).heap.size := by have := hst1.2.size; omega
          have d5 : (w4.setCell ⟨gf, q, none⟩ (.int .i64 rn)).cell? ⟨ga, p + q, none⟩ = some (.int .i64 ((splice ou p (rdyL ts fr p q)).getD (p + q) 0)) := row_cell hO5.out (by rw [length_splice _ _ _ (by rw [rdyL_length]; omega)]; omega)
          have e5 : (w4.setCell ⟨gf, q, none⟩ (.int .i64 rn)).frozen? ⟨ga, p + q, none⟩ = false := hO5.out.frozenAt (p + q)
          have hst2 := row_set hO5.out (p + q) rn
          have hO6 := Lib.hid (show ((w4.setCell ⟨gf, q, none⟩ (.int .i64 rn)).setCell ⟨ga, p + q, none⟩ (.int .i64 rn)).ownsRow ga 2 1 (.slice (some ⟨ga, 0, none⟩) L L) L ((splice ou p (rdyL ts fr p (q + 1))).map (Value.int .i64)) by rw [rdyL_succ, hRN.out, ← hsp.out]; exact hst2.1)
          have hF6 := Lib.hid (hF5.out.kept hst2.2 (.inr (by simp [Value.ownBlock]; omega)))
          have hB6 := Lib.hid (hB5.out.grown hst2.2 (by omega) (fun q hq => by cases hq; omega))
          have z6 := Lib.hid (show gf < ((w4.setCell ⟨gf, q, none⟩ (.int .i64 rn)).setCell ⟨ga, p + q, none⟩ (.int .i64 rn)).heap.size by have := hst2.2.size; omega)
          clear hst1 hst2 hO4 hF4 hB4 hO5 hF5 hB5 z4 z5
          generalize (splice ou p (rdyL ts fr p q)).getD (p + q) 0 = dv at *
          go_wp2_with fail
          go_roundw
          case rel => exact ⟨q + 1, by omega, by go_num, by rw [hRN.out], hO6, hF6, hB6, z6.out⟩
          case measure => simp [intOf]; omega
        · obtain rfl : m = q := by omega
          have hO6 := Lib.hid (show wr.ownsRow ga 2 1 (.slice (some ⟨ga, 0, none⟩) L L) L ((flowTo ts o m (k + 1)).1.map (Value.int .i64)) by rw [hS2.out]; exact hO.out)
          have hF6 := Lib.hid (show wr.ownsRow gf 2 1 (.slice (some ⟨gf, 0, none⟩) m m) m ((flowTo ts o m (k + 1)).2.map (Value.int .i64)) by rw [hS2.out, ← freeIn_full _ _ _ _ hlf]; exact hF.out)
          clear hO hF
          go_wp2_with fail
          go_roundw
          case rel => exact ⟨k + 1, by omega, by go_num, hO6, hF6, hB, g2⟩
          case measure => simp [intOf]; omega
    · obtain rfl : n = k := by omega
      have hR := Lib.hid (fun nq => hP.out (wr.drewN nq) ga (Nat.le_refl _) (ownsRow_drewN hO.out nq) (Lst.Below.drewN hB.out nq))
      have hfc : wr.cell? ⟨gf, m - 1, none⟩ = some (.int .i64 ((flowTo ts o m n).2.getD (m - 1) 0)) := row_cell hF.out (by rw [hLf.out]; omega)
      have hw1 : IntKind.i64.wrap ((m : Int) - 1) = (m : Int) - 1 := IntWalk.i64_in _ (by omega)
      have hw2 : 0 ≤ (m : Int) - 1 := by omega
      have hw3 : ((m : Int) - 1).toNat = m - 1 := by omega
      have hw4 : (m : Int) - 1 < (m : Int) := by omega
      generalize (flowTo ts o m n).2.getD (m - 1) 0 = zz at *
      go_wp2_with fail
      go_quiet (fail)
      go_wp2_with fail
      first | exact hR.out _ | (go_ret2; exact hR.out _)
end Go.Proofs.Ytnkbnkiaokkjhaa
