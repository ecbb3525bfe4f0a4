/- Contracts: the program's flows. -/
import Derived.Test.YtnkbnkiaokkjhaaFlowPure
import Derived.Deep.RegionHeld3
import Derived.Test.YtnkbnkiaokkjhaaMake
namespace Go.Proofs.Ytnkbnkiaokkjhaa
open Go.RowKit Go.Lst Go.Plan

/-- What lies in memory when the call has made its rows: its box at gx, the ends behind it, their rows, and when machines are free at gf. -/
def FlowMade (w W : World) (gx gf m n L : Nat) (vr : Value) (cs : Array Value) : Prop :=
  ∃ A Bd, Own A Bd W vr 24 1 n (rowsL (gx + 1) 0 m n) ∧ gx + 1 < A ∧ (gf < A ∨ Bd ≤ gf) ∧ Bd ≤ W.heap.size ∧ W.ownsRow gf 2 1 (.slice (some ⟨gf, 0, none⟩) m m) m ((List.replicate m (0 : Int)).map (Value.int .i64)) ∧
    W.ownsRow (gx + 1) 2 1 (.slice (some ⟨gx + 1, 0, none⟩) L L) L ((List.replicate L (0 : Int)).map (Value.int .i64)) ∧ Whole W gx 62 cs ∧ Below gx w W ∧ gx + 1 < gf ∧ gf < W.heap.size
theorem flow_made1 {w w2 w8 : World} {gx m n L : Nat} {vr : Value} {cs : Array Value} (hg : w.heap.size = gx) (hm : m ≤ 65536) (hO : w2.ownsRow (gx + 1) 2 1 (.slice (some ⟨gx + 1, 0, none⟩) L L) L ((List.replicate L (0 : Int)).map (Value.int .i64))) (hx : Whole w2 gx 62 cs) (hb2 : Below gx w w2) (hs : w2.heap.size = gx + 1 + 1)
    (hr : Own w2.heap.size w8.heap.size w8 vr 24 1 n (rowsL (gx + 1) 0 m n)) (h8 : Below w2.heap.size w2 w8) : FlowMade w (w8.alloc (.cells (madeCells #[.int .i64 0] m) 2)) gx w8.heap.size m n L vr cs :=
  ⟨w2.heap.size, w8.heap.size, hr.below (below_alloc (Below.refl _ _) _) (Nat.le_refl _), by omega, .inr (Nat.le_refl _), by simp, made_row w8 m hm, ownsRow_kept (ownsRow_kept hO h8) (below_alloc (Below.refl _ _) _),
    (hx.kept h8).more _, (hb2.trans (h8.mono (by omega))).alloc (by have := h8.size; omega) _, by have := h8.size; omega, by simp⟩
theorem flow_made2 {w w2 w8 W2 : World} {gx m n L : Nat} {vr : Value} {cs : Array Value} (hO : w2.ownsRow (gx + 1) 2 1 (.slice (some ⟨gx + 1, 0, none⟩) L L) L ((List.replicate L (0 : Int)).map (Value.int .i64))) (hx : Whole w2 gx 62 cs) (hb2 : Below gx w w2) (hs : w2.heap.size = gx + 1 + 1)
    (hbW : Below w2.heap.size w2 W2) (hz : W2.heap.size = w2.heap.size + 1) (hf : W2.ownsRow w2.heap.size 2 1 (.slice (some ⟨w2.heap.size, 0, none⟩) m m) m ((List.replicate m (0 : Int)).map (Value.int .i64))) (hr : Own W2.heap.size w8.heap.size w8 vr 24 1 n (rowsL (gx + 1) 0 m n)) (h8 : Below W2.heap.size W2 w8) : FlowMade w w8 gx w2.heap.size m n L vr cs := by
  have h9 : Below w2.heap.size w2 w8 := below_on hbW (Nat.le_refl _) h8
  exact ⟨W2.heap.size, w8.heap.size, hr, by omega, .inl (by omega), Nat.le_refl _, ownsRow_kept hf h8, ownsRow_kept hO h9, hx.kept h9, hb2.trans (h9.mono (by omega)), by omega, by have := h8.size; omega⟩
def EndsPost (ts o : List Int) (m n : Nat) (w : World) (e : Ending) (w' : World) : Prop :=
  ∃ v', e = .returned v' ∧ Own w.heap.size w'.heap.size w' v' 2 1 (flowTo ts o m n).1.length ((flowTo ts o m n).1.map (Value.int .i64)) ∧ Below w.heap.size w w'
set_option maxHeartbeats 8000000 in
set_option maxRecDepth 100000 in
theorem flowEnds_any (B : Nat) (s v2 : Value) (ts rt o : List Int) (m n : Nat) (w : World) (hSh : Shop B w s ts rt m n) (h2 : LstI B w v2 o) (hB : B ≤ w.heap.size) (hm1 : 1 ≤ m) (hm8 : m ≤ 8) (hn1 : 1 ≤ n) (hn24 : n ≤ 24) (hlen : ts.length = n * m)
    (ht : ∀ (i : Nat) (x : Int), ts[i]? = some x → 1 ≤ x ∧ x ≤ 10000) (ho : isOrd o n = true) :
    Calls Try.prog 56 #[s, v2] w (EndsPost ts o m n w) := by
  have hol := isOrd_len ho
  have hol2 : o.length = n := by omega
  have hmn := mul_le24 hn24 hm8
  have hP : Hid (∀ w' (g : Nat), w.heap.size ≤ g → w'.ownsRow g 2 1 (.slice (some ⟨g, 0, none⟩) ts.length ts.length) ts.length ((flowTo ts o m n).1.map (Value.int .i64)) → Below w.heap.size w w' → EndsPost ts o m n w (.returned (.slice (some ⟨g, 0, none⟩) ts.length ts.length)) w') := Lib.hid fun w' g hg ho' hb =>
    ⟨_, rfl, by rw [(flow_small ht hlen hm8 ho n (Nat.le_refl _)).2]; exact (Own.new ho' (by unfold maxLen; omega)).mono hg (Nat.le_refl _), hb⟩
  have hK : Hid (∀ k, k < n → _) := Lib.hid fun k (hk : k < n) => flow_round ht hlen ho hk
  have hSm : Hid (∀ k, k ≤ n → _) := Lib.hid fun k (hk : k ≤ n) => flow_small ht hlen hm8 ho k hk
  have hLf := Lib.hid (flowTo_free ts o m)
  have hRb : Hid (∀ (fr : List Int) (p : Nat) (X : Int), p + m ≤ ts.length → Small fr X → ∀ q, q ≤ m → 0 ≤ rdy ts fr p q ∧ rdy ts fr p q ≤ X + 10000 * q) := Lib.hid fun fr p X a b q c => rdy_bound ht a b q c
  have hAt : Hid (∀ q, q < ts.length → 1 ≤ ts.getD q 0 ∧ ts.getD q 0 ≤ 10000) := Lib.hid fun q hq => all_at ht hq
  obtain ⟨a2, cap2, rfl, hl2, _, _, hc2⟩ := h2.at_
  obtain ⟨b1, o1, cap1, vr, vt, rfl, h1, hr, _⟩ := hSh
  obtain ⟨_, _, hv1, hl1, hcap1, hcm1, hc1⟩ := h1.at_
  injection hv1 with e1 e2 e3
  subst e1 e3
  have hL1 : 1 ≤ ts.length := by rw [hlen]; exact Nat.mul_pos hn1 hm1
  have hbB : b1 < B := by
    obtain ⟨b, o', _, hh, hlt, _⟩ := hc1 0 (by omega)
    injection hh with hh; injection hh with q1 q2 q3
    omega
  have hrc := hr
  obtain ⟨ar, cr, rfl, _, _, _, _, hrr⟩ := hr
  obtain ⟨b3, o3, rfl, hb3, hrc⟩ := hrr (by omega)
  have hRow : Hid (∀ j, j < n → w.cell? ⟨b3, o3 + j, none⟩ = some (rowV b1 o1 m j)) := Lib.hid fun j hj => hrc j _ (rowsL_get b1 o1 m n j hj)
  have hCell : Hid (∀ q, q < ts.length → w.cell? ⟨b1, o1 + q, none⟩ = some (.int .i64 (ts.getD q 0))) := Lib.hid fun q hq => by
    obtain ⟨b, o', x, hh, _, hx, hcc⟩ := hc1 q hq
    injection hh with hh; injection hh with q1 q2 q3
    subst q1 q2
    rw [hcc, getD_of hx]
  rw [hol2] at hc2 hl2 ⊢
  have hC2 := Lib.hid hc2
  have hL192 : ts.length ≤ 192 := by omega
  have hZ : Hid (flowTo ts o m 0 = (List.replicate ts.length 0, List.replicate m 0)) := Lib.hid rfl
  obtain ⟨i0, hi, hz0, hz1, hz2⟩ := info_parts infoI
  have hmkL := make_ints 24 i0 Try.underlying24 hi hz0 hz1 hz2 ts.length (by omega)
  have hmkM := make_ints 24 i0 Try.underlying24 hi hz0 hz1 hz2 m (by omega)
  have hRO := Lib.hid (fun g w' => rowsOf_any g 0 m n ts.length w' hm1 (by omega) (by omega) (by omega) (by unfold maxLen; omega))
  generalize EndsPost ts o m n w = Q at *
  rw [← hlen] at hRO ⊢
  clear h1 h2 hc1 hc2 hlen ht ho hol hol2 hmn hrr hrc
  generalize ts.length = L at *
  unfold maxLen at hl1 hl2
  go_enter Try.func56, Try.ntmps56
  go_wp2_with fail
  have hx1 := Lib.hid (Whole.made w 62 #[.int .i64 m, .slice (some ⟨b1, o1, none⟩) L cap1, .slice (some ⟨b3, o3, none⟩) n cr, vt] rfl)
  have hb1 := Lib.hid (below_alloc (Below.refl w.heap.size w) (.cells #[.int .i64 m, .slice (some ⟨b1, o1, none⟩) L cap1, .slice (some ⟨b3, o3, none⟩) n cr, vt] 62))
  have hs1 := alloc_size w (.cells #[.int .i64 m, .slice (some ⟨b1, o1, none⟩) L cap1, .slice (some ⟨b3, o3, none⟩) n cr, vt] 62)
  generalize w.alloc (.cells #[.int .i64 m, .slice (some ⟨b1, o1, none⟩) L cap1, .slice (some ⟨b3, o3, none⟩) n cr, vt] 62) = w1 at *
  have hO2 := made_row w1 L (by omega)
  have hx2 := Lib.hid (hx1.out.more (.cells (madeCells #[.int .i64 0] L) 2))
  have hb2 := Lib.hid (hb1.out.alloc hb1.out.size (.cells (madeCells #[.int .i64 0] L) 2))
  rw [hs1] at hO2
  have hs2 := alloc_size w1 (.cells (madeCells #[.int .i64 0] L) 2)
  rw [hs1] at hs2
  have hOO := Lib.hid (show (w1.alloc (.cells (madeCells #[.int .i64 0] L) 2)).ownsRow (w.heap.size + 1) 2 1 (.slice (some ⟨w.heap.size + 1, 0, none⟩) L L) L ((List.replicate L (0 : Int)).map (Value.int .i64)) from hO2)
  clear hO2 hx1 hb1
  generalize w1.alloc _ = w2 at *
  generalize hgx : w.heap.size = gx at *
  have hGX := Lib.hid hgx
  clear hgx hs1
  have hS0 : Hid (∀ w' : World, Below w2.heap.size w2 w' → w'.cell? ⟨gx, 0, none⟩ = some (.int .i64 m) ∧ Below w2.heap.size w2 w') := Lib.hid fun w' hb => ⟨(hx2.out.kept hb).at_ rfl, hb⟩
  have hs3 := Lib.hid hs2
  clear hs2
  go_region_held3 (fun w' => (w'.cell? ⟨gx, 0, none⟩ = some (.int .i64 m)) ∧ Below w2.heap.size w2 w') ((first | exact hS0.out _ (Below.refl _ _) | exact hS0.out _ (Below.refl _ _).drew | exact hS0.out _ hB8.out | exact hS0.out _ hB8.out.drew | exact hS0.out _ (below_alloc (Below.refl _ _) _) | exact hS0.out _ (below_alloc (Below.refl _ _).drew _) | exact hS0.out _ (hB8.out.alloc hB8.out.size _) | exact hS0.out _ (hB8.out.drew.alloc hB8.out.size _))) ((go_at_call 54; refine (hRO.out _ _).mono ?_; rintro e w8 ⟨vr2, rfl, ho8, hb8⟩; have hB8 := Lib.hid (show Below w2.heap.size w2 w8 from by first | exact hb8 | exact below_on (Below.refl _ _) (Nat.le_refl _) hb8 | exact below_on (Below.refl _ _).drew (Nat.le_refl _) hb8 | exact below_on (below_alloc (Below.refl _ _) _) (Nat.le_refl _) hb8 | exact below_on (below_alloc (Below.refl _ _).drew _) (Nat.le_refl _) hb8)))
  all_goals first
    | (have hH := Lib.hid (flow_made1 hGX.out (show m ≤ 65536 by omega) hOO.out hx2.out hb2.out hs3.out ho8 hB8.out); clear hS0 ho8 hb8 hB8 hOO hx2 hb2 hs3; generalize hgf : w8.heap.size = gf at *; clear hgf; generalize w8.alloc _ = W at *)
    | (have hH := Lib.hid (flow_made2 hOO.out hx2.out hb2.out hs3.out (by first | exact (below_alloc (Below.refl _ _) _).drew | exact below_alloc (Below.refl _ _) _) (by first | exact alloc_size _ _ | simp) (by first | exact (made_row w2 m (by omega)).drew | exact made_row w2 m (by omega)) ho8 hb8); clear hS0 ho8 hb8 hB8 hOO hx2 hb2 hs3; generalize hgf : w2.heap.size = gf at *; clear hgf; generalize hW : w8 = W at *; clear hW)
  all_goals
    obtain ⟨A, Bd, hr0, a1, a2', a3, hF0, hO0, hx0, hb0, a4, a5⟩ := hH.out
    have hO3 := Lib.hid hO0
    have hF3 := Lib.hid hF0
    have hx3 := Lib.hid hx0
    have hB3 := Lib.hid hb0
    have hr3 := Lib.hid hr0
    obtain ⟨ar2, cr2, rfl⟩ : ∃ a c, vr2 = .slice a n c := by obtain ⟨a, c, h, _⟩ := hr0.lstK (Nat.le_refl _); exact ⟨a, c, h⟩
    have hOwnR : ∃ gr, ar2 = some ⟨gr, 0, none⟩ ∧ A ≤ gr ∧ gr < Bd := by
      rcases hr0.1.2 with ⟨h, h'⟩ | ⟨g, c', cur, h, hA, _⟩
      · omega
      · injection h with h _ _
        exact ⟨g, h, hA, hr0.2.2 g (by rw [h]; rfl)⟩
    obtain ⟨gr, rfl, a6, a7⟩ := hOwnR
    clear hH hr0 hF0 hO0 hx0 hb0
    go_wp2_with fail
    go_loopw [26] (fun ii wr => ∃ (k : Nat), k ≤ n ∧ ii = .int .i64 k ∧ Hid (wr.ownsRow (gx + 1) 2 1 (.slice (some ⟨gx + 1, 0, none⟩) L L) L ((flowTo ts o m k).1.map (Value.int .i64))) ∧ Hid (wr.ownsRow gf 2 1 (.slice (some ⟨gf, 0, none⟩) m m) m ((flowTo ts o m k).2.map (Value.int .i64))) ∧ Hid (Own A Bd wr (.slice (some ⟨gr, 0, none⟩) n cr2) 24 1 n (rowsL (gx + 1) 0 m n)) ∧ Hid (Whole wr gx 62 #[.int .i64 m, .slice (some ⟨b1, o1, none⟩) L cap1, .slice (some ⟨b3, o3, none⟩) n cr, vt]) ∧ Hid (Below gx w wr) ∧ gf < wr.heap.size ∧ Bd ≤ wr.heap.size) (fun ii _ => n - (intOf ii).toNat)
    case atStart => exact ⟨0, Nat.zero_le _, rfl, by rw [hZ.out]; exact hO3, by rw [hZ.out]; exact hF3, hr3, hx3, hB3, a5, a3⟩
    case round =>
      clear hO3 hF3 hr3 hx3 hB3 a5 a3
      obtain ⟨k, hk, rfl, hO, hF, hRw, hX, hB, g2, g3⟩ := hrel
      by_cases hlt : k < n
      · obtain ⟨j, p, hj, hjn, hp, hpL, hS⟩ := hK.out k hlt
        obtain ⟨hsm, hlo⟩ := hSm.out k hk
        have hlf := hLf.out k
        have hS2 := Lib.hid hS
        obtain ⟨b2, o2, j', rfl, hb2, hj', q0⟩ := hC2.out k hlt
        obtain rfl : j' = (j : Int) := by rw [hj] at hj'; exact (Option.some.inj hj').symm
        have hbg : b1 < gx ∧ b2 < gx ∧ b3 < gx := by have := hGX.out; omega
        rw [← hB.out.cell (p := ⟨b2, o2 + k, none⟩) hbg.2.1] at q0
        have hrv := hRow.out j hjn
        unfold rowV at hrv
        rw [← hp] at hrv
        rw [← hB.out.cell (p := ⟨b3, o3 + j, none⟩) hbg.2.2] at hrv
        have hxc := hX.out.at_ (i := 2) rfl
        have hP2 := Lib.hid hp
        generalize hou : (flowTo ts o m k).1 = ou at *
        generalize hfr : (flowTo ts o m k).2 = fr at *
        clear hS hj hj' hou hfr hp
        go_wp2_with fail
        go_loopw [10, 36] (fun nv iv wr2 => ∃ (q : Nat), q ≤ m ∧ iv = .int .i64 q ∧ nv = .int .i64 (rdy ts fr p q) ∧ Hid (wr2.ownsRow (gx + 1) 2 1 (.slice (some ⟨gx + 1, 0, none⟩) L L) L (ou.map (Value.int .i64))) ∧ Hid (wr2.ownsRow gf 2 1 (.slice (some ⟨gf, 0, none⟩) m m) m ((freeIn ts fr p q).map (Value.int .i64))) ∧ Hid (Own A Bd wr2 (.slice (some ⟨gr, 0, none⟩) n cr2) 24 1 n (rowsL (gx + 1) 0 m n)) ∧ Hid (Whole wr2 gx 62 #[.int .i64 m, .slice (some ⟨b1, o1, none⟩) L cap1, .slice (some ⟨b3, o3, none⟩) n cr, vt]) ∧ Hid (Below gx w wr2) ∧ gf < wr2.heap.size ∧ Bd ≤ wr2.heap.size) (fun _ iv _ => m - (intOf iv).toNat)
        case atStart => exact ⟨0, Nat.zero_le _, rfl, rfl, hO, by rw [freeIn_zero]; exact hF, hRw, hX, hB, g2, g3⟩
        case round =>
          clear hO hF hRw hX hB g2 g3 hxc hrv q0
          obtain ⟨q, hq, rfl, rfl, hO, hF, hRw, hX, hB, g2, g3⟩ := hrel
          by_cases hqm : q < m
          · obtain ⟨r0, r1⟩ := hRb.out fr p _ hpL hsm q (by omega)
            obtain ⟨x0, x1⟩ := hAt.out (p + q) (by omega)
            have hfq := hsm q
            have p0 := hCell.out (p + q) (by omega)
            rw [← hB.out.cell (p := ⟨b1, o1 + (p + q), none⟩) hbg.1, ← Nat.add_assoc] at p0
            have hfc : wr.cell? ⟨gf, q, none⟩ = some (.int .i64 (fr.getD q 0)) := by
              rw [row_cell hF.out (by rw [freeIn_length _ _ _ _ (by omega)]; omega), freeIn_at _ _ _ _ (by omega)]
            have hff : wr.frozen? ⟨gf, q, none⟩ = false := hF.out.frozenAt q
            have hR : Hid (max (rdy ts fr p q) (fr.getD q 0) + ts.getD (p + q) 0 = rdy ts fr p (q + 1)) := Lib.hid rfl
            generalize hfv : fr.getD q 0 = fv at *
            generalize hxv : ts.getD (p + q) 0 = xv at *
            generalize hrv : rdy ts fr p q = rv at *
            generalize hrn : rdy ts fr p (q + 1) = rn at *
            have hRN := Lib.hid hrn
            have hw5 : IntKind.i64.wrap (max rv fv + xv) = rn := by rw [hR.out]; exact IntWalk.i64_in _ (by have := hR.out; omega)
            have hst1 := row_set hF.out q rn
            have hF5 := Lib.hid (show (wr.setCell ⟨gf, q, none⟩ (.int .i64 rn)).ownsRow gf 2 1 (.slice (some ⟨gf, 0, none⟩) m m) m ((freeIn ts fr p (q + 1)).map (Value.int .i64)) by rw [← freeIn_step _ _ _ _ (by omega), hRN.out]; exact hst1.1)
            have hO5 := Lib.hid (hO.out.kept hst1.2 (.inr (by simp [Value.ownBlock]; omega)))
            have hB5 := Lib.hid (hB.out.grown hst1.2 (by omega) (fun q hq => by cases hq; omega))
            have hR5 := Lib.hid (hRw.out.beside hst1.2 (fun g hg => by cases hg; omega) g3)
            have hX5 := Lib.hid (hX.out.apart (p := ⟨gf, q, none⟩) (by simp; omega) (.int .i64 rn))
            have z5 := Lib.hid (show gf < (wr.setCell ⟨gf, q, none⟩ (.int .i64 rn)).heap.size by have := hst1.2.size; omega)
            have z6 := Lib.hid (show Bd ≤ (wr.setCell ⟨gf, q, none⟩ (.int .i64 rn)).heap.size by have := hst1.2.size; omega)
            clear hfv hxv hrv hrn hst1 hO hF hRw hX hB
            go_wp2_with fail
            all_goals
              simp only [mx_eq, hR.out]
              go_roundw
              case rel => exact ⟨q + 1, by omega, by go_num, by rw [hRN.out], hO5, hF5, hR5, hX5, hB5, z5.out, z6.out⟩
              case measure => simp [intOf]; omega
          · obtain rfl : m = q := by omega
            have hFm := hF.out
            rw [freeIn_full _ _ _ _ hlf] at hFm
            have hrw := (hRw.out.1.cellAt j (by omega)).trans (rowsL_get (gx + 1) 0 m n j hjn)
            unfold rowV at hrw
            rw [Nat.zero_add, ← hP2.out] at hrw
            have hcl : ((rdyL ts fr p m).map (Value.int .i64)).length = m := by rw [List.length_map, rdyL_length]
            have hol : (ou.map (Value.int .i64)).length = L := by rw [List.length_map]; exact hlo
            have hst1 := own_setRow (cs' := splice (ou.map (Value.int .i64)) p ((rdyL ts fr p m).map (Value.int .i64))) hO.out (by rw [length_splice _ _ _ (by rw [hcl, hol]; omega)]; exact hol) (Nat.le_refl _) (by unfold maxLen; omega)
            have hO5 := Lib.hid (show (wr.setRow (gx + 1) (splice (ou.map (Value.int .i64)) p ((rdyL ts fr p m).map (Value.int .i64))).toArray).ownsRow (gx + 1) 2 1 (.slice (some ⟨gx + 1, 0, none⟩) L L) L ((flowTo ts o m (k + 1)).1.map (Value.int .i64)) by rw [hS2.out, map_splice]; exact hst1.1)
            have hF5 := Lib.hid (show (wr.setRow (gx + 1) (splice (ou.map (Value.int .i64)) p ((rdyL ts fr p m).map (Value.int .i64))).toArray).ownsRow gf 2 1 (.slice (some ⟨gf, 0, none⟩) m m) m ((flowTo ts o m (k + 1)).2.map (Value.int .i64)) by rw [hS2.out]; exact hFm.kept hst1.2 (.inr (by simp [Value.ownBlock]; omega)))
            have hB5 := Lib.hid (hB.out.grown hst1.2 (by omega) (fun q hq => by cases hq; omega))
            have hR5 := Lib.hid (hRw.out.beside hst1.2 (fun g hg => by cases hg; omega) g3)
            have hX5 := Lib.hid (hX.out.beside hst1.2 (by simp))
            have z5 := Lib.hid (show gf < (wr.setRow (gx + 1) (splice (ou.map (Value.int .i64)) p ((rdyL ts fr p m).map (Value.int .i64))).toArray).heap.size by have := hst1.2.size; omega)
            have z6 := Lib.hid (show Bd ≤ (wr.setRow (gx + 1) (splice (ou.map (Value.int .i64)) p ((rdyL ts fr p m).map (Value.int .i64))).toArray).heap.size by have := hst1.2.size; omega)
            have hblk := Lib.hid (own_block hO.out)
            have hsrc := Lib.hid (row_src hFm)
            have hcl2 := Lib.hid hcl
            have hol2 := Lib.hid hol
            clear hst1 hF hRw hX hB hFm hcl hol
            go_wp2_with (with_reducible refine wpList_copy_own rfl (.tmp 57) (.tmp 58) 24 24 rfl 2 Try.underlying24 (by kernel_rfl) (gx + 1) p m m ⟨gf, 0, none⟩ m m rfl rfl _ 2 hblk.out ((rdyL ts fr p m).map (Value.int .i64)) (by rw [hcl2.out]; exact (Nat.min_self m).symm) hsrc.out (by rw [hcl2.out, List.size_toArray, hol2.out]; omega) (ints_one _) ?_)
            have hEq : List.take p (ou.map (Value.int .i64)) ++ ((rdyL ts fr p m).map (Value.int .i64) ++ List.drop (p + (rdyL ts fr p m).length) (ou.map (Value.int .i64))) = splice (ou.map (Value.int .i64)) p ((rdyL ts fr p m).map (Value.int .i64)) := by
              unfold splice; rw [List.length_map]
            rw [hEq]
            clear hEq
            go_roundw
            case rel => exact ⟨k + 1, by omega, by go_num, hO5, hF5, hR5, hX5, hB5, z5.out, z6.out⟩
            case measure => simp [intOf]; omega
      · obtain rfl : n = k := by omega
        have hR := Lib.hid (hP.out wr (gx + 1) (by omega) hO.out hB.out)
        clear hO hF hRw hX
        go_wp2_with fail
        first | exact hR.out | (go_ret; exact hR.out)
set_option maxHeartbeats 2000000 in
theorem flowLast_any (B : Nat) (s v2 : Value) (ts rt o : List Int) (m n : Nat) (w : World) (hSh : Shop B w s ts rt m n) (h2 : LstI B w v2 o) (hB : B ≤ w.heap.size) (hm1 : 1 ≤ m) (hm8 : m ≤ 8) (hn1 : 1 ≤ n) (hn24 : n ≤ 24) (hlen : ts.length = n * m)
    (ht : ∀ (i : Nat) (x : Int), ts[i]? = some x → 1 ≤ x ∧ x ≤ 10000) (ho : isOrd o n = true) :
    Calls Try.prog 34 #[s, v2] w fun e w' => e = .returned (.int .i64 ((flowTo ts o m n).2.getD (m - 1) 0)) ∧ Below w.heap.size w w' := by
  have hE : Hid (∀ w', Below w.heap.size w w' → _) := Lib.hid fun w' (hb : Below w.heap.size w w') => flowEnds_any B s v2 ts rt o m n w' (hSh.below hb hB) (h2.below hb hB) (Nat.le_trans hB hb.size) hm1 hm8 hn1 hn24 hlen ht ho
  have hL1 : 1 ≤ ts.length := by rw [hlen]; exact Nat.mul_pos hn1 hm1
  have hlo := (flow_small ht hlen hm8 ho n (Nat.le_refl _)).2
  have hM : Hid (∀ (w' w5 : World) (v : Value) (B' : Nat), Own B' w5.heap.size w5 v 2 1 (flowTo ts o m n).1.length ((flowTo ts o m n).1.map (Value.int .i64)) → _) := Lib.hid fun w' w5 v B' (ho : Own B' w5.heap.size w5 v 2 1 (flowTo ts o m n).1.length ((flowTo ts o m n).1.map (Value.int .i64))) => slicesMax_any w5.heap.size v (flowTo ts o m n).1 w5 (ho.lstI (Nat.le_refl _)) (by omega)
  rw [hlo, flow_last ht hlen hm1 hm8 hn1 ho] at hM
  obtain ⟨b, oo, cap, vr, vt, rfl, _, hr, _⟩ := hSh
  obtain ⟨ar, cr, rfl, _⟩ := hr
  clear h2 hlen ht ho
  generalize (flowTo ts o m n).2.getD (m - 1) 0 = fe at *
  generalize n * m = L at *
  go_enter Try.func34, Try.ntmps34
  go_wp2_with fail
  have hb1 := Lib.hid (below_alloc (Below.refl w.heap.size w) (.cells #[.int .i64 m, .slice (some ⟨b, oo, none⟩) L cap, .slice ar n cr, vt] 62))
  with_reducible refine (hE.out _ hb1.out).mono ?_
  rintro e w5 ⟨v', rfl, ho5, hb5⟩
  have hB5 := Lib.hid (below_on hb1.out (Nat.le_refl _) hb5)
  rw [hlo] at ho5
  have hM5 := Lib.hid (hM.out w w5 v' _ ho5)
  clear ho5 hb5
  go_wp2_with fail
  with_reducible refine (hM5.out).mono ?_
  rintro e w' ⟨rfl, rfl⟩
  go_wp2_with fail
  go_ret
  exact ⟨rfl, hB5.out⟩
end Go.Proofs.Ytnkbnkiaokkjhaa
