/- Contracts: an even order of models. -/
import Derived.Test.YtfigojmdklaljaaMixC
import Derived.Deep.RegionHeld3
namespace Go.Proofs.Ytfigojmdklaljaa
open Go.RowKit Go.Lst

theorem nx_no {cs b : List Int} {n k : Int} {i : Nat} (h : ¬ b.getD i 0 < cs.getD i 0) : nextIn cs b n k (i + 1) = nextIn cs b n k i := by
  show (if _ then _ else _) = _
  rw [if_neg fun hc => h hc.1]
theorem nx_first {cs b : List Int} {n k : Int} {i : Nat} (h : b.getD i 0 < cs.getD i 0) (h2 : nextIn cs b n k i < 0) : nextIn cs b n k (i + 1) = i := by
  show (if _ then _ else _) = _
  rw [if_pos ⟨h, .inl h2⟩]
theorem nx_more {cs b : List Int} {n k : Int} {i : Nat} (h : b.getD i 0 < cs.getD i 0) (h2 : byAt cs b n k (nextIn cs b n k i).toNat < byAt cs b n k i) : nextIn cs b n k (i + 1) = i := by
  show (if _ then _ else _) = _
  rw [if_pos ⟨h, .inr h2⟩]
theorem nx_less {cs b : List Int} {n k : Int} {i : Nat} (h1 : ¬ nextIn cs b n k i < 0) (h2 : ¬ byAt cs b n k (nextIn cs b n k i).toNat < byAt cs b n k i) : nextIn cs b n k (i + 1) = nextIn cs b n k i := by
  show (if _ then _ else _) = _
  rw [if_neg fun hc => hc.2.elim h1 h2]
def evenIn (cs : List Int) (n : Nat) (k : Nat) : List Int := evenTo cs n k ++ List.replicate (n - k) 0
theorem evenIn_length (cs : List Int) {n k : Nat} (h : k ≤ n) : (evenIn cs n k).length = n := by unfold evenIn; rw [List.length_append, evenTo_length, List.length_replicate]; omega
theorem evenIn_step {cs : List Int} {n k j : Nat} (h : k < n) (he : evenTo cs n (k + 1) = evenTo cs n k ++ [(j : Int)]) : (evenIn cs n k).set k (j : Int) = evenIn cs n (k + 1) := by
  obtain ⟨q, hq⟩ : ∃ q, n - k = q + 1 := ⟨n - k - 1, by omega⟩
  unfold evenIn
  rw [hq, show n - (k + 1) = q by omega, List.replicate_succ, List.set_append_right _ _ (by rw [evenTo_length]; exact Nat.le_refl _), evenTo_length, Nat.sub_self, List.set_cons_zero, he]
  simp
theorem evenIn_full (cs : List Int) (n : Nat) : evenIn cs n n = evenTo cs n n := by unfold evenIn; rw [Nat.sub_self]; simp
theorem evenIn_zero (cs : List Int) (n : Nat) : evenIn cs n 0 = List.replicate n 0 := by unfold evenIn evenTo; simp
theorem evenB_zero (cs : List Int) (n : Nat) : evenB cs n 0 = List.replicate cs.length 0 := rfl
theorem evenB_length (cs : List Int) (n : Int) (k : Nat) : (evenB cs n k).length = cs.length := mixB_length _ _ _
theorem evenRes_yes {cs : List Int} {n : Nat} (h : okCounts cs = true) (hs : sumTo cs cs.length = (n : Int)) : evenRes cs = evenTo cs n n := by
  unfold evenRes; rw [h, if_pos rfl, hs, Int.toNat_natCast]
theorem even_bounds {cs : List Int} {n : Nat} (hs : sumTo cs cs.length = (n : Int)) (hn : n ≤ 64) (hc : ∀ (i : Nat) (x : Int), cs[i]? = some x → 0 ≤ x ∧ x ≤ 16) {k : Nat} (hk : k < n) (i : Nat) :
    ((0 ≤ ((k + 1 : Nat) : Int) * cs.getD i 0 ∧ ((k + 1 : Nat) : Int) * cs.getD i 0 ≤ 1024) ∧ (0 ≤ (n : Int) * (evenB cs n k).getD i 0 ∧ (n : Int) * (evenB cs n k).getD i 0 ≤ 4096)) ∧ (0 ≤ cs.getD i 0 ∧ cs.getD i 0 ≤ 16) ∧ 0 ≤ (evenB cs n k).getD i 0 ∧ (evenB cs n k).getD i 0 ≤ 16 := by
  have h1 := (even_all hs hc k (by omega)).2 i
  have h2 := counts_at hc i
  have h := byAt_bound (cs := cs) (b := evenB cs n k) (n := n) (k := ((k + 1 : Nat) : Int)) (i := i) (by omega) (by omega) h2 (by omega)
  exact ⟨⟨h.1, h.2.1⟩, h2, by omega, by omega⟩
/-- Two rows of zeros that the call has made. -/
def TwoMade (w W : World) (g0 ga gb a b : Nat) : Prop :=
  W.ownsRow ga 2 1 (.slice (some ⟨ga, 0, none⟩) a a) a ((List.replicate a (0 : Int)).map (Value.int .i64)) ∧ W.ownsRow gb 2 1 (.slice (some ⟨gb, 0, none⟩) b b) b ((List.replicate b (0 : Int)).map (Value.int .i64)) ∧
    Below g0 w W ∧ g0 ≤ ga ∧ g0 ≤ gb ∧ ga ≠ gb ∧ ga < W.heap.size ∧ gb < W.heap.size
theorem two_made {w : World} {g0 a b : Nat} (h0 : w.heap.size = g0) (ha : a ≤ 65536) (hb : b ≤ 65536) :
    let W := ((w.alloc (.cells (madeCells #[.int .i64 0] a) 2)).alloc (.cells (madeCells #[.int .i64 0] b) 2)).drew
    TwoMade w W g0 w.heap.size (w.heap.size + 1) a b ∧ TwoMade w W g0 (w.heap.size + 1) w.heap.size b a := by
  subst h0
  have h1 := made_row w a ha
  have h2 := made_row (w.alloc (.cells (madeCells #[.int .i64 0] a) 2)) b hb
  rw [alloc_size] at h2
  have h3 := (ownsRow_kept h1 (below_alloc (Below.refl _ _) (.cells (madeCells #[.int .i64 0] b) 2))).drew
  have h4 : Below w.heap.size w ((w.alloc (.cells (madeCells #[.int .i64 0] a) 2)).alloc (.cells (madeCells #[.int .i64 0] b) 2)).drew := ((below_alloc (Below.refl _ _) _).alloc (by rw [alloc_size]; omega) _).drew
  have h5 : ((w.alloc (.cells (madeCells #[.int .i64 0] a) 2)).alloc (.cells (madeCells #[.int .i64 0] b) 2)).drew.heap.size = w.heap.size + 2 := by
    show ((w.alloc _).alloc _).heap.size = _
    rw [alloc_size, alloc_size]
  exact ⟨⟨h3, h2.drew, h4, by omega, by omega, by omega, by omega, by omega⟩, h2.drew, h3, h4, by omega, by omega, by omega, by omega, by omega⟩

set_option maxHeartbeats 8000000 in
set_option maxRecDepth 100000 in
theorem implMixedOrder_any (B : Nat) (v1 : Value) (cs : List Int) (w : World) (h1 : LstI B w v1 cs) (hB : B ≤ w.heap.size) :
    Calls Try.prog 28 #[v1] w (ListPost (evenRes cs) (okCounts cs) w) := by
  have hT := Lib.hid (areCounts_any B v1 cs w h1)
  rcases (show okCounts cs = false ∨ okCounts cs = true by cases okCounts cs <;> simp) with hq | hq
  · have hP := Lib.hid (list_no (r := evenRes cs) (ok := okCounts cs) (w := w) (w' := w) (by unfold evenRes; rw [hq]; rfl) hq (Below.refl _ _))
    rw [hq] at hT
    generalize ListPost (evenRes cs) (okCounts cs) w = Q at *
    clear h1 hq
    go_enter Try.func28, Try.ntmps28
    go_wp2_with (go_at_call 56; (with_reducible refine (hT.out).mono ?_); rintro e w' ⟨rfl, rfl⟩)
    first | exact hP.out | (go_ret2; exact hP.out)
  · obtain ⟨n, hm1, hm8, hs, hn1, hn64, hc⟩ := okCounts_of hq
    obtain ⟨g0, hg0⟩ : ∃ g0, w.heap.size = g0 := ⟨_, rfl⟩
    have hBg : B ≤ g0 := by omega
    have hS := Lib.hid (sumOf_any B v1 cs w h1 (counts_sums hm8 (by have := hq; simp only [okCounts, Bool.and_eq_true] at this; exact this.1.2)) (fun i x hx => by have := hc i x hx; omega))
    rw [hs] at hS
    have hP : Hid (∀ (w' : World) (g : Nat), g0 ≤ g → w'.ownsRow g 2 1 (.slice (some ⟨g, 0, none⟩) n n) n ((evenTo cs n n).map (Value.int .i64)) → Below g0 w w' → ListPost (evenRes cs) (okCounts cs) w (.returned (.tuple #[.slice (some ⟨g, 0, none⟩) n n, .bool true])) w') := Lib.hid fun w' g hg ho hb => by
      subst hg0
      rw [evenRes_yes hq hs]
      exact list_yes hq hg (evenTo_length _ _ _) ho (by omega) hb
    rw [hq] at hT
    have hRd : Hid (∀ k, k < n → _) := Lib.hid fun k (hk : k < n) => even_round hs hk (even_all hs hc k (by omega))
    have hSt : Hid (∀ (k j : Nat), k < n → evenTo cs n (k + 1) = evenTo cs n k ++ [(j : Int)] → (evenIn cs n k).set k (j : Int) = evenIn cs n (k + 1)) := Lib.hid fun k j a b => evenIn_step a b
    have hLnO : Hid (∀ k, k ≤ n → (evenIn cs n k).length = n) := Lib.hid fun k hk => evenIn_length cs hk
    have hLn := Lib.hid (fun k => evenB_length cs n k)
    have hBy : Hid (∀ k, k < n → ∀ i, _) := Lib.hid fun k (a : k < n) i => even_bounds hs hn64 hc a i
    have hZO := Lib.hid (evenIn_zero cs n)
    have hZB := Lib.hid (evenB_zero cs n)
    have hFu := Lib.hid (evenIn_full cs n)
    have hBE : Hid (∀ (w' : World) (v3 : Value) (b : List Int) (k : Nat) (z : Int), z = (k : Int) → Below g0 w w' → LstI w'.heap.size w' v3 b → b.length = cs.length → (∀ i, (0 ≤ (k : Int) * cs.getD i 0 ∧ (k : Int) * cs.getD i 0 ≤ 1024) ∧ (0 ≤ (n : Int) * b.getD i 0 ∧ (n : Int) * b.getD i 0 ≤ 4096)) →
        Calls Try.prog 57 #[v1, v3, .int .i64 n, .int .i64 z] w' fun e w'' => ∃ v', e = .returned v' ∧ Own w'.heap.size w''.heap.size w'' v' 2 1 cs.length ((byL cs b n k cs.length).map (Value.int .i64)) ∧ Below w'.heap.size w' w'') := Lib.hid fun w' v3 b k z hz hb h3 hl hbd => by
      subst hg0
      rw [hz]
      exact behindEven_any w'.heap.size v1 v3 cs b n k w' ((h1.below hb hB).mono (Nat.le_trans hB hb.size)) h3 hl hm8 (Nat.le_refl _) hbd
    have hByL : Hid (∀ b k, (byL cs b n k cs.length).length = cs.length) := Lib.hid fun b k => byL_length cs b n k cs.length
    have hByG : Hid (∀ b k i, i < cs.length → (byL cs b n k cs.length).getD i 0 = byAt cs b n k i) := Lib.hid fun b k i hi => byL_getD cs b n k cs.length i hi
    have hRg : Hid (∀ b k i, -1 ≤ nextIn cs b n k i ∧ nextIn cs b n k i < i) := Lib.hid fun b k i => nextIn_range cs b n k i
    obtain ⟨a1, cap1, rfl, hl1, _, _, hc1⟩ := h1.at_
    have hC1 : Hid (∀ k, k < cs.length → ∃ b o, a1 = some ⟨b, o, none⟩ ∧ b < B ∧ w.cell? ⟨b, o + k, none⟩ = some (.int .i64 (cs.getD k 0))) := Lib.hid fun k hk => by
      obtain ⟨b, o, x, h1, h2, h3, h4⟩ := hc1 k hk
      exact ⟨b, o, h1, h2, by rw [getD_of h3]; exact h4⟩
    obtain ⟨i0, hi, hz0, hz1, hz2⟩ := info_parts infoI
    have hmkN := make_ints 22 i0 Try.underlying22 hi hz0 hz1 hz2 n (by omega)
    have hmkM := make_ints 22 i0 Try.underlying22 hi hz0 hz1 hz2 cs.length (by omega)
    have hG0 := Lib.hid hg0
    generalize ListPost (evenRes cs) (okCounts cs) w = Q at *
    clear h1 hc1 hq hs hc hg0 hB
    generalize hmm : cs.length = m at *
    have hMM := Lib.hid hmm
    clear hmm
    unfold maxLen at hl1
    go_enter Try.func28, Try.ntmps28
    go_wp2_with (first | (go_at_call 56; (with_reducible refine (hT.out).mono ?_); rintro e w' ⟨rfl, rfl⟩) | (go_at_call 49; (with_reducible refine (hS.out).mono ?_); rintro e w' ⟨rfl, rfl⟩))
    go_region_held3 (fun w' => Below w.heap.size w w') ((first | exact (Below.refl _ _) | exact (Below.refl _ _).drew | exact (below_alloc (Below.refl _ _) _) | exact (below_alloc (Below.refl _ _).drew _) | exact (below_alloc (below_alloc (Below.refl _ _) _) _) | exact (below_alloc (below_alloc (Below.refl _ _).drew _) _) | exact (below_alloc (below_alloc (Below.refl _ _).drew _).drew _) | exact (below_alloc (below_alloc (Below.refl _ _) _).drew _))) (fail)
    focus
      (have hH := Lib.hid (show TwoMade w _ g0 w.heap.size (w.heap.size + 1) n m from (two_made hG0.out (show n ≤ 65536 by omega) (show m ≤ 65536 by omega)).1); clear hG0; generalize World.drew _ = W at *; generalize w.heap.size + 1 = gb at *; generalize w.heap.size = ga at *)
    rotate_left
    focus
      (have hH := Lib.hid (show TwoMade w _ g0 (w.heap.size + 1) w.heap.size n m from (two_made hG0.out (show m ≤ 65536 by omega) (show n ≤ 65536 by omega)).2); clear hG0; generalize World.drew _ = W at *; generalize w.heap.size + 1 = ga at *; generalize w.heap.size = gb at *)
    all_goals
      obtain ⟨hO0, hB0, hBl, e1, e2, e3, e4, e5⟩ := hH.out
      have hO1 := Lib.hid (show W.ownsRow ga 2 1 (.slice (some ⟨ga, 0, none⟩) n n) n ((evenIn cs n 0).map (Value.int .i64)) by rw [hZO.out]; exact hO0)
      have hY1 := Lib.hid (show W.ownsRow gb 2 1 (.slice (some ⟨gb, 0, none⟩) m m) m ((evenB cs n 0).map (Value.int .i64)) by rw [hZB.out]; exact hB0)
      have hL1 := Lib.hid hBl
      clear hH hO0 hB0 hBl
      go_wp2_with fail
      go_loopw [24] (fun iv wr => ∃ k : Nat, k ≤ n ∧ iv = .int .i64 k ∧ Hid (wr.ownsRow ga 2 1 (.slice (some ⟨ga, 0, none⟩) n n) n ((evenIn cs n k).map (Value.int .i64))) ∧ Hid (wr.ownsRow gb 2 1 (.slice (some ⟨gb, 0, none⟩) m m) m ((evenB cs n k).map (Value.int .i64))) ∧ Hid (Below g0 w wr) ∧ ga < wr.heap.size ∧ gb < wr.heap.size) (fun iv _ => n - (intOf iv).toNat)
      case atStart => exact ⟨0, Nat.zero_le _, rfl, hO1, hY1, hL1, e4, e5⟩
      case round =>
        clear hO1 hY1 hL1 e4 e5
        obtain ⟨k, hk, rfl, hO, hY, hL, e4, e5⟩ := hrel
        by_cases hlt : k < n
        · obtain ⟨j, hj, hjm, hroom, hE2, hB2, -⟩ := hRd.out k hlt
          have hJ := Lib.hid hj
          have hB2 := Lib.hid hB2
          have hby := Lib.hid (hBy.out k hlt)
          have hst2 := Lib.hid (hSt.out k j hlt hE2)
          have hv4 := Lib.hid (show LstI wr.heap.size wr (.slice (some ⟨gb, 0, none⟩) m m) (evenB cs n k) from by
            have := Own.new hY.out (show m ≤ maxLen by unfold maxLen; omega)
            unfold LstI
            rw [hLn.out]
            exact this.lstK (Nat.le_refl _))
          have hw0 : IntKind.i64.wrap ((k : Int) + 1) = (k : Int) + 1 := IntWalk.i64_in _ (by omega)
          clear hj hE2 hroom
          go_wp2_with fail
          with_reducible refine (hBE.out wr _ _ (k + 1) _ (by omega) hL.out hv4.out (hLn.out _) (fun i => (hby.out i).1)).mono ?_
          rintro e w5 ⟨v5, rfl, ho5, hb5⟩
          have hO5 := Lib.hid (ownsRow_kept hO.out hb5)
          have hY5 := Lib.hid (ownsRow_kept hY.out hb5)
          have hL5 := Lib.hid (hL.out.trans (hb5.mono (by omega)))
          have e6 : ga < w5.heap.size := Nat.lt_of_lt_of_le e4 hb5.size
          have e7 : gb < w5.heap.size := Nat.lt_of_lt_of_le e5 hb5.size
          have hL5' : LstI w5.heap.size w5 v5 (byL cs (evenB cs n k) n ((k + 1 : Nat) : Int) m) := by
            unfold LstI
            rw [hByL.out]
            exact ho5.lstK (Nat.le_refl _)
          obtain ⟨a5, cap5, rfl, hl5, _, _, hc5⟩ := hL5'.at_
          rw [hByL.out] at hl5 hc5 ⊢
          have hC5 : Hid (∀ i, i < m → ∃ b q, a5 = some ⟨b, q, none⟩ ∧ w5.cell? ⟨b, q + i, none⟩ = some (.int .i64 (byAt cs (evenB cs n k) n ((k + 1 : Nat) : Int) i))) := Lib.hid fun i hi => by
            obtain ⟨b, q, x, h1, _, h3, h4⟩ := hc5 i hi
            exact ⟨b, q, h1, by rw [← hByG.out _ _ i hi, getD_of h3]; exact h4⟩
          clear hc5 ho5 hb5 hO hY hL hv4 hL5' e4 e5
          have hNn : Hid (∀ i, ¬ (evenB cs n k).getD i 0 < cs.getD i 0 → nextIn cs (evenB cs n k) n ((k + 1 : Nat) : Int) (i + 1) = nextIn cs (evenB cs n k) n ((k + 1 : Nat) : Int) i) := Lib.hid fun i h => nx_no h
          have hNf : Hid (∀ i, (evenB cs n k).getD i 0 < cs.getD i 0 → nextIn cs (evenB cs n k) n ((k + 1 : Nat) : Int) i < 0 → nextIn cs (evenB cs n k) n ((k + 1 : Nat) : Int) (i + 1) = i) := Lib.hid fun i h h2 => nx_first h h2
          have hNm : Hid (∀ i, (evenB cs n k).getD i 0 < cs.getD i 0 → byAt cs (evenB cs n k) n ((k + 1 : Nat) : Int) (nextIn cs (evenB cs n k) n ((k + 1 : Nat) : Int) i).toNat < byAt cs (evenB cs n k) n ((k + 1 : Nat) : Int) i → nextIn cs (evenB cs n k) n ((k + 1 : Nat) : Int) (i + 1) = i) := Lib.hid fun i h h2 => nx_more h h2
          have hNl : Hid (∀ i, ¬ nextIn cs (evenB cs n k) n ((k + 1 : Nat) : Int) i < 0 → ¬ byAt cs (evenB cs n k) n ((k + 1 : Nat) : Int) (nextIn cs (evenB cs n k) n ((k + 1 : Nat) : Int) i).toNat < byAt cs (evenB cs n k) n ((k + 1 : Nat) : Int) i → nextIn cs (evenB cs n k) n ((k + 1 : Nat) : Int) (i + 1) = nextIn cs (evenB cs n k) n ((k + 1 : Nat) : Int) i) := Lib.hid fun i h h2 => nx_less h h2
          have hN0 : Hid (nextIn cs (evenB cs n k) n ((k + 1 : Nat) : Int) 0 = -1) := Lib.hid rfl
          have hrg := Lib.hid (fun i => hRg.out (evenB cs n k) ((k + 1 : Nat) : Int) i)
          have hlb := Lib.hid (hLn.out k)
          generalize hbb : evenB cs n k = bb at *
          generalize hnx : nextIn cs bb n ((k + 1 : Nat) : Int) = nx at *
          generalize hba : byAt cs bb n ((k + 1 : Nat) : Int) = ba at *
          have hBB := Lib.hid hbb
          clear hbb hnx hba
          unfold maxLen at hl5
          go_wp2_with fail
          go_loopw [9, 35] (fun zv iv wr => ∃ i nq : Nat, i ≤ m ∧ iv = .int .i64 i ∧ zv = .int .i64 (nx i) ∧ wr = w5.drewN nq) (fun _ iv _ => m - (intOf iv).toNat)
          case atStart => exact ⟨0, 0, Nat.zero_le _, rfl, by rw [hN0.out], rfl⟩
          case round =>
            obtain ⟨i, nq, hi, rfl, rfl, rfl⟩ := hrel
            by_cases hlt2 : i < m
            · obtain ⟨b1, o1, rfl, hb1, p0⟩ := hC1.out i hlt2
              obtain ⟨b5, o5, rfl, r0⟩ := hC5.out i hlt2
              rw [← hL5.out.cell (p := ⟨b1, o1 + i, none⟩) (show b1 < g0 by omega), ← World.cell?_drewN (n := nq)] at p0
              rw [← World.cell?_drewN (n := nq)] at r0
              have hd : (w5.drewN nq).cell? ⟨gb, i, none⟩ = some (.int .i64 (bb.getD i 0)) := row_cell hY5.out (by rw [hlb.out]; exact hlt2)
              have hCc : Hid (∀ q, q < m → (w5.drewN nq).cell? ⟨b5, o5 + q, none⟩ = some (.int .i64 (ba q))) := Lib.hid fun q hq => by
                obtain ⟨b, q', h1, h2⟩ := hC5.out q hq
                injection h1 with h1; injection h1 with h1 h3 _
                subst h1 h3
                rw [World.cell?_drewN]; exact h2
              have hnn := Lib.hid (hNn.out i)
              have hnf := Lib.hid (hNf.out i)
              have hnm := Lib.hid (hNm.out i)
              have hnl := Lib.hid (hNl.out i)
              obtain ⟨z0, z1⟩ := hrg.out i
              generalize hnz : nx (i + 1) = zn at *
              have hNZ := Lib.hid hnz
              clear hnz
              generalize nx i = z at *
              generalize cs.getD i 0 = cv at *
              generalize bb.getD i 0 = bv at *
              generalize hwo : w5.drewN nq = wo at *
              have hWo := Lib.hid hwo
              clear hwo
              by_cases hr : bv < cv
              · by_cases hz : z < 0
                · have hZn := Lib.hid (hnf.out (by omega) (by omega))
                  clear hnn hnf hnm hnl hCc
                  go_wp2_with fail
                  go_quiet (fail)
                  go_wp2_with fail
                  go_roundw
                  case rel => exact ⟨i + 1, _, by omega, by go_num, by rw [hNZ.out, hZn.out], by rw [← hWo.out, World.drewN_drewN]⟩
                  case measure => simp [intOf]; omega
                · obtain ⟨q, rfl⟩ := Int.eq_ofNat_of_zero_le (show 0 ≤ z by omega)
                  have r1 := hCc.out q (by omega)
                  have hqm : (q : Int) < (m : Int) := by omega
                  rw [Int.toNat_natCast] at hnm hnl
                  generalize ba i = bi at *
                  generalize ba q = bq at *
                  by_cases hc : bq < bi
                  · have hZn := Lib.hid (hnm.out (by omega) (by omega))
                    clear hnn hnf hnm hnl hCc
                    go_wp2_with fail
                    go_quiet (fail)
                    go_wp2_with fail
                    go_roundw
                    case rel => exact ⟨i + 1, _, by omega, by go_num, by rw [hNZ.out, hZn.out], by rw [← hWo.out, World.drewN_drewN]⟩
                    case measure => simp [intOf]; omega
                  · have hZn := Lib.hid (hnl.out (by omega) (by omega))
                    clear hnn hnf hnm hnl hCc
                    go_wp2_with fail
                    go_quiet (fail)
                    go_wp2_with fail
                    go_roundw
                    case rel => exact ⟨i + 1, _, by omega, by go_num, by rw [hNZ.out, hZn.out], by rw [← hWo.out, World.drewN_drewN]⟩
                    case measure => simp [intOf]; omega
              · have hZn := Lib.hid (hnn.out (by omega))
                have hrd : decide (bv < cv) = false := by simp; omega
                clear hnn hnf hnm hnl hCc
                go_wp2_with fail
                go_quiet (fail)
                go_wp2_with fail
                go_roundw
                case rel => exact ⟨i + 1, _, by omega, by go_num, by rw [hNZ.out, hZn.out], by rw [← hWo.out, World.drewN_drewN]⟩
                case measure => simp [intOf]; omega
            · obtain rfl : m = i := by omega
              rw [hJ.out]
              have hO6 := Lib.hid (ownsRow_drewN hO5.out nq)
              have hY6 := Lib.hid (ownsRow_drewN hY5.out nq)
              have hL6 := Lib.hid (Lst.Below.drewN hL5.out nq)
              have e8 : ga < (w5.drewN nq).heap.size := e6
              have e9 : gb < (w5.drewN nq).heap.size := e7
              obtain ⟨-, -, y0, y1⟩ := hby.out j
              clear hO5 hY5 hL5 e6 e7 hC5
              generalize w5.drewN nq = w6 at *
              have f0 : w6.cell? ⟨ga, k, none⟩ = some (.int .i64 ((evenIn cs n k).getD k 0)) := row_cell hO6.out (by rw [hLnO.out k hk]; exact hlt)
              have f1 : w6.frozen? ⟨ga, k, none⟩ = false := hO6.out.frozenAt k
              have hs1 := row_set hO6.out k (j : Int)
              generalize (evenIn cs n k).getD k 0 = dv at *
              generalize hw7 : w6.setCell ⟨ga, k, none⟩ (.int .i64 (j : Int)) = w7 at *
              have hO7 := Lib.hid (show w7.ownsRow ga 2 1 (.slice (some ⟨ga, 0, none⟩) n n) n ((evenIn cs n (k + 1)).map (Value.int .i64)) by rw [← hst2.out]; exact hs1.1)
              have hY7 := Lib.hid (hY6.out.kept hs1.2 (.inr (by simp [Value.ownBlock]; omega)))
              have hL7 := Lib.hid (hL6.out.grown hs1.2 (by omega) (fun q hq => by cases hq; omega))
              have d8 : ga < w7.heap.size := Nat.lt_of_lt_of_le e8 hs1.2.size
              have d9 : gb < w7.heap.size := Nat.lt_of_lt_of_le e9 hs1.2.size
              have f2 : w7.cell? ⟨gb, j, none⟩ = some (.int .i64 (bb.getD j 0)) := row_cell hY7.out (by rw [hlb.out]; exact hjm)
              have f3 : w7.frozen? ⟨gb, j, none⟩ = false := hY7.out.frozenAt j
              generalize hbj : bb.getD j 0 = bj at *
              have hBJ := Lib.hid hbj
              have hw1 : IntKind.i64.wrap (bj + 1) = bj + 1 := IntWalk.i64_in _ (by omega)
              have hs2 := row_set hY7.out j (bj + 1)
              have hY8 := Lib.hid (show (w7.setCell ⟨gb, j, none⟩ (.int .i64 (bj + 1))).ownsRow gb 2 1 (.slice (some ⟨gb, 0, none⟩) m m) m ((evenB cs n (k + 1)).map (Value.int .i64)) by rw [hB2.out]; exact hs2.1)
              have hO8 := Lib.hid (hO7.out.kept hs2.2 (.inr (by simp [Value.ownBlock]; omega)))
              have hL8 := Lib.hid (hL7.out.grown hs2.2 (by omega) (fun q hq => by cases hq; omega))
              have c8 : ga < (w7.setCell ⟨gb, j, none⟩ (.int .i64 (bj + 1))).heap.size := Nat.lt_of_lt_of_le d8 hs2.2.size
              have c9 : gb < (w7.setCell ⟨gb, j, none⟩ (.int .i64 (bj + 1))).heap.size := Nat.lt_of_lt_of_le d9 hs2.2.size
              clear hbj hs1 hs2 hO6 hY6 hL6 hO7 hY7 hL7
              go_wp2_with fail
              go_roundw
              case rel => exact ⟨k + 1, by omega, by go_num, hO8, hY8, hL8, c8, c9⟩
              case measure => simp [intOf]; omega
        · obtain rfl : n = k := by omega
          have hO2 := hO.out
          rw [hFu.out] at hO2
          have hR := Lib.hid (hP.out wr ga e1 hO2 hL.out)
          clear hO2 hO hY hL
          go_wp2_with fail
          first | exact hR.out | (go_ret2; exact hR.out)
theorem one_num (x : Int) : ∀ u ∈ [Value.int .i64 x], u.oneCell' = true := by simp [Value.oneCell']
set_option maxHeartbeats 8000000 in
set_option maxRecDepth 100000 in
theorem specMixedOrder_any (B : Nat) (v1 : Value) (cs : List Int) (w : World) (h1 : LstI B w v1 cs) (hB : B ≤ w.heap.size) :
    Calls Try.prog 27 #[v1] w (ListPost (evenRes cs) (okCounts cs) w) := by
  have hT := Lib.hid (l04Counts_any B v1 cs w h1)
  rcases (show okCounts cs = false ∨ okCounts cs = true by cases okCounts cs <;> simp) with hq | hq
  · have hP := Lib.hid (list_no (r := evenRes cs) (ok := okCounts cs) (w := w) (w' := w) (by unfold evenRes; rw [hq]; rfl) hq (Below.refl _ _))
    rw [hq] at hT
    generalize ListPost (evenRes cs) (okCounts cs) w = Q at *
    clear h1 hq
    go_enter Try.func27, Try.ntmps27
    go_wp2_with (go_at_call 53; (with_reducible refine (hT.out).mono ?_); rintro e w' ⟨rfl, rfl⟩)
    first | exact hP.out | (go_ret2; exact hP.out)
  · obtain ⟨n, hm1, hm8, hs, hn1, hn64, hc⟩ := okCounts_of hq
    obtain ⟨g, hg0⟩ : ∃ g, w.heap.size = g := ⟨_, rfl⟩
    have hBg : B ≤ g := by omega
    have hS := Lib.hid (l02Sum_any B v1 cs 0 w h1 (counts_sums hm8 (by have := hq; simp only [okCounts, Bool.and_eq_true] at this; exact this.1.2)) (fun i x hx => by have := hc i x hx; omega))
    rw [hs] at hS
    have hP : Hid (∀ (w' : World) (v : Value), w'.ownsRow (g + 1) 2 1 v n ((evenTo cs n n).map (Value.int .i64)) → Below g w w' → ListPost (evenRes cs) (okCounts cs) w (.returned (.tuple #[v, .bool true])) w') := Lib.hid fun w' v ho hb => by
      subst hg0
      rw [evenRes_yes hq hs]
      exact list_yes hq (Nat.le_succ _) (evenTo_length _ _ _) ho (by omega) hb
    rw [hq] at hT
    have hRd : Hid (∀ k, k < n → _) := Lib.hid fun k (hk : k < n) => even_round hs hk (even_all hs hc k (by omega))
    have hLn := Lib.hid (fun k => evenB_length cs n k)
    have hBy : Hid (∀ k, k < n → ∀ i, _) := Lib.hid fun k (a : k < n) i => even_bounds hs hn64 hc a i
    have hZB := Lib.hid (evenB_zero cs n)
    have hZO : Hid (evenTo cs n 0 = []) := Lib.hid rfl
    have hRg : Hid (∀ b k i, -1 ≤ nextIn cs b n k i ∧ nextIn cs b n k i < i) := Lib.hid fun b k i => nextIn_range cs b n k i
    obtain ⟨a1, cap1, rfl, hl1, _, _, hc1⟩ := h1.at_
    have hC1 : Hid (∀ k, k < cs.length → ∃ b o, a1 = some ⟨b, o, none⟩ ∧ b < B ∧ w.cell? ⟨b, o + k, none⟩ = some (.int .i64 (cs.getD k 0))) := Lib.hid fun k hk => by
      obtain ⟨b, o, x, h1, h2, h3, h4⟩ := hc1 k hk
      exact ⟨b, o, h1, h2, by rw [getD_of h3]; exact h4⟩
    obtain ⟨i0, hi, hz0, hz1, hz2⟩ := info_parts infoI
    have hmkM := make_ints 22 i0 Try.underlying22 hi hz0 hz1 hz2 cs.length (by omega)
    have hmr := Lib.hid (made_row w cs.length (by omega))
    have hG0 := Lib.hid hg0
    generalize ListPost (evenRes cs) (okCounts cs) w = Q at *
    clear h1 hc1 hq hs hc hg0 hB
    generalize hmm : cs.length = m at *
    have hMM := Lib.hid hmm
    clear hmm
    unfold maxLen at hl1
    go_enter Try.func27, Try.ntmps27
    go_wp2_with (first | (go_at_call 53; (with_reducible refine (hT.out).mono ?_); rintro e w' ⟨rfl, rfl⟩) | (go_at_call 54; (with_reducible refine (hS.out).mono ?_); rintro e w' ⟨rfl, rfl⟩))
    have hY1 := Lib.hid (show Own w.heap.size (w.heap.size + 1) (w.alloc (.cells (madeCells #[.int .i64 0] m) 2)) (.slice (some ⟨w.heap.size, 0, none⟩) m m) 2 1 m ((evenB cs n 0).map (Value.int .i64)) by
      rw [hZB.out]
      have := Own.new hmr.out (show m ≤ maxLen by unfold maxLen; omega)
      rw [alloc_size] at this
      exact this)
    have hB1 := Lib.hid (show Below w.heap.size w (w.alloc (.cells (madeCells #[.int .i64 0] m) 2)) from below_alloc (Below.refl _ _) _)
    have hs1 : (w.alloc (.cells (madeCells #[.int .i64 0] m) 2)).heap.size = w.heap.size + 1 := alloc_size w _
    clear hmr hmkM
    generalize w.alloc (.cells (madeCells #[.int .i64 0] m) 2) = w4 at *
    have hO2 := Lib.hid (show (w4.alloc (Obj.cells #[] 2)).ownsRow w4.heap.size 2 1 (.slice (some ⟨w4.heap.size, 0, none⟩) 0 0) 0 ((evenTo cs n 0).map (Value.int .i64)) by rw [hZO.out]; exact World.ownsRow_lit w4 #[] 0 (Nat.le_refl _) (Nat.zero_le _) rfl)
    have hY2 := Lib.hid (hY1.out.below (w' := w4.alloc (Obj.cells #[] 2)) (below_alloc (Below.refl _ _) _) (by omega))
    have hB2 := Lib.hid (hB1.out.alloc (by omega) (Obj.cells #[] 2))
    have hs2 : (w4.alloc (Obj.cells #[] 2)).heap.size = w4.heap.size + 1 := alloc_size w4 _
    clear hY1 hB1
    generalize w4.alloc (Obj.cells #[] 2) = w5 at *
    have hs3 := Lib.hid hs1
    have hs4 := Lib.hid hs2
    clear hs1 hs2
    generalize hw4 : w4.heap.size = g1 at *
    generalize hgg : w.heap.size = g2 at *
    obtain rfl : g2 = g := hG0.out
    obtain rfl : g1 = g2 + 1 := hs3.out
    have hgs := hs4.out
    clear hs3 hs4 hw4
    go_loopw [6, 7] (fun ov kv wr => ∃ k : Nat, k ≤ n ∧ kv = .int .i64 ((k : Int) + 1) ∧ Hid (wr.ownsRow (g2 + 1) 2 1 ov k ((evenTo cs n k).map (Value.int .i64))) ∧ Hid (Own g2 (g2 + 1) wr (.slice (some ⟨g2, 0, none⟩) m m) 2 1 m ((evenB cs n k).map (Value.int .i64))) ∧ Hid (Below g2 w wr) ∧ g2 + 1 ≤ wr.heap.size) (fun _ kv _ => n + 1 - (intOf kv).toNat)
    case atStart => exact ⟨0, Nat.zero_le _, rfl, hO2, hY2, hB2, by omega⟩
    case round =>
      clear hO2 hY2 hB2 hgs
      obtain ⟨k, hk, rfl, hO, hY, hL, hsz⟩ := hrel
      by_cases hlt : k < n
      · have hle : decide ((k : Int) + 1 ≤ (n : Int)) = true := by simp; omega
        have hKc : ((k + 1 : Nat) : Int) = (k : Int) + 1 := by omega
        obtain ⟨j, hj, hjm, -, hE2, hB2, -⟩ := hRd.out k hlt
        have hby := hBy.out k hlt
        rw [hKc] at hj hby
        have hJ := Lib.hid hj
        have hEv := Lib.hid hE2
        have hBv := Lib.hid hB2
        have hBy2 := Lib.hid hby
        clear hj hE2 hB2 hby hKc
        have hNn : Hid (∀ i, ¬ (evenB cs n k).getD i 0 < cs.getD i 0 → nextIn cs (evenB cs n k) n ((k : Int) + 1) (i + 1) = nextIn cs (evenB cs n k) n ((k : Int) + 1) i) := Lib.hid fun i h => nx_no h
        have hNf : Hid (∀ i, (evenB cs n k).getD i 0 < cs.getD i 0 → nextIn cs (evenB cs n k) n ((k : Int) + 1) i < 0 → nextIn cs (evenB cs n k) n ((k : Int) + 1) (i + 1) = i) := Lib.hid fun i h h2 => nx_first h h2
        have hNm : Hid (∀ i, (evenB cs n k).getD i 0 < cs.getD i 0 → byAt cs (evenB cs n k) n ((k : Int) + 1) (nextIn cs (evenB cs n k) n ((k : Int) + 1) i).toNat < byAt cs (evenB cs n k) n ((k : Int) + 1) i → nextIn cs (evenB cs n k) n ((k : Int) + 1) (i + 1) = i) := Lib.hid fun i h h2 => nx_more h h2
        have hNl : Hid (∀ i, ¬ nextIn cs (evenB cs n k) n ((k : Int) + 1) i < 0 → ¬ byAt cs (evenB cs n k) n ((k : Int) + 1) (nextIn cs (evenB cs n k) n ((k : Int) + 1) i).toNat < byAt cs (evenB cs n k) n ((k : Int) + 1) i → nextIn cs (evenB cs n k) n ((k : Int) + 1) (i + 1) = nextIn cs (evenB cs n k) n ((k : Int) + 1) i) := Lib.hid fun i h h2 => nx_less h h2
        have hN0 : Hid (nextIn cs (evenB cs n k) n ((k : Int) + 1) 0 = -1) := Lib.hid rfl
        have hBa : Hid (∀ i, byAt cs (evenB cs n k) n ((k : Int) + 1) i = ((k : Int) + 1) * cs.getD i 0 - n * (evenB cs n k).getD i 0) := Lib.hid fun i => rfl
        have hrg := Lib.hid (fun i => hRg.out (evenB cs n k) ((k : Int) + 1) i)
        have hlb := Lib.hid (hLn.out k)
        generalize hbb : evenB cs n k = bb at *
        generalize hnx : nextIn cs bb n ((k : Int) + 1) = nx at *
        generalize hba : byAt cs bb n ((k : Int) + 1) = ba at *
        have hBB := Lib.hid hbb
        clear hbb hnx hba
        go_wp2_with fail
        go_loopw [8, 9] (fun zv iv w' => ∃ i nq : Nat, i ≤ m ∧ iv = .int .i64 i ∧ zv = .int .i64 (nx i) ∧ w' = wr.drewN nq) (fun _ iv _ => m - (intOf iv).toNat)
        case atStart => exact ⟨0, 0, Nat.zero_le _, rfl, by rw [hN0.out], rfl⟩
        case round =>
          obtain ⟨i, nq, hi2, rfl, rfl, rfl⟩ := hrel
          by_cases hlt2 : i < m
          · obtain ⟨b1, o1, rfl, hb1, p0⟩ := hC1.out i hlt2
            rw [← hL.out.cell (p := ⟨b1, o1 + i, none⟩) (show b1 < g2 by omega), ← World.cell?_drewN (n := nq)] at p0
            have hd : (wr.drewN nq).cell? ⟨g2, i, none⟩ = some (.int .i64 (bb.getD i 0)) := row_cell hY.out.1 (by rw [hlb.out]; exact hlt2)
            have hCc : Hid (∀ q, q < m → (wr.drewN nq).cell? ⟨b1, o1 + q, none⟩ = some (.int .i64 (cs.getD q 0)) ∧ (wr.drewN nq).cell? ⟨g2, q, none⟩ = some (.int .i64 (bb.getD q 0))) := Lib.hid fun q hq => by
              obtain ⟨b, q', h1, hb, h2⟩ := hC1.out q hq
              injection h1 with h1; injection h1 with h1 h3 _
              subst h1 h3
              exact ⟨by rw [World.cell?_drewN, hL.out.cell (p := ⟨_, _, none⟩) (show b1 < g2 by omega)]; exact h2, row_cell hY.out.1 (by rw [hlb.out]; exact hq)⟩
            have hnn := Lib.hid (hNn.out i)
            have hnf := Lib.hid (hNf.out i)
            have hnm := Lib.hid (hNm.out i)
            have hnl := Lib.hid (hNl.out i)
            have hbi := hBa.out i
            obtain ⟨⟨⟨y0, y1⟩, y2, y3⟩, -⟩ := hBy2.out i
            obtain ⟨z0, z1⟩ := hrg.out i
            generalize hnz : nx (i + 1) = zn at *
            have hNZ := Lib.hid hnz
            clear hnz
            generalize nx i = z at *
            generalize cs.getD i 0 = cv at *
            generalize bb.getD i 0 = bv at *
            generalize ba i = bi at *
            generalize hwo : wr.drewN nq = wo at *
            have hWo := Lib.hid hwo
            clear hwo
            by_cases hr : bv < cv
            · by_cases hz : z < 0
              · have hZn := Lib.hid (hnf.out (by omega) (by omega))
                clear hnn hnf hnm hnl hCc hbi
                go_wp2_with fail
                go_quiet (fail)
                go_wp2_with fail
                go_roundw
                case rel => exact ⟨i + 1, _, by omega, by go_num, by rw [hNZ.out, hZn.out], by rw [← hWo.out, World.drewN_drewN]⟩
                case measure => simp [intOf]; omega
              · obtain ⟨q, rfl⟩ := Int.eq_ofNat_of_zero_le (show 0 ≤ z by omega)
                obtain ⟨r1, r2⟩ := hCc.out q (by omega)
                have hqm : (q : Int) < (m : Int) := by omega
                have hbq := hBa.out q
                obtain ⟨⟨⟨t0, t1⟩, t2, t3⟩, -⟩ := hBy2.out q
                rw [Int.toNat_natCast] at hnm hnl
                generalize ba q = bq at *
                generalize cs.getD q 0 = cq at *
                generalize bb.getD q 0 = dq at *
                have hw1 : IntKind.i64.wrap (((k : Int) + 1) * cv) = ((k : Int) + 1) * cv := IntWalk.i64_in _ (by omega)
                have hw2 : IntKind.i64.wrap ((n : Int) * bv) = (n : Int) * bv := IntWalk.i64_in _ (by omega)
                have hw3 : IntKind.i64.wrap (((k : Int) + 1) * cv - (n : Int) * bv) = bi := by rw [hbi]; exact IntWalk.i64_in _ (by omega)
                have hw4 : IntKind.i64.wrap (((k : Int) + 1) * cq) = ((k : Int) + 1) * cq := IntWalk.i64_in _ (by omega)
                have hw5 : IntKind.i64.wrap ((n : Int) * dq) = (n : Int) * dq := IntWalk.i64_in _ (by omega)
                have hw6 : IntKind.i64.wrap (((k : Int) + 1) * cq - (n : Int) * dq) = bq := by rw [hbq]; exact IntWalk.i64_in _ (by omega)
                clear hbi hbq y0 y1 y2 y3 t0 t1 t2 t3
                by_cases hc : bq < bi
                · have hZn := Lib.hid (hnm.out (by omega) (by omega))
                  clear hnn hnf hnm hnl hCc
                  go_wp2_with fail
                  go_quiet (fail)
                  go_wp2_with fail
                  go_roundw
                  case rel => exact ⟨i + 1, _, by omega, by go_num, by rw [hNZ.out, hZn.out], by rw [← hWo.out, World.drewN_drewN]⟩
                  case measure => simp [intOf]; omega
                · have hZn := Lib.hid (hnl.out (by omega) (by omega))
                  clear hnn hnf hnm hnl hCc
                  go_wp2_with fail
                  go_quiet (fail)
                  go_wp2_with fail
                  go_roundw
                  case rel => exact ⟨i + 1, _, by omega, by go_num, by rw [hNZ.out, hZn.out], by rw [← hWo.out, World.drewN_drewN]⟩
                  case measure => simp [intOf]; omega
            · have hZn := Lib.hid (hnn.out (by omega))
              have hrd : decide (bv < cv) = false := by simp; omega
              clear hnn hnf hnm hnl hCc hbi
              go_wp2_with fail
              go_quiet (fail)
              go_wp2_with fail
              go_roundw
              case rel => exact ⟨i + 1, _, by omega, by go_num, by rw [hNZ.out, hZn.out], by rw [← hWo.out, World.drewN_drewN]⟩
              case measure => simp [intOf]; omega
          · obtain rfl : m = i := by omega
            rw [hJ.out]
            have hO6 := Lib.hid (ownsRow_drewN hO.out nq)
            have hY6 := Lib.hid (hY.out.below (w' := wr.drewN nq) (Lst.Below.drewN (Below.refl wr.heap.size wr) nq) hsz)
            have hL6 := Lib.hid (Lst.Below.drewN hL.out nq)
            have e8 : g2 + 1 ≤ (wr.drewN nq).heap.size := hsz
            obtain ⟨-, -, y0, y1⟩ := hBy2.out j
            clear hO hY hL hsz
            generalize wr.drewN nq = w6 at *
            have f2 : w6.cell? ⟨g2, j, none⟩ = some (.int .i64 (bb.getD j 0)) := row_cell hY6.out.1 (by rw [hlb.out]; exact hjm)
            have f3 : w6.frozen? ⟨g2, j, none⟩ = false := hY6.out.1.frozenAt j
            generalize hbj : bb.getD j 0 = bj at *
            have hBJ := Lib.hid hbj
            have hw1 : IntKind.i64.wrap (bj + 1) = bj + 1 := IntWalk.i64_in _ (by omega)
            have hs2 := row_set hY6.out.1 j (bj + 1)
            have hO7 := Lib.hid ((Own.new hO6.out (by unfold maxLen; omega)).beside hs2.2 (fun q hq => .inl (by cases hq; omega)) (Nat.le_refl _)).1
            generalize hw7 : w6.setCell ⟨g2, j, none⟩ (.int .i64 (bj + 1)) = w7 at *
            have hY7 := Lib.hid (show Own g2 (g2 + 1) w7 (.slice (some ⟨g2, 0, none⟩) m m) 2 1 m ((evenB cs n (k + 1)).map (Value.int .i64)) from ⟨by rw [hBv.out]; exact hs2.1, by unfold maxLen; omega, fun q hq => by cases hq; exact Nat.lt_succ_self _⟩)
            have hL7 := Lib.hid (hL6.out.grown hs2.2 (by omega) (fun q hq => by cases hq; omega))
            have e9 : g2 + 1 ≤ w7.heap.size := Nat.le_trans e8 hs2.2.size
            have hw8 : IntKind.i64.wrap ((k : Int) + 1 + 1) = (k : Int) + 1 + 1 := IntWalk.i64_in _ (by omega)
            clear hbj hs2 hO6 hY6 hL6
            go_wp2_with (at_builtin; refine wpList_append_own _ rfl _ _ _ rfl (g2 + 1) 2 i0 (.int .i64 0) 1 8 Try.underlying22 hi hz0 hz1 hz2 rfl (by decide) _ k _ rfl (hO7.out.alloc _) ⟨w7.heap.size, 0, none⟩ 1 1 [.int .i64 (j : Int)] rfl rfl (news1 w7 _ _) (one_num _) (by unfold maxLen; omega) (by omega) (grow_le e9 _) ?_; intro v8 w8 hown8 hgrow8 hnil8)
            have hB8 := Lib.hid (below_app hL7.out hO7.out hgrow8 (by omega) (by omega))
            have hO8 := Lib.hid (show w8.ownsRow (g2 + 1) 2 1 v8 (k + 1) ((evenTo cs n (k + 1)).map (Value.int .i64)) by rw [hEv.out, List.map_append]; exact hown8)
            have hY8 := Lib.hid ((hY7.out.below (w' := w7.alloc _) (below_alloc (Below.refl _ _) _) e9).beside hgrow8 (fun q hq => .inr (hO7.out.lt q hq).1) (grow_le e9 _))
            have e10 : g2 + 1 ≤ w8.heap.size := Nat.le_trans (grow_le e9 _) hgrow8.size
            clear hown8 hgrow8 hnil8
            go_roundw
            case rel => exact ⟨k + 1, by omega, by go_num, hO8, hY8, hB8, e10⟩
            case measure => simp [intOf]; omega
      · obtain rfl : n = k := by omega
        have hle : decide ((n : Int) + 1 ≤ (n : Int)) = false := by simp; omega
        have hR := Lib.hid (fun v ho => hP.out wr v ho hL.out)
        go_wp2_with fail
        first | exact hR.out _ hO.out | (go_ret2; exact hR.out _ hO.out)
theorem mixedOrder_both (cs : List Int) (_ : ∀ x ∈ cs, (Lit.int .i64 x).wf = true) : ∃ (r0 : List Int) (r1 : Bool), r0.length ≤ 1048576 ∧
    (∀ (B : Nat) (v1 : Value) (w : World), LstI B w v1 cs → B ≤ w.heap.size → Calls Try.prog 27 #[v1] w fun e w' => ∃ v', e = .returned (.tuple #[v', .bool r1]) ∧ Own w.heap.size w'.heap.size w' v' 2 1 r0.length (r0.map (Value.int .i64)) ∧ Below w.heap.size w w') ∧
    (∀ (B : Nat) (v1 : Value) (w : World), LstI B w v1 cs → B ≤ w.heap.size → Calls Try.prog 28 #[v1] w fun e w' => ∃ v', e = .returned (.tuple #[v', .bool r1]) ∧ Own w.heap.size w'.heap.size w' v' 2 1 r0.length (r0.map (Value.int .i64)) ∧ Below w.heap.size w w') :=
  ⟨evenRes cs, okCounts cs, evenRes_length cs, fun B v1 w h1 hB => specMixedOrder_any B v1 cs w h1 hB, fun B v1 w h1 hB => implMixedOrder_any B v1 cs w h1 hB⟩
end Go.Proofs.Ytfigojmdklaljaa
