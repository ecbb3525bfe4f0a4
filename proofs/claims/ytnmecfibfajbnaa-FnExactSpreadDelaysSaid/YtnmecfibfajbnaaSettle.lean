/- Contracts: the least numbers over arcs, in the program (begun). -/
import Derived.Test.YtnmecfibfajbnaaBlkImpl
import Derived.Test.YtnmecfibfajbnaaSpreadPure
import Derived.Test.YtnmecfibfajbnaaArrEq
namespace Go.Proofs.Ytnmecfibfajbnaa
open Go.RowKit Go.Lst

theorem fillI_put {f : Nat → Int} {n t : Nat} (h : t < n) (x : Int) : (fillI f n).set t x = fillI (fun v => if v = t then x else f v) n := by
  apply List.ext_getElem?
  intro z
  rw [List.getElem?_set, fillI_length]
  by_cases hz : z < n
  · rw [fillI_get hz, fillI_get hz]
    by_cases hk : t = z
    · subst hk; rw [if_pos rfl, if_pos h, if_pos rfl]
    · rw [if_neg hk, if_neg (fun e => hk e.symm)]
  · rw [if_neg (by omega), List.getElem?_eq_none (by rw [fillI_length]; omega), List.getElem?_eq_none (by rw [fillI_length]; omega)]
theorem lack_congr {R a b : Nat → Int} : ∀ n, (∀ v, v < n → a v = b v) → lack R a n = lack R b n
  | 0, _ => rfl
  | n + 1, h => by
    show lack R a n + _ = lack R b n + _
    rw [lack_congr n (fun v hv => h v (by omega)), h n (Nat.lt_succ_self n)]
def cellI (w : World) (g v : Nat) : Int := match w.cell? ⟨g, v, none⟩ with
  | some (.int _ x) => x
  | _ => 0
def twoRows (ls : List Int) (M : Nat) : Nat → List Int
  | 0 => ls
  | 1 => List.replicate M 0
  | _ => []
theorem twoRows_cat (ls : List Int) (M : Nat) : cat (twoRows ls M) 2 = ls ++ List.replicate M 0 := rfl
theorem arrayAt_run (g c : Nat) (w : World) : (Instr.arrayAt 108 (.slice (some ⟨g, 0, none⟩) 12 c)).run Try.prog w = .ok (.pointer (some ⟨g, 0, none⟩)) w := by
  simp [Instr.arrayAt, go_sem, Try.underlying108]
set_option maxHeartbeats 4000000 in
set_option maxRecDepth 100000 in
theorem settled_any (B : Nat) (v1 : Value) (ls : List Int) (b2 q cap2 : Nat) (F T : Nat → Nat) (D L X : Nat → Int) (w : World) (h1 : LstI B w v1 ls) (hB : B ≤ w.heap.size) (n1 : 1 ≤ ls.length) (n12 : ls.length ≤ 12) (hq : q ≤ 32) (hb2 : b2 < w.heap.size)
    (hc2 : ∀ i, i < q → w.cell? ⟨b2, i * 4, none⟩ = some (.int .i64 (F i)) ∧ w.cell? ⟨b2, i * 4 + 1, none⟩ = some (.int .i64 (T i)) ∧ w.cell? ⟨b2, i * 4 + 2, none⟩ = some (.int .i64 (D i)) ∧ ∃ z, w.cell? ⟨b2, i * 4 + 3, none⟩ = some (.int .i64 z))
    (hL : ls ++ List.replicate (12 - ls.length) 0 = fillI L 12) (hLX : ∀ v, L v ≤ X v) (hX : ∀ i, i < q → X (F i) + D i ≤ X (T i)) (hFT : ∀ i, i < q → F i < 12 ∧ T i < 12) (hbd : ∀ v, -1000000000 ≤ L v ∧ X v ≤ 1000000000) (hD : ∀ i, i < q → -1000000000 ≤ D i ∧ D i ≤ 1000000000) (hLeast : ∀ Y : Nat → Int, (∀ v, L v ≤ Y v) → (∀ i, i < q → Y (F i) + D i ≤ Y (T i)) → ∀ v, X v ≤ Y v) :
    Calls Try.prog 43 #[v1, .slice (some ⟨b2, 0, none⟩) q cap2] w fun e w' => ∃ v', e = .returned v' ∧ w'.ownsRow w.heap.size 2 1 v' ls.length ((fillI X ls.length).map (Value.int .i64)) ∧ Below w.heap.size w w' := by
  obtain ⟨b1, o1, cap1, rfl, hb1, hl1, hc1⟩ := cells_ofG h1 n1
  clear h1
  have hLi := Lib.hid hL
  have hLXh := Lib.hid hLX
  have hXh := Lib.hid hX
  have hFTh := Lib.hid hFT
  have hBdh := Lib.hid hbd
  have hDh := Lib.hid hD
  have hLeastH := Lib.hid hLeast
  clear hL hLX hX hFT hbd hD hLeast
  have hC1 := Lib.hid hc1
  have hC2 := Lib.hid hc2
  have hLs : Hid (∀ m, m = ls.length → m + (12 - m) = 12) := Lib.hid fun m hm => by omega
  generalize hn : ls.length = n at *
  have hNn := Lib.hid hn
  clear hc1 hc2 hn
  unfold maxLen at hl1
  obtain ⟨i0, hi, hz0, hz1, hz2⟩ := info_parts infoI
  have hw1 : IntKind.i64.wrap (12 - (n : Int)) = ((12 - n : Nat) : Int) := by rw [IntWalk.i64_in _ (by omega)]; omega
  generalize hMM : 12 - n = M at *
  have hM12 : M ≤ 12 := by omega
  go_enter Try.func43, Try.ntmps43
  go_wp2_with (at_make; refine wpList_make_full _ rfl _ _ _ rfl w.heap.size _ i0 (.int .i64 0) 1 Try.underlying23 hi hz0 hz1 _ _ _ _ M rfl rfl rfl rfl ?c1 ?c2 ?c3 ?_)
  case c1 => rw [hz2]; omega
  case c2 => unfold maxLen; omega
  case c3 => exact Nat.le_refl _
  intro w2 hown2 hg2
  have hB2 := Lib.hid ((Below.refl w.heap.size w).grown hg2 (Nat.le_refl _) (fun k hk => by cases hk))
  have hO2 := Lib.hid (zeros_row hown2)
  have hSz2 := Lib.hid (hO2.out.lt w.heap.size rfl).2
  clear hown2 hg2 hz0 hz1 hz2 hi
  generalize hgg : w.heap.size = g at *
  have hGG := Lib.hid hgg
  have hBg := Lib.hid hB
  clear hgg hB
  have hCat := Lib.hid (concat0_any w2.heap.size 0 2 2 (twoRows ls M) (w2.alloc (Obj.cells #[.slice (some ⟨b1, o1, none⟩) n cap1, .slice (some ⟨g, 0, none⟩) M M] 23)) (by rw [World.size_alloc]; omega) (by omega) (by omega) (by
    intro i hi
    have hx := Below.alloc (Below.refl w2.heap.size w2) (Nat.le_refl _) (Obj.cells #[.slice (some ⟨b1, o1, none⟩) n cap1, .slice (some ⟨g, 0, none⟩) M M] 23)
    have hwh := Whole.made w2 23 #[.slice (some ⟨b1, o1, none⟩) n cap1, .slice (some ⟨g, 0, none⟩) M M] rfl
    match i, hi with
    | 0, _ =>
      refine ⟨b1, o1, cap1, by rw [show (twoRows ls M 0).length = n from hNn.out]; exact hwh.at_ (i := 0) rfl, ?_, fun j x hj => ?_⟩
      · have := hBg.out; have := hSz2.out; rw [World.size_alloc]; omega
      · rw [hx.cell (p := ⟨b1, o1 + j, none⟩) (show b1 < w2.heap.size by have := hBg.out; have := hSz2.out; omega), hB2.out.cell (p := ⟨b1, o1 + j, none⟩) (show b1 < g by have := hBg.out; omega)]
        exact hC1.out j x hj
    | 1, _ =>
      refine ⟨g, 0, M, by rw [show (twoRows ls M 1).length = M from List.length_replicate]; exact hwh.at_ (i := 1) rfl, ?_, fun j x hj => ?_⟩
      · have := hSz2.out; rw [World.size_alloc]; omega
      · have hjM : j < M := by
          have := (List.getElem?_eq_some_iff.1 hj).1
          rw [show (twoRows ls M 1).length = M from List.length_replicate] at this; exact this
        rw [Nat.zero_add, (hO2.out.alloc _).cellAt j (by omega), List.getElem?_map, show (List.replicate M (0 : Int))[j]? = some x from hj]; rfl) (by
    intro i hi
    match i, hi with
    | 0, _ => rw [show (twoRows ls M 0).length = n from hNn.out]; omega
    | 1, _ => rw [show (twoRows ls M 1).length = M from List.length_replicate]; omega) (by rw [twoRows_cat, List.length_append, hNn.out]; omega))
  rw [show cat (twoRows ls M) 2 = ls ++ List.replicate M 0 from twoRows_cat ls M, show (ls ++ List.replicate M (0 : Int)).length = 12 by rw [List.length_append, List.length_replicate, hNn.out]; omega] at hCat
  have hB3 := Lib.hid (hB2.out.alloc (Nat.le_of_lt hSz2.out) (Obj.cells #[.slice (some ⟨b1, o1, none⟩) n cap1, .slice (some ⟨g, 0, none⟩) M M] 23))
  have hS3 := Lib.hid (hB3.out.size)
  clear hB2 hSz2 hO2
  go_wp2_with (go_at_call 73; (with_reducible refine (hCat.out).mono ?_); rintro e w4 ⟨v4, rfl, ho4, hb4⟩; have hO4 := Lib.hid ho4; have hB4 := Lib.hid hb4; clear ho4 hb4)
  generalize w2.alloc _ = w3 at *
  obtain ⟨gn, cn, rfl, hgn⟩ := row_openG hO4.out (by omega)
  have hO5 := Lib.hid (show w4.ownsRow g 2 1 (.slice (some ⟨gn, 0, none⟩) 12 cn) 12 ((fillI L 12).map (Value.int .i64)) by rw [← hLi.out]; exact ownsRow_mono hO4.out (by have := hS3.out; rw [hGG.out] at this; exact this))
  have hB5 := Lib.hid (show Below g w w4 from below_on hB3.out (Nat.le_of_eq hGG.out.symm) hB4.out)
  have hS5 := Lib.hid (hO4.out.lt gn rfl).2
  clear hO4 hB4 hB3 hS3 hCat hgn
  go_loopw [6] (fun _ wr => ∃ st : Nat → Int, Hid (∀ v, L v ≤ st v ∧ st v ≤ X v) ∧ Hid (wr.ownsRow g 2 1 (.slice (some ⟨gn, 0, none⟩) 12 cn) 12 ((fillI st 12).map (Value.int .i64))) ∧ Hid (Below g w wr) ∧ Hid (gn < wr.heap.size)) (fun _ wr => lack X (cellI wr gn) 12)
  case atStart => exact ⟨L, Lib.hid (fun v => ⟨Int.le_refl _, hLXh.out v⟩), hO5, hB5, hS5⟩
  case round =>
    clear hO5 hB5 hS5
    obtain ⟨st, hIn, hO, hBb, hS⟩ := hrel
    have cj : ∀ j, j < 12 → wr.cell? ⟨gn, j, none⟩ = some (.int .i64 (st j)) := fun j hj => by rw [row_cell hO.out (by rw [fillI_length]; exact hj), getD_of (fillI_get hj)]
    have hMeas := Lib.hid (lack_congr (R := X) (a := cellI wr gn) (b := st) 12 (fun v hv => by unfold cellI; rw [cj v hv]))
    have c0 := cj 0 (by omega)
    have c1 := cj 1 (by omega)
    have c2 := cj 2 (by omega)
    have c3 := cj 3 (by omega)
    have c4 := cj 4 (by omega)
    have c5 := cj 5 (by omega)
    have c6 := cj 6 (by omega)
    have c7 := cj 7 (by omega)
    have c8 := cj 8 (by omega)
    have c9 := cj 9 (by omega)
    have c10 := cj 10 (by omega)
    have c11 := cj 11 (by omega)
    clear cj
    have har := fun w' => arrayAt_run gn cn w'
    go_wp2_with fail
    have hW0 := Lib.hid (Whole.made wr 108 #[.int .i64 (st 0), .int .i64 (st 1), .int .i64 (st 2), .int .i64 (st 3), .int .i64 (st 4), .int .i64 (st 5), .int .i64 (st 6), .int .i64 (st 7), .int .i64 (st 8), .int .i64 (st 9), .int .i64 (st 10), .int .i64 (st 11)] rfl)
    have hgw : g ≤ wr.heap.size := by have := hBb.out.size; rw [hGG.out] at this; exact this
    have hO6 := Lib.hid (hO.out.alloc (.cells #[.int .i64 (st 0), .int .i64 (st 1), .int .i64 (st 2), .int .i64 (st 3), .int .i64 (st 4), .int .i64 (st 5), .int .i64 (st 6), .int .i64 (st 7), .int .i64 (st 8), .int .i64 (st 9), .int .i64 (st 10), .int .i64 (st 11)] 108))
    have hB6 := Lib.hid (hBb.out.alloc hgw (.cells #[.int .i64 (st 0), .int .i64 (st 1), .int .i64 (st 2), .int .i64 (st 3), .int .i64 (st 4), .int .i64 (st 5), .int .i64 (st 6), .int .i64 (st 7), .int .i64 (st 8), .int .i64 (st 9), .int .i64 (st 10), .int .i64 (st 11)] 108))
    have hgb := hS.out
    generalize hba : wr.heap.size = ba at *
    clear c0 c1 c2 c3 c4 c5 c6 c7 c8 c9 c10 c11 hO hBb hS
    generalize wr.alloc _ = w6 at *
    go_loopw [21] (fun kv wq => ∃ k : Nat, k ≤ q ∧ kv = .int .i64 k ∧ Hid (wq.ownsRow g 2 1 (.slice (some ⟨gn, 0, none⟩) 12 cn) 12 ((fillI (pass F T D st k) 12).map (Value.int .i64))) ∧ Hid (Below g w wq) ∧ Hid (Whole wq ba 108 #[.int .i64 (st 0), .int .i64 (st 1), .int .i64 (st 2), .int .i64 (st 3), .int .i64 (st 4), .int .i64 (st 5), .int .i64 (st 6), .int .i64 (st 7), .int .i64 (st 8), .int .i64 (st 9), .int .i64 (st 10), .int .i64 (st 11)])) (fun kv _ => q - (intOf kv).toNat)
    case atStart => exact ⟨0, Nat.zero_le _, rfl, hO6, hB6, hW0⟩
    case round =>
      clear hO6 hB6 hW0
      obtain ⟨k, hk, rfl, hO, hBb, hW⟩ := hrel
      by_cases hlk : k < q
      · obtain ⟨p0, p1, p2, zz, p3⟩ := hC2.out k hlk
        rw [← hBb.out.cell (p := ⟨b2, k * 4, none⟩) hb2] at p0
        rw [← hBb.out.cell (p := ⟨b2, k * 4 + 1, none⟩) hb2] at p1
        rw [← hBb.out.cell (p := ⟨b2, k * 4 + 2, none⟩) hb2] at p2
        rw [← hBb.out.cell (p := ⟨b2, k * 4 + 3, none⟩) hb2] at p3
        obtain ⟨f12, t12⟩ := hFTh.out k hlk
        have hin : ∀ v, L v ≤ pass F T D st k v ∧ pass F T D st k v ≤ X v := fun v => ⟨Int.le_trans (hIn.out v).1 (pass_ge F T D st v 0 k (Nat.zero_le _)), pass_le (fun v => (hIn.out v).2) hXh.out k hk v⟩
        have hbF := hin (F k)
        have hbT := hin (T k)
        have hcF := hBdh.out (F k)
        have hcT := hBdh.out (T k)
        have hdD := hDh.out k hlk
        have hcell : ∀ v, v < 12 → wr.cell? ⟨gn, v, none⟩ = some (.int .i64 (pass F T D st k v)) := fun v hv => by rw [row_cell hO.out (by rw [fillI_length]; exact hv), getD_of (fillI_get hv)]
        have qF := hcell (F k) f12
        have qT := hcell (T k) t12
        have hst : ((fillI (pass F T D st k) 12).set (T k) (if pass F T D st k (T k) < pass F T D st k (F k) + D k then pass F T D st k (F k) + D k else pass F T D st k (T k))) = fillI (pass F T D st (k + 1)) 12 := by
          rw [mx_eq]; exact fillI_put t12 _
        have hszz : g ≤ wr.heap.size := by have := hBb.out.size; rw [hGG.out] at this; exact this
        have hO7 := hO.out.alloc (.cells #[.int .i64 (F k), .int .i64 (T k), .int .i64 (D k), .int .i64 zz] 67)
        have hB7 := hBb.out.alloc hszz (.cells #[.int .i64 (F k), .int .i64 (T k), .int .i64 (D k), .int .i64 zz] 67)
        have hW7 := hW.out.more (.cells #[.int .i64 (F k), .int .i64 (T k), .int .i64 (D k), .int .i64 zz] 67)
        have hX7 := Whole.made wr 67 #[.int .i64 (F k), .int .i64 (T k), .int .i64 (D k), .int .i64 zz] rfl
        have hgb7 : gn ≠ wr.heap.size := by have := hW.out.size; omega
        have hbw : ba ≠ gn := by omega
        have hpk := Lib.hid hst
        clear hst hin hcell
        go_wp2_with fail
        have g0 := hX7.at_ (i := 0) rfl
        have g1 := hX7.at_ (i := 1) rfl
        have g2 := hX7.at_ (i := 2) rfl
        have hg9 : gn < wr.heap.size := by have := hW.out.size; omega
        have qF7 := (Below.cell (Below.alloc (Below.refl wr.heap.size wr) (Nat.le_refl _) (.cells #[.int .i64 (F k), .int .i64 (T k), .int .i64 (D k), .int .i64 zz] 67)) (p := ⟨gn, F k, none⟩) hg9).trans qF
        have qT7 := (Below.cell (Below.alloc (Below.refl wr.heap.size wr) (Nat.le_refl _) (.cells #[.int .i64 (F k), .int .i64 (T k), .int .i64 (D k), .int .i64 zz] 67)) (p := ⟨gn, T k, none⟩) hg9).trans qT
        have hfr7 := hO7.frozenAt (T k)
        have hO8 := Lib.hid hO7
        have hB8 := Lib.hid hB7
        have hW8 := Lib.hid hW7
        clear hO7 hB7 hW7 hX7 qF qT hO hBb hW p0 p1 p2 p3
        generalize wr.alloc _ = w8 at *
        generalize pass F T D st k (T k) = a at *
        generalize pass F T D st k (F k) = bb at *
        generalize D k = d at *
        generalize F k = fk at *
        generalize hTk : T k = tk at *
        clear hTk
        have hws : IntKind.i64.wrap (bb + d) = bb + d := IntWalk.i64_in _ (by omega)
        have k1 : (fk : Int) < 12 := by omega
        have k2 : (tk : Int) < 12 := by omega
        go_still_tail 18, (by kernel_rfl)
        change wpList _ _ _ _ _ w8.drew
        have hO9 := hO8.out.drew
        have hB9 := hB8.out.drew
        have hW9 : Whole w8.drew ba 108 _ := hW8.out
        have qT9 : w8.drew.cell? ⟨gn, tk, none⟩ = some (.int .i64 a) := qT7
        have fr9 : w8.drew.frozen? ⟨gn, tk, none⟩ = false := hfr7
        generalize w8.drew = w9 at *
        have hst9 := row_set hO9 tk (if a < bb + d then bb + d else a)
        have hggn : g ≤ gn := (hO9.lt gn rfl).1
        have hO10 := Lib.hid (show (w9.setCell ⟨gn, tk, none⟩ (.int .i64 (if a < bb + d then bb + d else a))).ownsRow g 2 1 (.slice (some ⟨gn, 0, none⟩) 12 cn) 12 ((fillI (pass F T D st (k + 1)) 12).map (Value.int .i64)) by rw [← hpk.out]; exact hst9.1)
        have hB10 := Lib.hid (hB9.setCell (p := ⟨gn, tk, none⟩) hggn (.int .i64 (if a < bb + d then bb + d else a)))
        have hW10 := Lib.hid (hW9.apart (p := ⟨gn, tk, none⟩) hbw (.int .i64 (if a < bb + d then bb + d else a)))
        clear hst9 hO9 hB9 hW9 hO8 hB8 hW8 qF7 qT7 hfr7 g0 g1 g2 hws hpk
        go_wp2_with fail
        go_roundw
        case rel => exact ⟨k + 1, by omega, by go_num, hO10, hB10, hW10⟩
        case measure => simp [intOf]; omega
      · obtain rfl : q = k := by omega
        have hin : ∀ v, L v ≤ pass F T D st q v ∧ pass F T D st q v ≤ X v := fun v => ⟨Int.le_trans (hIn.out v).1 (pass_ge F T D st v 0 q (Nat.zero_le _)), pass_le (fun v => (hIn.out v).2) hXh.out q hk v⟩
        have hge : ∀ v, st v ≤ pass F T D st q v := fun v => pass_ge F T D st v 0 q (Nat.zero_le _)
        generalize hps : pass F T D st q = ps at *
        have hcell : ∀ v, v < 12 → wr.cell? ⟨gn, v, none⟩ = some (.int .i64 (ps v)) := fun v hv => by rw [row_cell hO.out (by rw [fillI_length]; exact hv), getD_of (fillI_get hv)]
        have c0 := hcell 0 (by omega)
        have c1 := hcell 1 (by omega)
        have c2 := hcell 2 (by omega)
        have c3 := hcell 3 (by omega)
        have c4 := hcell 4 (by omega)
        have c5 := hcell 5 (by omega)
        have c6 := hcell 6 (by omega)
        have c7 := hcell 7 (by omega)
        have c8 := hcell 8 (by omega)
        have c9 := hcell 9 (by omega)
        have c10 := hcell 10 (by omega)
        have c11 := hcell 11 (by omega)
        have a0 := hW.out.at_ (i := 0) rfl
        have a1 := hW.out.at_ (i := 1) rfl
        have a2 := hW.out.at_ (i := 2) rfl
        have a3 := hW.out.at_ (i := 3) rfl
        have a4 := hW.out.at_ (i := 4) rfl
        have a5 := hW.out.at_ (i := 5) rfl
        have a6 := hW.out.at_ (i := 6) rfl
        have a7 := hW.out.at_ (i := 7) rfl
        have a8 := hW.out.at_ (i := 8) rfl
        have a9 := hW.out.at_ (i := 9) rfl
        have a10 := hW.out.at_ (i := 10) rfl
        have a11 := hW.out.at_ (i := 11) rfl
        have hOr := Lib.hid hO.out
        have hInP := Lib.hid hin
        have hGe := Lib.hid hge
        have har := fun w' => arrayAt_run gn cn w'
        have hae := fun w' => arr_eq st ps w'
        clear hcell hO hW hin hge
        have hcap : 12 ≤ cn := by
          obtain ⟨a', c', hv, _, e1, e2, _⟩ := (Own.new hOr.out (by unfold maxLen; decide)).lstK (Nat.le_refl _)
          injection hv with q1 q2 q3
          subst q3
          exact e1
        have hgs2 : gn < wr.heap.size := (hOr.out.lt gn rfl).2
        cases hsm : same12 st ps
        · rw [hsm] at hae
          have hne : ∃ v, v < 12 ∧ st v ≠ ps v := by
            apply Classical.byContradiction
            intro hno
            have : same12 st ps = true := same12_iff.2 fun v hv => Classical.byContradiction fun h => hno ⟨v, hv, h⟩
            rw [hsm] at this; cases this
          obtain ⟨v0, hv0, hne0⟩ := hne
          have hLt := Lib.hid (lack_lt (R := X) (a := st) (b := ps) hGe.out (fun v => (hInP.out v).2) hne0 12 hv0)
          have hMq : Hid (∀ j, lack X (cellI (wr.drewN j) gn) 12 = lack X ps 12) := Lib.hid fun j => lack_congr 12 (fun v hv => by
            unfold cellI
            rw [World.cell?_drewN, row_cell hOr.out (by rw [fillI_length]; exact hv), getD_of (fillI_get hv)])
          clear hne0 hv0
          go_wp2_with fail
          go_quiet (fail)
          have hO11 := Lib.hid (ownsRow_drewN hOr.out nq)
          have hB11 := Lib.hid (Lst.Below.drewN hBb.out nq)
          go_wp2_with fail
          go_roundw
          case rel => exact ⟨ps, hInP, hO11, hB11, Lib.hid hgs2⟩
          case measure => rw [hMq.out, hMeas.out]; exact hLt.out
        · rw [hsm] at hae
          have hsame := same12_iff.1 hsm
          have hclo : ∀ i, i < q → st (F i) + D i ≤ st (T i) := fun i hi => pass_closed (fun j hj => by rw [hps]; exact (hsame (T j) (hFTh.out j hj).2).symm) hi
          have hXs := hLeastH.out st (fun v => (hIn.out v).1) hclo
          have hfin : fillI ps n = fillI X n := fillI_eq fun v hv => by
            have := hsame v (by omega)
            have := hXs v
            have := (hIn.out v).2
            omega
          have hCl := Lib.hid (fun j => cloneG_any gn 0 cn n (fillI ps n) (wr.drewN j) hgs2 (fillI_length _ _) n1 (by omega) (fun z x hz => by
            have hzn : z < n := by have := (List.getElem?_eq_some_iff.1 hz).1; rw [fillI_length] at this; exact this
            rw [Nat.zero_add, World.cell?_drewN, row_cell hOr.out (by rw [fillI_length]; omega), getD_of (fillI_get (show z < 12 by omega))]
            rw [fillI_get hzn] at hz; rw [Option.some.inj hz]))
          have hncn : n ≤ cn := by omega
          have hncI : (n : Int) ≤ (cn : Int) := by omega
          have hFin : Hid (∀ j w' v', w'.ownsRow (wr.drewN j).heap.size 2 1 v' n ((fillI ps n).map (Value.int .i64)) → Below (wr.drewN j).heap.size (wr.drewN j) w' → w'.ownsRow g 2 1 v' n ((fillI X n).map (Value.int .i64)) ∧ Below g w w') := Lib.hid fun j w' v' ho hb => by
            have hsz : g ≤ (wr.drewN j).heap.size := by have := hBb.out.size; rw [hGG.out] at this; exact this
            refine ⟨?_, below_on (Lst.Below.drewN hBb.out j) (Nat.le_of_eq hGG.out.symm) hb⟩
            rw [← hfin]
            exact ownsRow_mono ho hsz
          clear hsame hclo hXs hfin
          go_wp2_with fail
          go_quiet (fail)
          go_wp2_with (go_at_call 74; (with_reducible refine (hCl.out nq).mono ?_); rintro e w5 ⟨g5, c5, rfl, hg5, ho5, hb5⟩; have hR5 := Lib.hid (hFin.out nq w5 _ ho5 hb5); clear ho5 hb5 hg5)
          go_ret
          exact ⟨_, rfl, by rw [hGG.out]; exact hR5.out⟩
end Go.Proofs.Ytnmecfibfajbnaa
