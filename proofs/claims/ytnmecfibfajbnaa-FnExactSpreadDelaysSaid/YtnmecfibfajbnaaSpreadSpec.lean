/- Contracts: delays that are spread, in the model. -/
import Derived.Test.YtnmecfibfajbnaaSpreadImpl
namespace Go.Proofs.Ytnmecfibfajbnaa
open Go.RowKit Go.Lst

set_option maxHeartbeats 8000000 in
set_option maxRecDepth 100000 in
theorem specSpread_yes (B : Nat) (e : Int) (v v2 : Value) (xs : List RuleD) (ls : List Int) (w : World) (h : LstRule B w v xs) (hT : LstI B w v2 ls) (hB : B ≤ w.heap.size) (hq : canSpread e xs ls = true) :
    Calls Try.prog 10 #[.int .i64 e, v, v2] w (ListPost (sprRes e xs ls) true w) := by
  obtain ⟨f1, f2, f3, f4, n1, n12, q32, fx, fv⟩ := spread_facts hq
  have hA := Lib.hid (l05Rules_any B e 60 v xs w h)
  rw [f1] at hA
  have hP : Hid (∀ w2 A v', w.heap.size ≤ A → w2.ownsRow A 2 1 v' ls.length ((fillI (sprAt xs ls) ls.length).map (Value.int .i64)) → Below w.heap.size w w2 → ListPost (sprRes e xs ls) true w (.returned (.tuple #[v', .bool true])) w2) := Lib.hid fun w2 A v' hA ho hb => by
    have hres : sprRes e xs ls = fillI (sprAt xs ls) ls.length := by unfold sprRes; rw [if_pos hq]
    rw [hres]
    exact list_yes rfl hA (fillI_length _ _) ho (by omega) hb
  obtain ⟨ST, hST⟩ : ∃ ST : Nat → Nat → Nat → Int, ST = fun to i => sprIn (rF xs) (rT xs) (rD xs) to (spr (rF xs) (rT xs) (rD xs) xs.length (fun v => ls.getD v 0) to) i := ⟨_, rfl⟩
  have hX1000 : ∀ i, i < xs.length → (1000 : Int) + rD xs i ≤ 1000 := fun i hi => by
    have := fx i xs[i] (List.getElem?_eq_getElem hi)
    rw [rD_at (List.getElem?_eq_getElem hi)]; omega
  have hBd : Hid (∀ to i v, i ≤ xs.length → 0 ≤ ST to i v ∧ ST to i v ≤ 1000) := Lib.hid fun to i v hi => by
    subst hST
    have a1 := spr_ge (rF xs) (rT xs) (rD xs) xs.length (fun v => ls.getD v 0) v to
    have a2 := sprIn_ge (rF xs) (rT xs) (rD xs) to (spr (rF xs) (rT xs) (rD xs) xs.length (fun v => ls.getD v 0) to) v 0 i (Nat.zero_le _)
    have a3 := sprIn_le (X := fun _ => 1000) (F := rF xs) (T := rT xs) (D := rD xs) (to := to) (q := xs.length) (st := spr (rF xs) (rT xs) (rD xs) xs.length (fun v => ls.getD v 0) to) (spr_le (X := fun _ => 1000) (fun v => (fv v).2) hX1000 to) hX1000 i hi v
    have a4 := (fv v).1
    exact ⟨Int.le_trans a4 (Int.le_trans a1 a2), a3⟩
  have hOther : Hid (∀ to i x, xs[i]? = some x → (x.To == ((to : Nat) : Int)) = false → ST to (i + 1) = ST to i) := Lib.hid fun to i x hx hne => by
    subst hST
    have := fx i x hx
    rw [beq_eq_false_iff_ne] at hne
    show relaxTo _ _ _ to i _ = _
    unfold relaxTo
    rw [if_neg (by rw [rT_at hx]; omega)]
  have hSame : Hid (∀ to i x, xs[i]? = some x → (x.To == ((to : Nat) : Int)) = true → to < ls.length ∧ x.From.toNat < ls.length ∧ ((x.From.toNat : Nat) : Int) = x.From ∧ (fillI (ST to i) ls.length).set to (max (ST to i to) (ST to i x.From.toNat - (x.Most - x.Least))) = fillI (ST to (i + 1)) ls.length) := Lib.hid fun to i x hx he => by
    have := fx i x hx
    rw [beq_iff_eq] at he
    refine ⟨by omega, by omega, by omega, ?_⟩
    subst hST
    have ht : rT xs i = to := by rw [rT_at hx]; omega
    rw [fillI_put (by omega)]
    apply congrArg (fun f => fillI f ls.length)
    show _ = relaxTo _ _ _ to i _
    unfold relaxTo
    rw [if_pos ht]
    unfold relax
    rw [ht, rF_at hx, rD_at hx]
    have hd : ∀ z : Int, z - (x.Most - x.Least) = z + (x.Least - x.Most) := fun z => by omega
    rw [hd]
  have hNext : Hid (∀ to, ST (to + 1) 0 = ST to xs.length) := Lib.hid fun to => by subst hST; rfl
  have hEnd : Hid (ST ls.length 0 = sprAt xs ls) := Lib.hid (by subst hST; rfl)
  have hBeg : Hid (fillI (ST 0 0) ls.length = ls) := Lib.hid (by
    subst hST
    have := list_fill ls ls.length (Nat.le_refl _)
    rw [Nat.sub_self, List.replicate_zero, List.append_nil] at this
    exact this.symm)
  obtain ⟨a, cap, rfl, hl, _, _, hc⟩ := h.at_
  obtain ⟨b2, o2, cap2, rfl, hb2, hl2, hc2⟩ := cells_ofG hT n1
  have hC := Lib.hid hc
  have hC2 := Lib.hid hc2
  have hIn : Hid (∀ (i : Nat) (x : Int), ls[i]? = some x → inB x 0 1000 = true) := Lib.hid fun i x hx => by
    have := allIn_of f4 hx
    simp [inB]; omega
  have hX : Hid (∀ (i : Nat) (x : RuleD), xs[i]? = some x → decide (x.To ≤ x.From) = false ∧ 0 ≤ x.Most - x.Least ∧ x.Most - x.Least ≤ 118) := Lib.hid fun i x hx => by
    have := fx i x hx
    exact ⟨decide_eq_false (by omega), by omega, by omega⟩
  have hGet : Hid (∀ i, i < ls.length → ∃ x, ls[i]? = some x) := Lib.hid fun i hi => ⟨_, List.getElem?_eq_getElem hi⟩
  have hSrcL := Lib.hid (ints_cellG ls)
  have hLM : (ls.map (Value.int .i64)).length = ls.length * 1 := by rw [List.length_map, Nat.mul_one]
  clear h hT hc hc2 fx fv f1 f2 f4 hq hX1000 hST
  have hbne : ((ls.length : Int) != e) = false := by rw [bne_eq_false_iff_eq]; exact f3
  generalize ListPost (sprRes e xs ls) true w = Q at *
  generalize sprAt xs ls = SA at *
  generalize xs.length = q at *
  generalize hnn : ls.length = n at *
  have hNn := Lib.hid hnn
  clear hnn
  subst f3
  unfold maxLen at hl hl2
  obtain ⟨i0, hi, hz0, hz1, hz2⟩ := info_parts infoI
  go_enter Try.func10, Try.ntmps10
  go_wp2_with (go_at_call 35; (with_reducible refine (hA.out).mono ?_); rintro e' w1 ⟨j1, rfl, rfl⟩)
  have hB1 := Lib.hid (below_drawn w j1)
  have hC2b := Lib.hid (fun (k : Nat) (x : Int) (hx : ls[k]? = some x) => (show (w.drewN j1).cell? ⟨b2, o2 + k, none⟩ = some (.int .i64 x) by rw [World.cell?_drewN]; exact hC2.out k x hx))
  have hsz1 : (w.drewN j1).heap.size = w.heap.size := rfl
  generalize hW1 : w.drewN j1 = W1 at *
  go_loopw [25] (fun iv wr => ∃ k : Nat, k ≤ n ∧ iv = .int .i64 k ∧ wr = W1) (fun iv _ => n - (intOf iv).toNat)
  case atStart => exact ⟨0, Nat.zero_le _, rfl, rfl⟩
  case round =>
    obtain ⟨k, hk, rfl, rfl⟩ := hrel
    by_cases hlt : k < n
    · obtain ⟨x, hx⟩ := hGet.out k hlt
      have p0 := hC2b.out k x hx
      have hqx := hIn.out k x hx
      have hkn : (k : Int) < (n : Int) := by omega
      clear hx
      go_wp2_with (go_at_call 36; refine (l00In_any _ _ _ _).mono ?_; rintro e' w' ⟨rfl, rfl⟩)
      go_roundw
      case rel => exact ⟨k + 1, by omega, by go_num, by trivial⟩
      case measure => simp [intOf]; omega
    · obtain rfl : n = k := by omega
      clear hGet hIn
      go_wp2_with fail
      go_loopw [37] (fun iv wq => ∃ k j : Nat, k ≤ q ∧ iv = .int .i64 k ∧ wq = wr.drewN j) (fun iv _ => q - (intOf iv).toNat)
      case atStart => exact ⟨0, 0, Nat.zero_le _, rfl, rfl⟩
      case round =>
        obtain ⟨k, j, hk, rfl, rfl⟩ := hrel
        by_cases hlk : k < q
        · obtain ⟨b, o, x, rfl, hb, hx, r0, r1, r2, r3⟩ := hC.out k hlk
          have hbw : b < w.heap.size := Nat.lt_of_lt_of_le hb hB
          rw [← hB1.out.cell (p := ⟨b, o + k * 4, none⟩) hbw, ← World.cell?_drewN (n := j)] at r0
          rw [← hB1.out.cell (p := ⟨b, o + k * 4 + 1, none⟩) hbw, ← World.cell?_drewN (n := j)] at r1
          obtain ⟨x1, _, _⟩ := hX.out k x hx
          have hkq : (k : Int) < (q : Int) := by omega
          clear hx r2 r3
          generalize hwj : wr.drewN j = wj at *
          have hWj := Lib.hid hwj
          clear hwj
          generalize x.From = fr at *
          generalize x.To = to_ at *
          go_wp2_with fail
          go_quiet (fail)
          go_wp2_with fail
          go_roundw
          case rel => exact ⟨k + 1, _, by omega, by go_num, by rw [← hWj.out, World.drewN_drewN]⟩
          case measure => simp [intOf]; omega
        · obtain rfl : q = k := by omega
          have hB5 := Lib.hid (Lst.Below.drewN hB1.out j)
          have hC5 : Hid (∀ (k : Nat) (x : Int), ls[k]? = some x → (wr.drewN j).cell? ⟨b2, o2 + k, none⟩ = some (.int .i64 x)) := Lib.hid fun k x hx => by rw [World.cell?_drewN]; exact hC2b.out k x hx
          have hsz5 := Lib.hid (show (wr.drewN j).heap.size = w.heap.size from hsz1)
          clear hsz1 hC2b hB1
          generalize wr.drewN j = w5 at *
          have hB0 : Below w5.heap.size w5 (w5.alloc (Obj.cells #[] 2)) := below_alloc (Below.refl _ _) _
          have hO0 : (w5.alloc (Obj.cells #[] 2)).ownsRow w5.heap.size 2 1 (.slice (some ⟨w5.heap.size, 0, none⟩) 0 0) 0 [] := World.ownsRow_lit w5 #[] 0 (Nat.le_refl _) (Nat.zero_le _) rfl
          have hSrc := Lib.hid (src_cells (w := w5.alloc (Obj.cells #[] 2)) (b := b2) (o := o2) (xs := ls) (fun k x hx => by rw [hB0.cell (p := ⟨b2, o2 + k, none⟩) (show b2 < w5.heap.size by rw [hsz5.out]; omega)]; exact hC5.out k x hx))
          have hle : w5.heap.size ≤ (w5.alloc (Obj.cells #[] 2)).heap.size := hB0.size
          have hB0h := Lib.hid hB0
          clear hB0
          go_wp2_with (at_builtin; refine wpList_append_own _ rfl _ _ _ rfl w5.heap.size 2 i0 (.int .i64 0) 1 8 Try.underlying23 hi hz0 hz1 hz2 rfl (by decide) _ 0 _ rfl hO0 ⟨b2, o2, none⟩ n cap2 (ls.map (Value.int .i64)) rfl hLM hSrc.out hSrcL.out (by unfold maxLen; omega) (by omega) hle ?_; intro v8 w8 hown8 hgrow8 hnil8; have hO8 := Lib.hid hown8; have hB8 := Lib.hid (hB0h.out.grown hgrow8 hle (fun g hg => by cases hg; exact Nat.le_refl _)); clear hown8 hgrow8 hnil8)
          have hO9 := hO8.out
          rw [Nat.zero_add, List.nil_append, ← hBeg.out] at hO9
          obtain ⟨g, c8, rfl, hg⟩ := row_openG hO9 n1
          have hO10 := Lib.hid (ownsRow_mono hO9 (Nat.le_of_eq hsz5.out.symm))
          have hB10 := Lib.hid (below_on hB5.out (Nat.le_refl _) hB8.out)
          have hgw := Lib.hid (show w.heap.size ≤ g by rw [← hsz5.out]; exact hg)
          clear hO0 hO8 hO9 hB0h hB8 hg hSrc hle hLM hSrcL hC5 hB5 hsz5
          go_loopw [11] (fun tv wq => ∃ to : Nat, to ≤ n ∧ tv = .int .i64 to ∧ Hid (wq.ownsRow w.heap.size 2 1 (.slice (some ⟨g, 0, none⟩) n c8) n ((fillI (ST to 0) n).map (Value.int .i64))) ∧ Hid (Below w.heap.size w wq)) (fun tv _ => n - (intOf tv).toNat)
          case atStart => exact ⟨0, Nat.zero_le _, rfl, hO10, hB10⟩
          case round =>
            clear hO10 hB10
            obtain ⟨to, hto, rfl, hO, hBb⟩ := hrel
            by_cases htn : to < n
            · have htI : (to : Int) < (n : Int) := by omega
              have hOth := Lib.hid (hOther.out to)
              have hSam := Lib.hid (hSame.out to)
              have hNx := Lib.hid (hNext.out to)
              have hBt := Lib.hid (hBd.out to)
              go_wp2_with fail
              go_loopw [62] (fun iv wq => ∃ i : Nat, i ≤ q ∧ iv = .int .i64 i ∧ Hid (wq.ownsRow w.heap.size 2 1 (.slice (some ⟨g, 0, none⟩) n c8) n ((fillI (ST to i) n).map (Value.int .i64))) ∧ Hid (Below w.heap.size w wq)) (fun iv _ => q - (intOf iv).toNat)
              case atStart => exact ⟨0, Nat.zero_le _, rfl, hO, hBb⟩
              case round =>
                clear hO hBb
                obtain ⟨i, hi2, rfl, hO, hBb⟩ := hrel
                by_cases hiq : i < q
                · obtain ⟨b, o, x, rfl, hb, hx, r0, r1, r2, r3⟩ := hC.out i hiq
                  have hbw : b < w.heap.size := Nat.lt_of_lt_of_le hb hB
                  rw [← hBb.out.cell (p := ⟨b, o + i * 4, none⟩) hbw] at r0
                  rw [← hBb.out.cell (p := ⟨b, o + i * 4 + 1, none⟩) hbw] at r1
                  rw [← hBb.out.cell (p := ⟨b, o + i * 4 + 2, none⟩) hbw] at r2
                  rw [← hBb.out.cell (p := ⟨b, o + i * 4 + 3, none⟩) hbw] at r3
                  have hiI : (i : Int) < (q : Int) := by omega
                  cases he : (x.To == (to : Int))
                  · have hR := hOth.out i x hx he
                    have hO4 := Lib.hid (show wr.ownsRow w.heap.size 2 1 (.slice (some ⟨g, 0, none⟩) n c8) n ((fillI (ST to (i + 1)) n).map (Value.int .i64)) by rw [hR]; exact hO.out)
                    clear hx hR hO
                    go_wp2_with fail
                    go_roundw
                    case rel => exact ⟨i + 1, by omega, by go_num, hO4, hBb⟩
                    case measure => simp [intOf]; omega
                  · obtain ⟨t1, t2, t3, hset⟩ := hSam.out i x hx he
                    obtain ⟨_, y1, y2⟩ := hX.out i x hx
                    have bT := hBt.out i to (by omega)
                    have bF := hBt.out i x.From.toNat (by omega)
                    rw [← t3] at r0
                    have qT : wr.cell? ⟨g, to, none⟩ = some (.int .i64 (ST to i to)) := by rw [row_cell hO.out (by rw [fillI_length]; exact htn), getD_of (fillI_get htn)]
                    have qF : wr.cell? ⟨g, x.From.toNat, none⟩ = some (.int .i64 (ST to i x.From.toNat)) := by rw [row_cell hO.out (by rw [fillI_length]; exact t2), getD_of (fillI_get t2)]
                    have hfr : wr.frozen? ⟨g, to, none⟩ = false := hO.out.frozenAt to
                    have hsetH := Lib.hid hset
                    have hF2 : (x.From.toNat : Int) < (n : Int) := by omega
                    clear hx hset t3
                    generalize ST to i to = aa at *
                    generalize ST to i x.From.toNat = bb at *
                    generalize x.From.toNat = fk at *
                    generalize x.To = tt at *
                    generalize x.Most = mo at *
                    generalize x.Least = le at *
                    have hw1 : IntKind.i64.wrap (mo - le) = mo - le := IntWalk.i64_in _ (by omega)
                    have hw2 : IntKind.i64.wrap (bb - (mo - le)) = bb - (mo - le) := IntWalk.i64_in _ (by omega)
                    go_wp2_with fail
                    refine wp_region_still_tail 28 (by kernel_rfl) (by kernel_rfl) ?_
                    simp only [List.take_succ_cons, List.take_zero, List.drop_succ_cons, List.drop_zero]
                    repeat still_step
                    still_call ((l00Max_any _ _ _).mono fun _ _ h => ⟨h.1, h.2.symm⟩)
                    repeat still_step
                    try refine wpStill_nil ?_
                    change wpList _ _ _ _ _ wr.drew
                    have hst := row_set (w := wr.drew) (show wr.drew.ownsRow w.heap.size 2 1 (.slice (some ⟨g, 0, none⟩) n c8) n ((fillI (ST to i) n).map (Value.int .i64)) from hO.out.drew) to (max aa (bb - (mo - le)))
                    rw [hsetH.out] at hst
                    have hO4 := Lib.hid hst.1
                    have hB4 := Lib.hid ((hBb.out.drew).setCell (p := ⟨g, to, none⟩) hgw.out (.int .i64 (max aa (bb - (mo - le)))))
                    have qT2 : wr.drew.cell? ⟨g, to, none⟩ = some (.int .i64 aa) := qT
                    have hfr2 : wr.drew.frozen? ⟨g, to, none⟩ = false := hfr
                    clear hst hO hBb
                    generalize wr.drew = wd at *
                    go_wp2_with fail
                    go_roundw
                    case rel => exact ⟨i + 1, by omega, by go_num, hO4, hB4⟩
                    case measure => simp [intOf]; omega
                · obtain rfl : q = i := by omega
                  have hO4 := Lib.hid (show wr.ownsRow w.heap.size 2 1 (.slice (some ⟨g, 0, none⟩) n c8) n ((fillI (ST (to + 1) 0) n).map (Value.int .i64)) by rw [hNx.out]; exact hO.out)
                  clear hO
                  go_wp2_with fail
                  go_roundw
                  case rel => exact ⟨to + 1, by omega, by go_num, hO4, hBb⟩
                  case measure => simp [intOf]; omega
            · obtain rfl : n = to := by omega
              have hFn := Lib.hid (hP.out wr w.heap.size _ (Nat.le_refl _) (by rw [← hEnd.out]; exact hO.out) hBb.out)
              clear hO hBb
              go_wp2_with fail
              first | exact hFn.out | (go_ret2; exact hFn.out)
end Go.Proofs.Ytnmecfibfajbnaa
