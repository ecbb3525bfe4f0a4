/- Contracts: delays that are spread, in the program (begun). -/
import Derived.Test.YtnmecfibfajbnaaSpreadFacts
namespace Go.Proofs.Ytnmecfibfajbnaa
open Go.RowKit Go.Lst

theorem infoArc2 : (Try.prog.info? 67).map (fun i => (i.zero, i.size, i.bytes)) = some (some (.agg #[.int .i64 0, .int .i64 0, .int .i64 0, .int .i64 0]), 4, 32) := by kernel_rfl
theorem zeros4 (q : Nat) : ∀ u ∈ (madeCells (Value.agg #[.int .i64 0, .int .i64 0, .int .i64 0, .int .i64 0]).cells (q * 4)).toList, ∃ z, u = .int .i64 z := fun u hu => by
  have hz : ∀ n, (#[Value.int .i64 0, Value.int .i64 0, Value.int .i64 0, Value.int .i64 0] : Array Value)[n % 4]! = Value.int .i64 0 := fun n => by
    have : n % 4 = 0 ∨ n % 4 = 1 ∨ n % 4 = 2 ∨ n % 4 = 3 := by omega
    rcases this with h | h | h | h <;> rw [h] <;> rfl
  unfold madeCells at hu
  rw [Array.toList_map, List.mem_map] at hu
  obtain ⟨y, _, hy⟩ := hu
  exact ⟨0, by rw [← hy]; exact hz y⟩
theorem setAll_all {P : Value → Prop} {us : List Value} : ∀ {cs : List Value} {j : Nat}, (∀ u ∈ cs, P u) → (∀ u ∈ us, P u) → ∀ u ∈ setAll cs j us, P u := by
  induction us with
  | nil => intro cs j h1 _ u hu; exact h1 u hu
  | cons v us ih =>
    intro cs j h1 h2 u hu
    refine ih (cs := cs.set j v) (j := j + 1) (fun y hy => ?_) (fun y hy => h2 y (List.mem_cons_of_mem v hy)) u hu
    rcases List.mem_or_eq_of_mem_set hy with h | h
    · exact h1 y h
    · rw [h]; exact h2 v List.mem_cons_self
set_option maxHeartbeats 8000000 in
set_option maxRecDepth 100000 in
theorem implSpread_yes (B : Nat) (e : Int) (v v2 : Value) (xs : List RuleD) (ls : List Int) (w : World) (h : LstRule B w v xs) (hT : LstI B w v2 ls) (hB : B ≤ w.heap.size) (hq : canSpread e xs ls = true) :
    Calls Try.prog 13 #[.int .i64 e, v, v2] w (ListPost (sprRes e xs ls) true w) := by
  obtain ⟨f1, f2, f3, f4, n1, n12, q32, fx, fv⟩ := spread_facts hq
  have hA := Lib.hid (areRules_any B e 60 v xs w h hB)
  have hCn := Lib.hid (fun w' (hb : Below w.heap.size w w') => backContains_any B v xs w' (h.below hb hB) (Nat.le_trans hB hb.size))
  have hWi := Lib.hid (fun w' (hb : Below w.heap.size w w') => areWithin_any B v2 ls 0 1000 w' (hT.below hb hB).lst)
  have hSe := Lib.hid (fun w' (hb : Below w.heap.size w w') b2 cap2 hb2 hc2 => settled_spread hq B v2 b2 cap2 w' (hT.below hb hB) (Nat.le_trans hB hb.size) hb2 hc2)
  rw [f1] at hA
  rw [show (xs.any fun x => decide (x.To < x.From)) = false from f2] at hCn
  rw [f4] at hWi
  have hP : Hid (∀ w1 w2 v', Below w.heap.size w w1 → w2.ownsRow w1.heap.size 2 1 v' ls.length ((fillI (sprAt xs ls) ls.length).map (Value.int .i64)) → Below w1.heap.size w1 w2 → ListPost (sprRes e xs ls) true w (.returned (.tuple #[v', .bool true])) w2) := Lib.hid fun w1 w2 v' hb1 ho hb2 => by
    have hres : sprRes e xs ls = fillI (sprAt xs ls) ls.length := by unfold sprRes; rw [if_pos hq]
    rw [hres]
    exact list_yes rfl hb1.size (fillI_length _ _) ho (by omega) (below_on hb1 (Nat.le_refl _) hb2)
  obtain ⟨a, cap, rfl, hl, _, _, hc⟩ := h.at_
  obtain ⟨a2, cap2, rfl, hl2, _⟩ := hT.at_
  have hC := Lib.hid hc
  have hX := Lib.hid fx
  clear h hT hc fx fv f1 f2 f4 hq
  have hbne : ((ls.length : Int) != e) = false := by rw [bne_eq_false_iff_eq]; exact f3
  generalize ListPost (sprRes e xs ls) true w = Q at *
  generalize hxq : xs.length = q at *
  have hXq := Lib.hid hxq
  clear hxq
  generalize (fillI (sprAt xs ls) ls.length).map (Value.int .i64) = res at *
  generalize ls.length = n at *
  subst f3
  unfold maxLen at hl hl2
  obtain ⟨iA, hi, hz0, hz1, hz2⟩ := info_parts infoArc2
  go_enter Try.func13, Try.ntmps13
  go_wp2_with (first | (go_at_call 40; (with_reducible refine (hA.out).mono ?_); rintro e' w1 ⟨rfl, hb1⟩; have hB1 := Lib.hid hb1; clear hb1) | (go_at_call 41; (with_reducible refine (hCn.out w1 hB1.out).mono ?_); rintro e' w2 ⟨rfl, hb2⟩; have hB2 := Lib.hid (below_on hB1.out (Nat.le_refl _) hb2); clear hb2 hB1) | (go_at_call 42; (with_reducible refine (hWi.out w2 hB2.out).mono ?_); rintro e' w3 ⟨rfl, rfl⟩) | (at_make; refine wpList_make_full _ rfl _ _ _ rfl w2.heap.size _ iA (.agg #[.int .i64 0, .int .i64 0, .int .i64 0, .int .i64 0]) 4 Try.underlying45 hi hz0 hz1 _ _ _ _ q rfl rfl rfl rfl ?c1 ?c2 ?c3 ?_))
  case c1 => rw [hz2]; omega
  case c2 => unfold maxLen; omega
  case c3 => exact Nat.le_refl _
  intro w4 hown4 hg4
  have hZ4 := Lib.hid (zeros4 q)
  have hB4 := Lib.hid (hB2.out.grown hg4 hB2.out.size (fun k hk => by cases hk))
  have hO4 := Lib.hid hown4
  have hG4 := Lib.hid hB2.out.size
  clear hown4 hg4 hB2
  generalize w2.heap.size = G at *
  go_wp2_with fail
  go_loopw [35] (fun iv wr => ∃ (k : Nat) (cs : List Value), k ≤ q ∧ iv = .int .i64 k ∧ Hid (∀ u ∈ cs, ∃ z, u = .int .i64 z) ∧ Hid (∀ (i : Nat) (x : RuleD), i < k → xs[i]? = some x → cs[i * 4]? = some (.int .i64 x.From) ∧ cs[i * 4 + 1]? = some (.int .i64 x.To) ∧ cs[i * 4 + 2]? = some (.int .i64 (x.Least - x.Most))) ∧ Hid (wr.ownsRow G 67 4 (.slice (some ⟨G, 0, none⟩) q q) q cs) ∧ Hid (Below w.heap.size w wr)) (fun iv _ => q - (intOf iv).toNat)
  case atStart => exact ⟨0, _, Nat.zero_le _, rfl, hZ4, Lib.hid (fun i x hi _ => by omega), hO4, hB4⟩
  case round =>
    clear hZ4 hO4 hB4
    obtain ⟨k, cs, hk, rfl, hZ, hF, hO, hBb⟩ := hrel
    by_cases hlt : k < q
    · obtain ⟨b, o, x, rfl, hb, hx, r0, r1, r2, r3⟩ := hC.out k hlt
      have hbw : b < w.heap.size := Nat.lt_of_lt_of_le hb hB
      rw [← hBb.out.cell (p := ⟨b, o + k * 4, none⟩) hbw] at r0
      rw [← hBb.out.cell (p := ⟨b, o + k * 4 + 1, none⟩) hbw] at r1
      rw [← hBb.out.cell (p := ⟨b, o + k * 4 + 2, none⟩) hbw] at r2
      rw [← hBb.out.cell (p := ⟨b, o + k * 4 + 3, none⟩) hbw] at r3
      have hxx := Lib.hid hx
      obtain ⟨_, y1, y2, y3⟩ := hX.out k x hx
      have hws : IntKind.i64.wrap (x.Least - x.Most) = x.Least - x.Most := IntWalk.i64_in _ (by omega)
      have hlen : cs.length = q * 4 := hO.out.1
      have hcz : ∀ j, j < 4 → ∃ z, cs[k * 4 + j]? = some (.int .i64 z) := fun j hj => by
        obtain ⟨z, hz⟩ := hZ.out (cs[k * 4 + j]'(by omega)) (List.getElem_mem _)
        exact ⟨z, by rw [List.getElem?_eq_getElem (show k * 4 + j < cs.length by omega), hz]⟩
      obtain ⟨z0, e0⟩ := hcz 0 (by omega)
      obtain ⟨z1, e1⟩ := hcz 1 (by omega)
      obtain ⟨z2, e2⟩ := hcz 2 (by omega)
      obtain ⟨z3, e3⟩ := hcz 3 (by omega)
      have hO8 := hO.out.alloc (.cells #[.int .i64 x.From, .int .i64 x.To, .int .i64 x.Least, .int .i64 x.Most] 59)
      have hB8 := below_alloc hBb.out (.cells #[.int .i64 x.From, .int .i64 x.To, .int .i64 x.Least, .int .i64 x.Most] 59)
      have hX8 := Whole.made wr 59 #[.int .i64 x.From, .int .i64 x.To, .int .i64 x.Least, .int .i64 x.Most] rfl
      have g0 := hX8.at_ (i := 0) rfl
      have g1 := hX8.at_ (i := 1) rfl
      have g2 := hX8.at_ (i := 2) rfl
      have g3 := hX8.at_ (i := 3) rfl
      have hZ9 := Lib.hid (setAll_all (P := fun u => ∃ z, u = Value.int .i64 z) (cs := cs) (j := k * 4) (us := [.int .i64 x.From, .int .i64 x.To, .int .i64 (x.Least - x.Most), .int .i64 0]) hZ.out (fun u hu => by
        simp only [List.mem_cons, List.not_mem_nil, or_false] at hu
        rcases hu with rfl | rfl | rfl | rfl <;> exact ⟨_, rfl⟩))
      have hF9 : Hid (∀ (i : Nat) (y : RuleD), i < k + 1 → xs[i]? = some y → (setAll cs (k * 4) [.int .i64 x.From, .int .i64 x.To, .int .i64 (x.Least - x.Most), .int .i64 0])[i * 4]? = some (.int .i64 y.From) ∧ (setAll cs (k * 4) [.int .i64 x.From, .int .i64 x.To, .int .i64 (x.Least - x.Most), .int .i64 0])[i * 4 + 1]? = some (.int .i64 y.To) ∧ (setAll cs (k * 4) [.int .i64 x.From, .int .i64 x.To, .int .i64 (x.Least - x.Most), .int .i64 0])[i * 4 + 2]? = some (.int .i64 (y.Least - y.Most))) := Lib.hid fun i y hi hy => by
        by_cases hik : i < k
        · rw [setAll_before _ _ _ _ (by omega), setAll_before _ _ _ _ (by omega), setAll_before _ _ _ _ (by omega)]
          exact hF.out i y hik hy
        · obtain rfl : i = k := by omega
          rw [hxx.out] at hy
          cases hy
          exact ⟨setAll_at _ _ _ 0 (by simp) (by simp; omega), setAll_at _ _ _ 1 (by simp) (by simp; omega), setAll_at _ _ _ 2 (by simp) (by simp; omega)⟩
      clear hx hcz hX8 hZ hF
      generalize x.From = fr at *
      generalize x.To = to_ at *
      generalize x.Least = le at *
      generalize x.Most = mo at *
      have d0 := (hO8.cellAt (k * 4) (by omega)).trans e0
      have d1 := (hO8.cellAt (k * 4 + 1) (by omega)).trans e1
      have d2 := (hO8.cellAt (k * 4 + 2) (by omega)).trans e2
      have d3 := (hO8.cellAt (k * 4 + 3) (by omega)).trans e3
      have f0 := hO8.frozenAt (k * 4)
      have f1 := hO8.frozenAt (k * 4 + 1)
      have f2 := hO8.frozenAt (k * 4 + 2)
      have f3 := hO8.frozenAt (k * 4 + 3)
      have hst := Lib.hid (ownsRow_setMany hO8 (us := [.int .i64 fr, .int .i64 to_, .int .i64 (le - mo), .int .i64 0]) (j := k * 4)).1
      have hBs := Lib.hid (setMany_below (g := G) (j := k * 4) (us := [.int .i64 fr, .int .i64 to_, .int .i64 (le - mo), .int .i64 0]) hB8 hG4.out)
      clear e0 e1 e2 e3 hO8 hB8 hO hBb
      go_wp2_with fail
      go_roundw
      case rel => exact ⟨k + 1, _, by omega, by go_num, hZ9, hF9, hst, hBs⟩
      case measure => simp [intOf]; omega
    · obtain rfl : q = k := by omega
      have hlen : cs.length = q * 4 := hO.out.1
      have hc2 := hSe.out wr hBb.out G q (hO.out.lt G rfl).2 (fun i x hx => by
        have hi : i < q := by rw [← hXq.out]; exact (List.getElem?_eq_some_iff.1 hx).1
        obtain ⟨u0, u1, u2⟩ := hF.out i x hi hx
        obtain ⟨z, hz⟩ := hZ.out (cs[i * 4 + 3]'(by omega)) (List.getElem_mem _)
        refine ⟨(hO.out.cellAt (i * 4) (by omega)).trans u0, (hO.out.cellAt (i * 4 + 1) (by omega)).trans u1, (hO.out.cellAt (i * 4 + 2) (by omega)).trans u2, z, (hO.out.cellAt (i * 4 + 3) (by omega)).trans ?_⟩
        rw [List.getElem?_eq_getElem (show i * 4 + 3 < cs.length by omega), hz])
      have hCs := Lib.hid hc2
      have hBw := Lib.hid hBb.out
      clear hc2 hO hBb hZ hF
      go_wp2_with (go_at_call 43; (with_reducible refine (hCs.out).mono ?_); rintro e' w5 ⟨v', rfl, ho5, hb5⟩; have hFn := Lib.hid (hP.out wr w5 v' hBw.out ho5 hb5); clear ho5 hb5)
      first | exact hFn.out | (go_ret2; exact hFn.out)
end Go.Proofs.Ytnmecfibfajbnaa
