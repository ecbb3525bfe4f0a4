/- Contracts: SlackOf, in the model and in the program. -/
import Derived.Test.YtlgojbbhjhifhaaSlack
namespace Go.Proofs.Ytlgojbbhjhifhaa
open Go.RowKit Go.Lst

theorem own_addr {A B e n c : Nat} {w : World} {a : Option Addr} {cs : List Value} (h : Own A B w (.slice a n c) e 1 n cs) (hn : 0 < n) : ∃ g, a = some ⟨g, 0, none⟩ ∧ A ≤ g ∧ g < B := by
  rcases h.1.2 with ⟨h1, h2⟩ | ⟨g, cap, cur, h1, h2, _⟩
  · omega
  · injection h1 with h1 _ _
    subst h1
    exact ⟨g, rfl, h2, h.2.2 g rfl⟩
set_option maxHeartbeats 4000000 in
set_option maxRecDepth 100000 in
theorem slacks_any (B : Nat) (v : Value) (xs : List TaskD) (w : World) (h : LstTask B w v xs) (hB : B ≤ w.heap.size) (hf : Fit xs) :
    Calls Try.prog 65 #[v] w fun r w' => ∃ v', r = .returned v' ∧ Own w.heap.size w'.heap.size w' v' 2 1 xs.length ((slackOf xs).map (Value.int .i64)) ∧ Below w.heap.size w w' := by
  obtain ⟨a, cap, rfl, hl, _, _, _⟩ := h.at_
  have hLs := Lib.hid h
  have hFt := Lib.hid hf
  have hm : xs.length ≤ 16 := hf.most
  have hE := endOf_bound hf
  clear h hf
  unfold maxLen at hl
  go_enter Try.func65, Try.ntmps65
  go_wp2_with fail
  refine (earliest_any B _ xs w hLs.out hB hFt.out).mono ?_
  rintro r w1 ⟨v1, rfl, ho1, hb1⟩
  have hB1 := Lib.hid hb1
  have hO1 := Lib.hid (early_own ho1 (early_length xs))
  obtain ⟨a1, c1, rfl⟩ := own_slice_n ho1
  clear ho1 hb1
  go_wp2_with fail
  refine (latest_any B _ xs _ w1 (hLs.out.below hB1.out hB) (Nat.le_trans hB hB1.out.size) hFt.out hE.1 (by omega)).mono ?_
  rintro r w3 ⟨v3, rfl, ho3, hb3⟩
  obtain ⟨a3, c3, rfl⟩ := own_slice_n ho3
  have hO3 := Lib.hid (show Own w1.heap.size w3.heap.size w3 (.slice a3 xs.length c3) 2 1 xs.length ((fillTo (late xs (endOf xs (early xs))) (slackAt xs) 0).map (Value.int .i64)) from ho3)
  have hO4 := Lib.hid (hO1.out.below hb3 (Nat.le_refl _))
  have hB3 := Lib.hid (below_on hB1.out (Nat.le_refl _) hb3)
  have hs1 := Lib.hid hB1.out.size
  have hb13 := Lib.hid hb3
  clear ho3 hO1 hb3
  have hR4 : Hid (∀ (wr : World), Below w1.heap.size w1 wr → ∀ k, k < xs.length → ∃ g o, a1 = some ⟨g, o, none⟩ ∧ wr.cell? ⟨g, o + k, none⟩ = some (.int .i64 ((early xs).getD k 0))) := Lib.hid fun wr hb k hk => by
    obtain ⟨g, o, e1, e2, e3⟩ := own_reads hO4.out (Below.refl w3.heap.size w3) hb13.out.size k (by rw [early_length]; exact hk)
    exact ⟨g, o, e1, by rw [hb.cell (p := ⟨g, o + k, none⟩) e2, ← hb13.out.cell (p := ⟨g, o + k, none⟩) e2]; exact e3⟩
  have hBl := Lib.hid (late_bound hFt.out hE.1)
  have hBe := Lib.hid (early_bound hFt.out)
  have hSl : Hid (∀ k, slackAt xs k = (late xs (endOf xs (early xs))).getD k 0 - (early xs).getD k 0) := Lib.hid fun _ => rfl
  have hCur : Hid (∀ k, k < xs.length → (fillTo (late xs (endOf xs (early xs))) (slackAt xs) k).getD k 0 = (late xs (endOf xs (early xs))).getD k 0) := Lib.hid fun k hk => by rw [fillTo_get, if_neg (by omega)]
  have hLen : Hid (∀ k, (fillTo (late xs (endOf xs (early xs))) (slackAt xs) k).length = xs.length) := Lib.hid fun k => by rw [fillTo_length, late_length]
  have hStep : Hid (∀ k, fillTo (late xs (endOf xs (early xs))) (slackAt xs) (k + 1) = (fillTo (late xs (endOf xs (early xs))) (slackAt xs) k).set k (slackAt xs k)) := Lib.hid fun _ => rfl
  have hEnd : Hid (fillTo (late xs (endOf xs (early xs))) (slackAt xs) xs.length = slackOf xs) := Lib.hid (fillTo_all (late_length xs _))
  clear hO4
  generalize hnn : xs.length = n at *
  have hN := Lib.hid hnn
  clear hnn
  generalize late xs (endOf xs (early xs)) = lt at *
  go_wp2_with fail
  go_loopw [18] (fun i wr => ∃ k : Nat, k ≤ n ∧ i = .int .i64 k ∧ Hid (Own w1.heap.size w3.heap.size wr (.slice a3 n c3) 2 1 n ((fillTo lt (slackAt xs) k).map (Value.int .i64))) ∧ Hid (Below w1.heap.size w1 wr) ∧ w3.heap.size ≤ wr.heap.size) (fun i _ => n - (intOf i).toNat)
  case atStart => exact ⟨0, Nat.zero_le _, rfl, hO3, hb13, Nat.le_refl _⟩
  case round =>
    obtain ⟨k, hk, rfl, hO5, hB5, hs5⟩ := hrel
    by_cases hlt : k < n
    · obtain ⟨g, rfl, g1, g2⟩ := own_addr hO5.out (by omega)
      obtain ⟨ge, oe, rfl, d1⟩ := hR4.out wr hB5.out k hlt
      have hl1 := hBl.out k
      have he1 := hBe.out k
      have hS := Lib.hid (show slackAt xs k = lt.getD k 0 - (early xs).getD k 0 from hSl.out k)
      have hcur := hCur.out k hlt
      have hlen := hLen.out k
      have hd0 : wr.cell? ⟨g, k, none⟩ = some (.int .i64 (lt.getD k 0)) := by
        rw [hO5.out.1.cellAt k (by omega), List.getElem?_map, getD_get (show k < (fillTo lt (slackAt xs) k).length by omega), hcur]
        rfl
      have hf0 : wr.frozen? ⟨g, k, none⟩ = false := hO5.out.1.frozenAt k
      have hst := hO5.out.1.stored k (.int .i64 (slackAt xs k))
      rw [← List.map_set, ← hStep.out k] at hst
      have hO6 := Lib.hid (show Own w1.heap.size w3.heap.size _ (.slice (some ⟨g, 0, none⟩) n c3) 2 1 n _ from ⟨hst.1, hO5.out.2.1, hO5.out.2.2⟩)
      have hB6 := Lib.hid (hB5.out.setCell (p := ⟨g, k, none⟩) g1 (.int .i64 (slackAt xs k)))
      have hs6 : w3.heap.size ≤ (wr.setCell ⟨g, k, none⟩ (.int .i64 (slackAt xs k))).heap.size := by simpa [World.setCell] using hs5
      have hSe : lt.getD k 0 - (early xs).getD k 0 = slackAt xs k := hS.out.symm
      generalize hy3 : lt.getD k 0 = y3 at *
      generalize hy1 : (early xs).getD k 0 = y1 at *
      have hw1 : IntKind.i64.wrap (y3 - y1) = slackAt xs k := by rw [← hSe]; exact IntWalk.i64_in _ (by omega)
      have hkI : (k : Int) < n := by omega
      clear hst hcur hlen hO5 hB5 hs5 hSe hy3 hy1
      go_wp2_with fail
      go_roundw
      case rel => exact ⟨k + 1, by omega, by go_num, hO6, hB6, hs6⟩
      case measure => simp [intOf]; omega
    · have hk2 : k = n := by omega
      subst hk2
      have hO6 := hO5.out
      rw [hEnd.out] at hO6
      have hO7 := Lib.hid (hO6.mono hs1.out hs5)
      have hB6 := Lib.hid (show Below w.heap.size w wr from hB1.out.trans (hB5.out.mono hs1.out))
      clear hO6 hO5 hB5
      go_wp2_with fail
      go_ret
      exact ⟨_, rfl, by first | exact hO7.out | (rw [hN.out]; exact hO7.out), hB6.out⟩
end Go.Proofs.Ytlgojbbhjhifhaa
