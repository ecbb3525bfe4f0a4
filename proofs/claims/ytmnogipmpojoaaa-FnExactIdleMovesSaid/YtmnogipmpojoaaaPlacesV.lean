/- Contracts: the places of a list of trips, sorted stably by a comparison of what stands there. Conditions: fewer than 40 places; the comparison may make memory of its own. -/
import Derived.Test.YtmnogipmpojoaaaPlaces
import Derived.Test.YtmnogipmpojoaaaNear
namespace Go.Proofs.Ytmnogipmpojoaaa
open Go.RowKit Go.Lst Srt Go.Shelf

set_option maxHeartbeats 2000000 in
theorem placesV1_any (F b o cap n cb lb x y : Nat) (X : Nat → Nat → Int) (z : Int) (w : World) (eF : ∀ args w, (callFunc F args).run Try.prog w = .ok (.enter F args) w)
    (hin : ∀ w, Calls Try.prog F #[.agg #[.int .i64 (X x 0), .int .i64 (X x 1), .int .i64 (X x 2), .int .i64 (X x 3)], .agg #[.int .i64 (X y 0), .int .i64 (X y 1), .int .i64 (X y 2), .int .i64 (X y 3)]] w fun e w' => e = .returned (.int .i64 z) ∧ Below w.heap.size w w')
    (h1 : w.cell? ⟨cb, 0, none⟩ = some (.func (.func F) #[] #[])) (h2 : w.cell? ⟨lb, 0, none⟩ = some (.slice (some ⟨b, o, none⟩) n cap)) (hx : x < n) (hy : y < n)
    (cx : ∀ j, j < 4 → w.cell? ⟨b, o + x * 4 + j, none⟩ = some (.int .i64 (X x j))) (cy : ∀ j, j < 4 → w.cell? ⟨b, o + y * 4 + j, none⟩ = some (.int .i64 (X y j))) :
    Calls Try.prog 30 #[.int .i64 x, .int .i64 y, .pointer (some ⟨cb, 0, none⟩), .pointer (some ⟨lb, 0, none⟩)] w fun e w' => e = .returned (.int .i64 z) ∧ Below w.heap.size w w' := by
  have hI := Lib.hid (fun (pn : Near w.heap.size w) => hin pn.at_)
  have l1 : (x : Int) < (n : Int) := by omega
  have l2 : (y : Int) < (n : Int) := by omega
  have cx0 : w.cell? ⟨b, o + x * 4, none⟩ = some (.int .i64 (X x 0)) := cx 0 (by omega)
  have nx0 := fun pn => near_cell cx0 pn
  have cx1 : w.cell? ⟨b, o + x * 4 + 1, none⟩ = some (.int .i64 (X x 1)) := cx 1 (by omega)
  have nx1 := fun pn => near_cell cx1 pn
  have cx2 : w.cell? ⟨b, o + x * 4 + 2, none⟩ = some (.int .i64 (X x 2)) := cx 2 (by omega)
  have nx2 := fun pn => near_cell cx2 pn
  have cx3 : w.cell? ⟨b, o + x * 4 + 3, none⟩ = some (.int .i64 (X x 3)) := cx 3 (by omega)
  have nx3 := fun pn => near_cell cx3 pn
  have cy0 : w.cell? ⟨b, o + y * 4, none⟩ = some (.int .i64 (X y 0)) := cy 0 (by omega)
  have ny0 := fun pn => near_cell cy0 pn
  have cy1 : w.cell? ⟨b, o + y * 4 + 1, none⟩ = some (.int .i64 (X y 1)) := cy 1 (by omega)
  have ny1 := fun pn => near_cell cy1 pn
  have cy2 : w.cell? ⟨b, o + y * 4 + 2, none⟩ = some (.int .i64 (X y 2)) := cy 2 (by omega)
  have ny2 := fun pn => near_cell cy2 pn
  have cy3 : w.cell? ⟨b, o + y * 4 + 3, none⟩ = some (.int .i64 (X y 3)) := cy 3 (by omega)
  have ny3 := fun pn => near_cell cy3 pn
  have nh1 := fun pn => near_cell h1 pn
  have nh2 := fun pn => near_cell h2 pn
  clear hin cx cy
  generalize X x 0 = x0 at *
  generalize X x 1 = x1 at *
  generalize X x 2 = x2 at *
  generalize X x 3 = x3 at *
  generalize X y 0 = y0 at *
  generalize X y 1 = y1 at *
  generalize X y 2 = y2 at *
  generalize X y 3 = y3 at *
  go_enter Try.func30, Try.ntmps30
  go_wp2_with fail
  refine wp_region_near (by kernel_rfl) (by kernel_rfl) ?_
  repeat (go_big_quiet_step ((go_at_fn F; with_reducible exact near_of (Nat.le_refl _) (hI.out _))))
  refine wpQuiet_nil ?_
  rintro _ ⟨pq, rfl⟩
  have hB := Lib.hid pq.below
  generalize pq.at_ = wq at *
  go_wp2_with fail
  go_ret
  exact ⟨rfl, hB.out⟩
set_option maxHeartbeats 2000000 in
theorem placesV_any (F b o cap n : Nat) (X : Nat → Nat → Int) (sv : Nat → Nat → Int) (lt : Int → Int → Bool) (w : World) (hb0 : b < w.heap.size) (hcell : ∀ k j, k < n → j < 4 → w.cell? ⟨b, o + k * 4 + j, none⟩ = some (.int .i64 (X k j))) (hcap : n ≤ cap) (hcm : cap ≤ maxLen) (hn1 : 1 ≤ n) (hn : n < 40) (hT : Tot n lt)
    (eF : ∀ args w, (callFunc F args).run Try.prog w = .ok (.enter F args) w)
    (hin : ∀ x y, x < n → y < n → ∀ w, Calls Try.prog F #[.agg #[.int .i64 (X x 0), .int .i64 (X x 1), .int .i64 (X x 2), .int .i64 (X x 3)], .agg #[.int .i64 (X y 0), .int .i64 (X y 1), .int .i64 (X y 2), .int .i64 (X y 3)]] w fun e w' => e = .returned (.int .i64 (sv x y)) ∧ Below w.heap.size w w')
    (hsg : ∀ x y : Nat, x < y → y < n → decide (sv y x < 0) = lt y x) :
    Calls Try.prog 19 #[.slice (some ⟨b, o, none⟩) n cap, .func (.func F) #[] #[]] w fun e w' => ∃ g f, e = .returned (.slice (some ⟨g, 0, none⟩) n n) ∧ w.heap.size ≤ g ∧ w'.ownsRow w.heap.size 2 1 (.slice (some ⟨g, 0, none⟩) n n) n (cellsF n f) ∧ Srt.Done lt n f ∧ Below w.heap.size w w' := by
  have hFo := Lib.hid (fun w' => firstOrder_any n w' hn1 (by omega))
  have hSt := Lib.hid (fun g w' W0 sg (hC : Cmp 30 #[.pointer (some ⟨w.heap.size + 1, 0, none⟩), .pointer (some ⟨w.heap.size, 0, none⟩)] g n W0 sg lt) hr => sortStable_any g g n n 30 #[.pointer (some ⟨w.heap.size + 1, 0, none⟩), .pointer (some ⟨w.heap.size, 0, none⟩)] W0 w' (fun k => (k : Int)) sg lt hT hC hn (fun _ _ => rfl) hr)
  have hCm : Hid (∀ (g : Nat) (W0 : World), w.heap.size + 2 ≤ g → w.heap.size + 2 ≤ W0.heap.size → Below (w.heap.size + 2) ((w.alloc (.cells #[.slice (some ⟨b, o, none⟩) n cap] 27)).alloc (.cells #[.func (.func F) #[] #[]] 44)) W0 →
      Cmp 30 #[.pointer (some ⟨w.heap.size + 1, 0, none⟩), .pointer (some ⟨w.heap.size, 0, none⟩)] g n W0 (fun y x => sv y.toNat x.toNat) lt) := Lib.hid fun g W0 hg hs hb => by
    refine ⟨enters_of Try.func30 (by kernel_rfl) rfl, fun w' hw' x y x0 hxy hyn => ?_, fun x y x0 hxy hyn => ?_⟩
    · obtain ⟨x', rfl⟩ := Int.eq_ofNat_of_zero_le x0
      obtain ⟨y', rfl⟩ := Int.eq_ofNat_of_zero_le (show 0 ≤ y by omega)
      have keep : ∀ (p : Addr) u, p.block < w.heap.size + 2 → ((w.alloc (.cells #[.slice (some ⟨b, o, none⟩) n cap] 27)).alloc (.cells #[.func (.func F) #[] #[]] 44)).cell? p = some u → w'.cell? p = some u := fun p u hp hu => by
        rw [World.cell?_of_block (w := W0) (hw'.block p.block (by omega) (by intro e; injection e with e; omega)), hb.cell (p := p) hp]
        exact hu
      have old : ∀ k j, k < n → j < 4 → w'.cell? ⟨b, o + k * 4 + j, none⟩ = some (.int .i64 (X k j)) := fun k j hk hj => by
        refine keep ⟨b, o + k * 4 + j, none⟩ _ (show b < w.heap.size + 2 by omega) ?_
        rw [(below_alloc (below_alloc (Below.refl w.heap.size w) _) _).cell (p := ⟨b, o + k * 4 + j, none⟩) (show b < w.heap.size by omega)]
        exact hcell k j hk hj
      have q1 : w'.cell? ⟨w.heap.size + 1, 0, none⟩ = some (.func (.func F) #[] #[]) := keep _ _ (show w.heap.size + 1 < w.heap.size + 2 by omega) (by simp)
      have q2 : w'.cell? ⟨w.heap.size, 0, none⟩ = some (.slice (some ⟨b, o, none⟩) n cap) := keep _ _ (show w.heap.size < w.heap.size + 2 by omega) ((Boxed.new w 27 (.slice (some ⟨b, o, none⟩) n cap)).alloc _).cell
      exact placesV1_any F b o cap n (w.heap.size + 1) w.heap.size y' x' X _ w' eF (fun w9 => hin y' x' (by omega) (by omega) w9) q1 q2 (by omega) (by omega) (fun j hj => old y' j (by omega) hj) (fun j hj => old x' j (by omega) hj)
    · obtain ⟨x', rfl⟩ := Int.eq_ofNat_of_zero_le x0
      obtain ⟨y', rfl⟩ := Int.eq_ofNat_of_zero_le (show 0 ≤ y by omega)
      exact hsg x' y' (by omega) (by omega)
  clear hT eF hin hsg hcell
  have hb1 := Lib.hid (below_alloc (below_alloc (Below.refl w.heap.size w) (.cells #[.slice (some ⟨b, o, none⟩) n cap] 27)) (.cells #[.func (.func F) #[] #[]] 44))
  have hz1 := Lib.hid (show ((w.alloc (.cells #[.slice (some ⟨b, o, none⟩) n cap] 27)).alloc (.cells #[.func (.func F) #[] #[]] 44)).heap.size = w.heap.size + 2 by simp)
  unfold maxLen at hcm
  go_enter Try.func19, Try.ntmps19
  go_wp2_with fail
  generalize hW1 : (w.alloc (.cells #[.slice (some ⟨b, o, none⟩) n cap] 27)).alloc (.cells #[.func (.func F) #[] #[]] 44) = W1 at *
  refine (hFo.out W1).mono ?_
  rintro e W2 ⟨rfl, ho2, hb2⟩
  have hsz := hz1.out
  have hCc := Lib.hid (hCm.out W1.heap.size W2 (by omega) (by have := hb2.size; omega) (hb2.mono (by omega)))
  have hR2 := Lib.hid (show Row W1.heap.size W1.heap.size n n W2 W2 (fun k => (k : Int)) from ⟨by rw [cellsF_count]; exact ho2, grown_refl _ _⟩)
  have hCall := Lib.hid (hSt.out W1.heap.size W2 W2 _ hCc.out hR2.out)
  have hB2 := Lib.hid (below_on hb1.out (Nat.le_refl _) hb2)
  have hG := Lib.hid (show w.heap.size ≤ W1.heap.size by omega)
  clear ho2 hb2 hsz
  go_wp2_with (go_at_call 29; (with_reducible refine hCall.out.mono ?_); rintro e W3 ⟨rfl, f, hr3, hd3⟩; have hR3 := Lib.hid hr3; have hD3 := Lib.hid hd3; clear hr3 hd3)
  go_ret
  exact ⟨W1.heap.size, f, rfl, hG.out, ownsRow_mono hR3.out.own hG.out, hD3.out, hB2.out.grown hR3.out.kept hB2.out.size (fun q e => by injection e with e; rw [← e]; exact hG.out)⟩
end Go.Proofs.Ytmnogipmpojoaaa
