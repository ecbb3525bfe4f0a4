/- The program's SameDesk and the model's answer alike at every two desks, and keep nothing of them. -/
import Derived.Test.YtpolhjkjgbfdhaaRows
import Derived.Test.YtpolhjkjgbfdhaaDeskEq
import Derived.Test.YtpolhjkjgbfdhaaDeskOpen
import Derived.ProofKit
import Derived.OpenShut
import Derived.Deep.RegionHeld3
namespace Go.Proofs.Ytpolhjkjgbfdhaa.exactSameDesk
open Go.ChangeShapes Go.WideShapes Go.ChangeAt Go.RowKit Go.Lst

theorem szD_fits {n m p : Nat} {left : Int} (hl : left ≤ 1048576) (h : 0 ≤ szD n m p left) : n ≤ 1048576 ∧ m ≤ 1048576 ∧ p ≤ 1048576 ∧ szD n m p left ≤ left := by
  unfold szD at h ⊢
  by_cases h1 : left < n
  · rw [if_pos h1] at h; omega
  · rw [if_neg h1] at h ⊢
    by_cases h2 : left - n < m
    · rw [if_pos h2] at h; omega
    · rw [if_neg h2] at h ⊢
      by_cases h3 : left - n - m < p
      · rw [if_pos h3] at h; omega
      · rw [if_neg h3]; omega
theorem szD_ge (n m p : Nat) (left : Int) : -1 ≤ szD n m p left := by
  unfold szD
  repeat (split; omega)
  omega
set_option maxHeartbeats 8000000 in
set_option maxRecDepth 100000 in
theorem walk (v0 : Value) (x0 : DeskD) (hw0 : x0.wf) (v1 : Value) (x1 : DeskD) (hw1 : x1.wf) (W : World) (h0 : LstDesk W.heap.size W v0 x0) (h1 : LstDesk W.heap.size W v1 x1) :
    Calls Try.prog 4 #[v0, v1] W fun e w' => e = .returned (.bool true) ∧ Below W.heap.size W w' := by
  obtain ⟨vj, vc, rfl, hj, hc⟩ := id h0
  obtain ⟨vj', vc', rfl, hj', hc'⟩ := id h1
  have hp := Lib.hid hw0.2.2.2
  have hp' := Lib.hid hw1.2.2.2
  have hSz := Lib.hid (fun w' (hb : Below W.heap.size W w') => szDesk_any W.heap.size (deskV vj vc x0.rule x0.pat) x0 1048576 w' (h0.below hb (Nat.le_refl _)) hp.out (by omega) (by omega))
  have hSz' := Lib.hid (fun left w' (hb : Below W.heap.size W w') (g0 : 0 ≤ left) (g1 : left ≤ 1048576) => szDesk_any W.heap.size (deskV vj' vc' x1.rule x1.pat) x1 left w' (h1.below hb (Nat.le_refl _)) hp'.out g0 g1)
  have hFit := Lib.hid (fun h => szD_fits (n := x0.jobs.length) (m := x0.counts.length) (p := x0.pat.size) (left := 1048576) (by omega) h)
  have hFit' := Lib.hid (fun left hl h => szD_fits (n := x1.jobs.length) (m := x1.counts.length) (p := x1.pat.size) (left := left) hl h)
  have hge := szD_ge x0.jobs.length x0.counts.length x0.pat.size 1048576
  have hge' := Lib.hid (fun left => szD_ge x1.jobs.length x1.counts.length x1.pat.size left)
  have hTo := Lib.hid (fun w' (hb : Below W.heap.size W w') (hf : x0.fits) => toDesk_any W.heap.size (deskV vj vc x0.rule x0.pat) x0 w' (h0.below hb (Nat.le_refl _)) hf hb.size)
  have hTo' := Lib.hid (fun w' (hb : Below W.heap.size W w') (hf : x1.fits) => toDesk_any W.heap.size (deskV vj' vc' x1.rule x1.pat) x1 w' (h1.below hb (Nat.le_refl _)) hf hb.size)
  have hSp := Lib.hid (fun U V w' (hU : LstDesk w'.heap.size w' U x0) (hV : LstDesk w'.heap.size w' V x1) => specSameDesk_any w'.heap.size U V x0 x1 w' hU hV (Nat.le_refl _))
  have hIm := Lib.hid (fun U V w' (hU : LstDesk w'.heap.size w' U x0) (hV : LstDesk w'.heap.size w' V x1) => sameDesk_any w'.heap.size U V x0 x1 w' hU hV (Nat.le_refl _))
  have hEq := Lib.hid (fun U1 U2 w' (h1 : LstDesk w'.heap.size w' U1 x0) (h2 : LstDesk w'.heap.size w' U2 x0) => eqDesk_yes w'.heap.size U1 U2 x0 w' h1 h2 hp.out (Nat.le_refl _))
  have hEq' := Lib.hid (fun U1 U2 w' (h1 : LstDesk w'.heap.size w' U1 x1) (h2 : LstDesk w'.heap.size w' U2 x1) => eqDesk_yes w'.heap.size U1 U2 x1 w' h1 h2 hp'.out (Nat.le_refl _))
  obtain ⟨a1, k1, rfl, -⟩ := hj
  obtain ⟨b1, l1, rfl, -⟩ := hc
  obtain ⟨a2, k2, rfl, -⟩ := hj'
  obtain ⟨b2, l2, rfl, -⟩ := hc'
  have hX0 : Hid (x0.jobs.length ≤ 1048576 → x0.counts.length ≤ 1048576 → x0.pat.size ≤ 1048576 → x0.fits) := Lib.hid fun a b c => ⟨a, b, c⟩
  have hX0' : Hid (x1.jobs.length ≤ 1048576 → x1.counts.length ≤ 1048576 → x1.pat.size ≤ 1048576 → x1.fits) := Lib.hid fun a b c => ⟨a, b, c⟩
  generalize szD x0.jobs.length x0.counts.length x0.pat.size 1048576 = z at *
  generalize szD x1.jobs.length x1.counts.length x1.pat.size = z' at *
  have hMk : Hid (∀ B w' V, LstDesk B w' V x0 → ∃ a1 k1 b1 l1, V = deskV (.slice a1 x0.jobs.length k1) (.slice b1 x0.counts.length l1) x0.rule x0.pat) := Lib.hid fun B w' V hV => by
    obtain ⟨vj, vc, rfl, ⟨a, c, rfl, -⟩, ⟨b, d, rfl, -⟩⟩ := hV
    exact ⟨a, c, b, d, rfl⟩
  have hMk' : Hid (∀ B w' V, LstDesk B w' V x1 → ∃ a1 k1 b1 l1, V = deskV (.slice a1 x1.jobs.length k1) (.slice b1 x1.counts.length l1) x1.rule x1.pat) := Lib.hid fun B w' V hV => by
    obtain ⟨vj, vc, rfl, ⟨a, c, rfl, -⟩, ⟨b, d, rfl, -⟩⟩ := hV
    exact ⟨a, c, b, d, rfl⟩
  generalize x0.jobs.length = n1 at *
  generalize x0.counts.length = m1 at *
  generalize x0.rule = r at *
  generalize hP : x0.pat = p at *
  generalize x1.jobs.length = n2 at *
  generalize x1.counts.length = m2 at *
  generalize x1.rule = s at *
  generalize hP1 : x1.pat = t at *
  generalize sameDesk x0 x1 = q at *
  clear h0 hw0 hP h1 hw1 hP1
  have X0 := Lib.hid ((Whole.made W 27 #[Value.slice a1 n1 k1, Value.int IntKind.i64 r.Slots, Value.int IntKind.i64 r.Least, Value.int IntKind.i64 r.Most, Value.int IntKind.i64 r.Row, Value.int IntKind.i64 r.Pause, Value.slice b1 m1 l1, Value.string p] rfl).more (.cells #[Value.slice a2 n2 k2, Value.int IntKind.i64 s.Slots, Value.int IntKind.i64 s.Least, Value.int IntKind.i64 s.Most, Value.int IntKind.i64 s.Row, Value.int IntKind.i64 s.Pause, Value.slice b2 m2 l2, Value.string t] 27))
  have Y0 := Lib.hid (Whole.made (W.alloc (.cells #[Value.slice a1 n1 k1, Value.int IntKind.i64 r.Slots, Value.int IntKind.i64 r.Least, Value.int IntKind.i64 r.Most, Value.int IntKind.i64 r.Row, Value.int IntKind.i64 r.Pause, Value.slice b1 m1 l1, Value.string p] 27)) 27 #[Value.slice a2 n2 k2, Value.int IntKind.i64 s.Slots, Value.int IntKind.i64 s.Least, Value.int IntKind.i64 s.Most, Value.int IntKind.i64 s.Row, Value.int IntKind.i64 s.Pause, Value.slice b2 m2 l2, Value.string t] (show W.heap.size + 1 = _ by rw [World.size_alloc]))
  have T0 := Lib.hid (below_alloc (below_alloc (Below.refl W.heap.size W) (.cells #[Value.slice a1 n1 k1, Value.int IntKind.i64 r.Slots, Value.int IntKind.i64 r.Least, Value.int IntKind.i64 r.Most, Value.int IntKind.i64 r.Row, Value.int IntKind.i64 r.Pause, Value.slice b1 m1 l1, Value.string p] 27)) (.cells #[Value.slice a2 n2 k2, Value.int IntKind.i64 s.Slots, Value.int IntKind.i64 s.Least, Value.int IntKind.i64 s.Most, Value.int IntKind.i64 s.Row, Value.int IntKind.i64 s.Pause, Value.slice b2 m2 l2, Value.string t] 27))
  go_enter Try.func4, Try.ntmps4
  go_wp2_with fail
  generalize ((W.alloc (.cells #[Value.slice a1 n1 k1, Value.int IntKind.i64 r.Slots, Value.int IntKind.i64 r.Least, Value.int IntKind.i64 r.Most, Value.int IntKind.i64 r.Row, Value.int IntKind.i64 r.Pause, Value.slice b1 m1 l1, Value.string p] 27)).alloc (.cells #[Value.slice a2 n2 k2, Value.int IntKind.i64 s.Slots, Value.int IntKind.i64 s.Least, Value.int IntKind.i64 s.Most, Value.int IntKind.i64 s.Row, Value.int IntKind.i64 s.Pause, Value.slice b2 m2 l2, Value.string t] 27)) = w1 at *
  refine (hSz.out w1 T0.out).mono ?_
  rintro e w2 ⟨rfl, b2⟩
  replace X0 := Lib.hid (X0.out.kept b2); replace Y0 := Lib.hid (Y0.out.kept b2); replace T0 := Lib.hid (below_on T0.out (Nat.le_refl _) b2)
  clear b2 hSz
  by_cases hneg : z < 0
  · go_wp2_with fail
    go_ret
    exact ⟨rfl, T0.out⟩
  obtain ⟨g1, g2, g3, g4⟩ := hFit.out (by omega)
  have hFx := Lib.hid (hX0.out g1 g2 g3)
  clear g1 g2 g3
  have d0 : w2.cell? ⟨W.heap.size + 1, 0, none⟩ = some (Value.slice a2 n2 k2) := Y0.out.at_ (i := 0) rfl
  have d1 : w2.cell? ⟨W.heap.size + 1, 1, none⟩ = some (Value.int IntKind.i64 s.Slots) := Y0.out.at_ (i := 1) rfl
  have d2 : w2.cell? ⟨W.heap.size + 1, 2, none⟩ = some (Value.int IntKind.i64 s.Least) := Y0.out.at_ (i := 2) rfl
  have d3 : w2.cell? ⟨W.heap.size + 1, 3, none⟩ = some (Value.int IntKind.i64 s.Most) := Y0.out.at_ (i := 3) rfl
  have d4 : w2.cell? ⟨W.heap.size + 1, 4, none⟩ = some (Value.int IntKind.i64 s.Row) := Y0.out.at_ (i := 4) rfl
  have d5 : w2.cell? ⟨W.heap.size + 1, 5, none⟩ = some (Value.int IntKind.i64 s.Pause) := Y0.out.at_ (i := 5) rfl
  have d6 : w2.cell? ⟨W.heap.size + 1, 6, none⟩ = some (Value.slice b2 m2 l2) := Y0.out.at_ (i := 6) rfl
  have d7 : w2.cell? ⟨W.heap.size + 1, 7, none⟩ = some (Value.string t) := Y0.out.at_ (i := 7) rfl
  go_wp2_with fail
  refine (hSz'.out z w2 T0.out (by omega) g4).mono ?_
  rintro e w3 ⟨rfl, b3⟩
  replace X0 := Lib.hid (X0.out.kept b3); replace Y0 := Lib.hid (Y0.out.kept b3); replace T0 := Lib.hid (below_on T0.out (Nat.le_refl _) b3)
  clear b3 hSz' d0 d1 d2 d3 d4 d5 d6 d7
  have hge2 := hge'.out z
  have hF2 := Lib.hid (hFit'.out z g4)
  generalize z' z = y at *
  clear hge' hFit'
  by_cases hneg2 : y < 0
  · go_wp2_with fail
    go_ret
    exact ⟨rfl, T0.out⟩
  obtain ⟨g1, g2, g3, g5⟩ := hF2.out (by omega)
  have hFy := Lib.hid (hX0'.out g1 g2 g3)
  clear g1 g2 g3 hF2
  go_wp2_with fail
  have hS0 : Hid (∀ w' : World, Below w3.heap.size w3 w' → (w'.cell? ⟨W.heap.size, 0, none⟩ = some (Value.slice a1 n1 k1) ∧ w'.cell? ⟨W.heap.size, 1, none⟩ = some (Value.int IntKind.i64 r.Slots) ∧ w'.cell? ⟨W.heap.size, 2, none⟩ = some (Value.int IntKind.i64 r.Least) ∧ w'.cell? ⟨W.heap.size, 3, none⟩ = some (Value.int IntKind.i64 r.Most) ∧ w'.cell? ⟨W.heap.size, 4, none⟩ = some (Value.int IntKind.i64 r.Row) ∧ w'.cell? ⟨W.heap.size, 5, none⟩ = some (Value.int IntKind.i64 r.Pause) ∧ w'.cell? ⟨W.heap.size, 6, none⟩ = some (Value.slice b1 m1 l1) ∧ w'.cell? ⟨W.heap.size, 7, none⟩ = some (Value.string p) ∧ w'.cell? ⟨W.heap.size + 1, 0, none⟩ = some (Value.slice a2 n2 k2) ∧ w'.cell? ⟨W.heap.size + 1, 1, none⟩ = some (Value.int IntKind.i64 s.Slots) ∧ w'.cell? ⟨W.heap.size + 1, 2, none⟩ = some (Value.int IntKind.i64 s.Least) ∧ w'.cell? ⟨W.heap.size + 1, 3, none⟩ = some (Value.int IntKind.i64 s.Most) ∧ w'.cell? ⟨W.heap.size + 1, 4, none⟩ = some (Value.int IntKind.i64 s.Row) ∧ w'.cell? ⟨W.heap.size + 1, 5, none⟩ = some (Value.int IntKind.i64 s.Pause) ∧ w'.cell? ⟨W.heap.size + 1, 6, none⟩ = some (Value.slice b2 m2 l2) ∧ w'.cell? ⟨W.heap.size + 1, 7, none⟩ = some (Value.string t)) ∧ Below w3.heap.size w3 w') := Lib.hid fun w' hb => ⟨⟨(X0.out.kept hb).at_ (i := 0) rfl, (X0.out.kept hb).at_ (i := 1) rfl, (X0.out.kept hb).at_ (i := 2) rfl, (X0.out.kept hb).at_ (i := 3) rfl, (X0.out.kept hb).at_ (i := 4) rfl, (X0.out.kept hb).at_ (i := 5) rfl, (X0.out.kept hb).at_ (i := 6) rfl, (X0.out.kept hb).at_ (i := 7) rfl, (Y0.out.kept hb).at_ (i := 0) rfl, (Y0.out.kept hb).at_ (i := 1) rfl, (Y0.out.kept hb).at_ (i := 2) rfl, (Y0.out.kept hb).at_ (i := 3) rfl, (Y0.out.kept hb).at_ (i := 4) rfl, (Y0.out.kept hb).at_ (i := 5) rfl, (Y0.out.kept hb).at_ (i := 6) rfl, (Y0.out.kept hb).at_ (i := 7) rfl⟩, hb⟩
  have c0 : w3.cell? ⟨W.heap.size, 0, none⟩ = some (Value.slice a1 n1 k1) := X0.out.at_ (i := 0) rfl
  have c1 : w3.cell? ⟨W.heap.size, 1, none⟩ = some (Value.int IntKind.i64 r.Slots) := X0.out.at_ (i := 1) rfl
  have c2 : w3.cell? ⟨W.heap.size, 2, none⟩ = some (Value.int IntKind.i64 r.Least) := X0.out.at_ (i := 2) rfl
  have c3 : w3.cell? ⟨W.heap.size, 3, none⟩ = some (Value.int IntKind.i64 r.Most) := X0.out.at_ (i := 3) rfl
  have c4 : w3.cell? ⟨W.heap.size, 4, none⟩ = some (Value.int IntKind.i64 r.Row) := X0.out.at_ (i := 4) rfl
  have c5 : w3.cell? ⟨W.heap.size, 5, none⟩ = some (Value.int IntKind.i64 r.Pause) := X0.out.at_ (i := 5) rfl
  have c6 : w3.cell? ⟨W.heap.size, 6, none⟩ = some (Value.slice b1 m1 l1) := X0.out.at_ (i := 6) rfl
  have c7 : w3.cell? ⟨W.heap.size, 7, none⟩ = some (Value.string p) := X0.out.at_ (i := 7) rfl
  have d0 : w3.cell? ⟨W.heap.size + 1, 0, none⟩ = some (Value.slice a2 n2 k2) := Y0.out.at_ (i := 0) rfl
  have d1 : w3.cell? ⟨W.heap.size + 1, 1, none⟩ = some (Value.int IntKind.i64 s.Slots) := Y0.out.at_ (i := 1) rfl
  have d2 : w3.cell? ⟨W.heap.size + 1, 2, none⟩ = some (Value.int IntKind.i64 s.Least) := Y0.out.at_ (i := 2) rfl
  have d3 : w3.cell? ⟨W.heap.size + 1, 3, none⟩ = some (Value.int IntKind.i64 s.Most) := Y0.out.at_ (i := 3) rfl
  have d4 : w3.cell? ⟨W.heap.size + 1, 4, none⟩ = some (Value.int IntKind.i64 s.Row) := Y0.out.at_ (i := 4) rfl
  have d5 : w3.cell? ⟨W.heap.size + 1, 5, none⟩ = some (Value.int IntKind.i64 s.Pause) := Y0.out.at_ (i := 5) rfl
  have d6 : w3.cell? ⟨W.heap.size + 1, 6, none⟩ = some (Value.slice b2 m2 l2) := Y0.out.at_ (i := 6) rfl
  have d7 : w3.cell? ⟨W.heap.size + 1, 7, none⟩ = some (Value.string t) := Y0.out.at_ (i := 7) rfl
  have hR0 := Below.refl w3.heap.size w3
  have hTW := Lib.hid (fun w' (hb : Below w3.heap.size w3 w') => below_on T0.out (Nat.le_refl _) hb)
  go_region_held3 (fun w' => (w'.cell? ⟨W.heap.size, 0, none⟩ = some (Value.slice a1 n1 k1) ∧ w'.cell? ⟨W.heap.size, 1, none⟩ = some (Value.int IntKind.i64 r.Slots) ∧ w'.cell? ⟨W.heap.size, 2, none⟩ = some (Value.int IntKind.i64 r.Least) ∧ w'.cell? ⟨W.heap.size, 3, none⟩ = some (Value.int IntKind.i64 r.Most) ∧ w'.cell? ⟨W.heap.size, 4, none⟩ = some (Value.int IntKind.i64 r.Row) ∧ w'.cell? ⟨W.heap.size, 5, none⟩ = some (Value.int IntKind.i64 r.Pause) ∧ w'.cell? ⟨W.heap.size, 6, none⟩ = some (Value.slice b1 m1 l1) ∧ w'.cell? ⟨W.heap.size, 7, none⟩ = some (Value.string p) ∧ w'.cell? ⟨W.heap.size + 1, 0, none⟩ = some (Value.slice a2 n2 k2) ∧ w'.cell? ⟨W.heap.size + 1, 1, none⟩ = some (Value.int IntKind.i64 s.Slots) ∧ w'.cell? ⟨W.heap.size + 1, 2, none⟩ = some (Value.int IntKind.i64 s.Least) ∧ w'.cell? ⟨W.heap.size + 1, 3, none⟩ = some (Value.int IntKind.i64 s.Most) ∧ w'.cell? ⟨W.heap.size + 1, 4, none⟩ = some (Value.int IntKind.i64 s.Row) ∧ w'.cell? ⟨W.heap.size + 1, 5, none⟩ = some (Value.int IntKind.i64 s.Pause) ∧ w'.cell? ⟨W.heap.size + 1, 6, none⟩ = some (Value.slice b2 m2 l2) ∧ w'.cell? ⟨W.heap.size + 1, 7, none⟩ = some (Value.string t)) ∧ Below w3.heap.size w3 w') ((first | exact hS0.out _ hR0 | exact hS0.out _ hR0.drew | exact hS0.out _ hR0.drew.drew | exact hS0.out _ hR0.drew.drew.drew | exact hS0.out _ hBa.out | exact hS0.out _ hBa.out.drew | exact hS0.out _ hBa.out.drew.drew | exact hS0.out _ hBb.out | exact hS0.out _ hBb.out.drew | exact hS0.out _ hBb.out.drew.drew | exact hS0.out _ hBc.out | exact hS0.out _ hBc.out.drew | exact hS0.out _ hBc.out.drew.drew)) ((first | (go_at_call 10; first | (with_reducible refine (hTo.out _ (hTW.out _ (by first | exact hR0 | exact hR0.drew | exact hR0.drew.drew | exact hR0.drew.drew.drew | exact hBa.out | exact hBa.out.drew | exact hBa.out.drew.drew | exact hBb.out | exact hBb.out.drew | exact hBb.out.drew.drew | exact hBc.out | exact hBc.out.drew | exact hBc.out.drew.drew)) hFx.out).mono ?_; rintro e wa ⟨Ua, rfl, hU, ba⟩; obtain ⟨pa1, pa2, pa3, pa4, rfl⟩ := hMk.out _ _ _ hU; have hUa := Lib.hid (fun w' (hb : Below wa.heap.size wa w') => (LstDesk.mono (hU.below hb (Nat.le_refl _)) hb.size)); have hBa := Lib.hid (show Below w3.heap.size w3 wa from (by first | exact below_on hR0 (Nat.le_refl _) ba | exact below_on hR0.drew (Nat.le_refl _) ba | exact below_on hR0.drew.drew (Nat.le_refl _) ba | exact below_on hR0.drew.drew.drew (Nat.le_refl _) ba | exact below_on hBb.out (Nat.le_refl _) ba | exact below_on hBb.out.drew (Nat.le_refl _) ba | exact below_on hBb.out.drew.drew (Nat.le_refl _) ba)); first | (have hAB := Lib.hid (show Below wb.heap.size wb wa by first | exact below_on (Below.refl _ _) (Nat.le_refl _) ba | exact below_on (Below.refl _ _).drew (Nat.le_refl _) ba | exact below_on (Below.refl _ _).drew.drew (Nat.le_refl _) ba); clear hU ba) | clear hU ba) | (with_reducible refine (hTo'.out _ (hTW.out _ (by first | exact hR0 | exact hR0.drew | exact hR0.drew.drew | exact hR0.drew.drew.drew | exact hBa.out | exact hBa.out.drew | exact hBa.out.drew.drew | exact hBb.out | exact hBb.out.drew | exact hBb.out.drew.drew | exact hBc.out | exact hBc.out.drew | exact hBc.out.drew.drew)) hFy.out).mono ?_; rintro e wb ⟨Ub, rfl, hU, bb⟩; obtain ⟨pb1, pb2, pb3, pb4, rfl⟩ := hMk'.out _ _ _ hU; have hUb := Lib.hid (fun w' (hb : Below wb.heap.size wb w') => (LstDesk.mono (hU.below hb (Nat.le_refl _)) hb.size)); have hBb := Lib.hid (show Below w3.heap.size w3 wb from (by first | exact below_on hR0 (Nat.le_refl _) bb | exact below_on hR0.drew (Nat.le_refl _) bb | exact below_on hR0.drew.drew (Nat.le_refl _) bb | exact below_on hR0.drew.drew.drew (Nat.le_refl _) bb | exact below_on hBa.out (Nat.le_refl _) bb | exact below_on hBa.out.drew (Nat.le_refl _) bb | exact below_on hBa.out.drew.drew (Nat.le_refl _) bb)); first | (have hAB := Lib.hid (show Below wa.heap.size wa wb by first | exact below_on (Below.refl _ _) (Nat.le_refl _) bb | exact below_on (Below.refl _ _).drew (Nat.le_refl _) bb | exact below_on (Below.refl _ _).drew.drew (Nat.le_refl _) bb); clear hU bb) | clear hU bb)) | (go_at_call 13; refine (hSp.out _ _ _ (by first | exact hUa.out _ (Below.refl _ _) | exact hUa.out _ (Below.refl _ _).drew | exact hUa.out _ (Below.refl _ _).drew.drew | exact hUa.out _ hAB.out | exact hUa.out _ hAB.out.drew | exact hUa.out _ hAB.out.drew.drew) (by first | exact hUb.out _ (Below.refl _ _) | exact hUb.out _ (Below.refl _ _).drew | exact hUb.out _ (Below.refl _ _).drew.drew | exact hUb.out _ hAB.out | exact hUb.out _ hAB.out.drew | exact hUb.out _ hAB.out.drew.drew)).mono ?_; rintro e wc ⟨rfl, bc⟩; have hBc := Lib.hid (show Below w3.heap.size w3 wc from (by first | exact below_on hR0 (Nat.le_refl _) bc | exact below_on hR0.drew (Nat.le_refl _) bc | exact below_on hR0.drew.drew (Nat.le_refl _) bc | exact below_on hR0.drew.drew.drew (Nat.le_refl _) bc | exact below_on hBa.out (Nat.le_refl _) bc | exact below_on hBa.out.drew (Nat.le_refl _) bc | exact below_on hBa.out.drew.drew (Nat.le_refl _) bc | exact below_on hBb.out (Nat.le_refl _) bc | exact below_on hBb.out.drew (Nat.le_refl _) bc | exact below_on hBb.out.drew.drew (Nat.le_refl _) bc)); clear bc)))
  all_goals
    replace X0 := Lib.hid (X0.out.kept hBc.out); replace Y0 := Lib.hid (Y0.out.kept hBc.out); replace T0 := Lib.hid (hTW.out wc hBc.out)
    clear hBc hBa hBb hAB hUa hUb hTW hS0 hR0 hSp c0 c1 c2 c3 c4 c5 c6 c7 d0 d1 d2 d3 d4 d5 d6 d7
    have c0 : wc.cell? ⟨W.heap.size, 0, none⟩ = some (Value.slice a1 n1 k1) := X0.out.at_ (i := 0) rfl
    have c1 : wc.cell? ⟨W.heap.size, 1, none⟩ = some (Value.int IntKind.i64 r.Slots) := X0.out.at_ (i := 1) rfl
    have c2 : wc.cell? ⟨W.heap.size, 2, none⟩ = some (Value.int IntKind.i64 r.Least) := X0.out.at_ (i := 2) rfl
    have c3 : wc.cell? ⟨W.heap.size, 3, none⟩ = some (Value.int IntKind.i64 r.Most) := X0.out.at_ (i := 3) rfl
    have c4 : wc.cell? ⟨W.heap.size, 4, none⟩ = some (Value.int IntKind.i64 r.Row) := X0.out.at_ (i := 4) rfl
    have c5 : wc.cell? ⟨W.heap.size, 5, none⟩ = some (Value.int IntKind.i64 r.Pause) := X0.out.at_ (i := 5) rfl
    have c6 : wc.cell? ⟨W.heap.size, 6, none⟩ = some (Value.slice b1 m1 l1) := X0.out.at_ (i := 6) rfl
    have c7 : wc.cell? ⟨W.heap.size, 7, none⟩ = some (Value.string p) := X0.out.at_ (i := 7) rfl
    go_wp2_with fail
    refine (hTo.out wc T0.out hFx.out).mono ?_
    rintro e w5 ⟨U5, rfl, hU, b5⟩
    obtain ⟨a5, k5, b5', l5, rfl⟩ := hMk.out _ _ _ hU
    have hU5 := Lib.hid hU
    replace X0 := Lib.hid (X0.out.kept b5); replace Y0 := Lib.hid (Y0.out.kept b5); replace T0 := Lib.hid (below_on T0.out (Nat.le_refl _) b5)
    clear hU b5 c0 c1 c2 c3 c4 c5 c6 c7
    have hV := Lib.hid ((hU5.out.below (below_alloc (Below.refl _ _) (.cells #[Value.slice a5 n1 k5, Value.int IntKind.i64 r.Slots, Value.int IntKind.i64 r.Least, Value.int IntKind.i64 r.Most, Value.int IntKind.i64 r.Row, Value.int IntKind.i64 r.Pause, Value.slice b5' m1 l5, Value.string p] 33)) (Nat.le_refl _)).mono (below_alloc (Below.refl w5.heap.size w5) (.cells #[Value.slice a5 n1 k5, Value.int IntKind.i64 r.Slots, Value.int IntKind.i64 r.Least, Value.int IntKind.i64 r.Most, Value.int IntKind.i64 r.Row, Value.int IntKind.i64 r.Pause, Value.slice b5' m1 l5, Value.string p] 33)).size)
    have Z5 := Lib.hid (Whole.made w5 33 #[Value.slice a5 n1 k5, Value.int IntKind.i64 r.Slots, Value.int IntKind.i64 r.Least, Value.int IntKind.i64 r.Most, Value.int IntKind.i64 r.Row, Value.int IntKind.i64 r.Pause, Value.slice b5' m1 l5, Value.string p] rfl)
    replace X0 := Lib.hid (X0.out.more (.cells #[Value.slice a5 n1 k5, Value.int IntKind.i64 r.Slots, Value.int IntKind.i64 r.Least, Value.int IntKind.i64 r.Most, Value.int IntKind.i64 r.Row, Value.int IntKind.i64 r.Pause, Value.slice b5' m1 l5, Value.string p] 33)); replace Y0 := Lib.hid (Y0.out.more (.cells #[Value.slice a5 n1 k5, Value.int IntKind.i64 r.Slots, Value.int IntKind.i64 r.Least, Value.int IntKind.i64 r.Most, Value.int IntKind.i64 r.Row, Value.int IntKind.i64 r.Pause, Value.slice b5' m1 l5, Value.string p] 33)); replace T0 := Lib.hid (below_alloc T0.out (.cells #[Value.slice a5 n1 k5, Value.int IntKind.i64 r.Slots, Value.int IntKind.i64 r.Least, Value.int IntKind.i64 r.Most, Value.int IntKind.i64 r.Row, Value.int IntKind.i64 r.Pause, Value.slice b5' m1 l5, Value.string p] 33))
    have hw6 : ∃ w6, w5.alloc (.cells #[Value.slice a5 n1 k5, Value.int IntKind.i64 r.Slots, Value.int IntKind.i64 r.Least, Value.int IntKind.i64 r.Most, Value.int IntKind.i64 r.Row, Value.int IntKind.i64 r.Pause, Value.slice b5' m1 l5, Value.string p] 33) = w6 := ⟨_, rfl⟩
    obtain ⟨w6, hw6⟩ := hw6
    rw [hw6] at hV Z5 X0 Y0 T0
    have hW6 := Lib.hid hw6
    clear hw6 hU5
    have hD6 : Hid (w5.alloc (.cells #[Value.slice a5 n1 k5, Value.int IntKind.i64 r.Slots, Value.int IntKind.i64 r.Least, Value.int IntKind.i64 r.Most, Value.int IntKind.i64 r.Row, Value.int IntKind.i64 r.Pause, Value.slice b5' m1 l5, Value.string p] 33) = w6) := hW6
    have d0 : (w5.alloc (.cells #[Value.slice a5 n1 k5, Value.int IntKind.i64 r.Slots, Value.int IntKind.i64 r.Least, Value.int IntKind.i64 r.Most, Value.int IntKind.i64 r.Row, Value.int IntKind.i64 r.Pause, Value.slice b5' m1 l5, Value.string p] 33)).cell? ⟨W.heap.size + 1, 0, none⟩ = some (Value.slice a2 n2 k2) := by rw [hW6.out]; exact Y0.out.at_ (i := 0) rfl
    have d1 : (w5.alloc (.cells #[Value.slice a5 n1 k5, Value.int IntKind.i64 r.Slots, Value.int IntKind.i64 r.Least, Value.int IntKind.i64 r.Most, Value.int IntKind.i64 r.Row, Value.int IntKind.i64 r.Pause, Value.slice b5' m1 l5, Value.string p] 33)).cell? ⟨W.heap.size + 1, 1, none⟩ = some (Value.int IntKind.i64 s.Slots) := by rw [hW6.out]; exact Y0.out.at_ (i := 1) rfl
    have d2 : (w5.alloc (.cells #[Value.slice a5 n1 k5, Value.int IntKind.i64 r.Slots, Value.int IntKind.i64 r.Least, Value.int IntKind.i64 r.Most, Value.int IntKind.i64 r.Row, Value.int IntKind.i64 r.Pause, Value.slice b5' m1 l5, Value.string p] 33)).cell? ⟨W.heap.size + 1, 2, none⟩ = some (Value.int IntKind.i64 s.Least) := by rw [hW6.out]; exact Y0.out.at_ (i := 2) rfl
    have d3 : (w5.alloc (.cells #[Value.slice a5 n1 k5, Value.int IntKind.i64 r.Slots, Value.int IntKind.i64 r.Least, Value.int IntKind.i64 r.Most, Value.int IntKind.i64 r.Row, Value.int IntKind.i64 r.Pause, Value.slice b5' m1 l5, Value.string p] 33)).cell? ⟨W.heap.size + 1, 3, none⟩ = some (Value.int IntKind.i64 s.Most) := by rw [hW6.out]; exact Y0.out.at_ (i := 3) rfl
    have d4 : (w5.alloc (.cells #[Value.slice a5 n1 k5, Value.int IntKind.i64 r.Slots, Value.int IntKind.i64 r.Least, Value.int IntKind.i64 r.Most, Value.int IntKind.i64 r.Row, Value.int IntKind.i64 r.Pause, Value.slice b5' m1 l5, Value.string p] 33)).cell? ⟨W.heap.size + 1, 4, none⟩ = some (Value.int IntKind.i64 s.Row) := by rw [hW6.out]; exact Y0.out.at_ (i := 4) rfl
    have d5 : (w5.alloc (.cells #[Value.slice a5 n1 k5, Value.int IntKind.i64 r.Slots, Value.int IntKind.i64 r.Least, Value.int IntKind.i64 r.Most, Value.int IntKind.i64 r.Row, Value.int IntKind.i64 r.Pause, Value.slice b5' m1 l5, Value.string p] 33)).cell? ⟨W.heap.size + 1, 5, none⟩ = some (Value.int IntKind.i64 s.Pause) := by rw [hW6.out]; exact Y0.out.at_ (i := 5) rfl
    have d6 : (w5.alloc (.cells #[Value.slice a5 n1 k5, Value.int IntKind.i64 r.Slots, Value.int IntKind.i64 r.Least, Value.int IntKind.i64 r.Most, Value.int IntKind.i64 r.Row, Value.int IntKind.i64 r.Pause, Value.slice b5' m1 l5, Value.string p] 33)).cell? ⟨W.heap.size + 1, 6, none⟩ = some (Value.slice b2 m2 l2) := by rw [hW6.out]; exact Y0.out.at_ (i := 6) rfl
    have d7 : (w5.alloc (.cells #[Value.slice a5 n1 k5, Value.int IntKind.i64 r.Slots, Value.int IntKind.i64 r.Least, Value.int IntKind.i64 r.Most, Value.int IntKind.i64 r.Row, Value.int IntKind.i64 r.Pause, Value.slice b5' m1 l5, Value.string p] 33)).cell? ⟨W.heap.size + 1, 7, none⟩ = some (Value.string t) := by rw [hW6.out]; exact Y0.out.at_ (i := 7) rfl
    go_wp2_with fail
    rw [hW6.out]
    clear hW6 hD6 d0 d1 d2 d3 d4 d5 d6 d7
    generalize w5.heap.size = g5 at *
    refine (hTo'.out w6 T0.out hFy.out).mono ?_
    rintro e w8 ⟨U8, rfl, hU, b8⟩
    obtain ⟨a8, k8, b8', l8, rfl⟩ := hMk'.out _ _ _ hU
    have hU8 := Lib.hid hU
    replace X0 := Lib.hid (X0.out.kept b8); replace Y0 := Lib.hid (Y0.out.kept b8); replace T0 := Lib.hid (below_on T0.out (Nat.le_refl _) b8); replace Z5 := Lib.hid (Z5.out.kept b8); replace hV := Lib.hid ((hV.out.below b8 (Nat.le_refl _)).mono b8.size)
    clear hU b8
    have hV8 := Lib.hid ((hU8.out.below (below_alloc (Below.refl _ _) (.cells #[Value.slice a8 n2 k8, Value.int IntKind.i64 s.Slots, Value.int IntKind.i64 s.Least, Value.int IntKind.i64 s.Most, Value.int IntKind.i64 s.Row, Value.int IntKind.i64 s.Pause, Value.slice b8' m2 l8, Value.string t] 33)) (Nat.le_refl _)).mono (below_alloc (Below.refl w8.heap.size w8) (.cells #[Value.slice a8 n2 k8, Value.int IntKind.i64 s.Slots, Value.int IntKind.i64 s.Least, Value.int IntKind.i64 s.Most, Value.int IntKind.i64 s.Row, Value.int IntKind.i64 s.Pause, Value.slice b8' m2 l8, Value.string t] 33)).size)
    replace hV := Lib.hid ((hV.out.below (below_alloc (Below.refl _ _) (.cells #[Value.slice a8 n2 k8, Value.int IntKind.i64 s.Slots, Value.int IntKind.i64 s.Least, Value.int IntKind.i64 s.Most, Value.int IntKind.i64 s.Row, Value.int IntKind.i64 s.Pause, Value.slice b8' m2 l8, Value.string t] 33)) (Nat.le_refl _)).mono (below_alloc (Below.refl w8.heap.size w8) (.cells #[Value.slice a8 n2 k8, Value.int IntKind.i64 s.Slots, Value.int IntKind.i64 s.Least, Value.int IntKind.i64 s.Most, Value.int IntKind.i64 s.Row, Value.int IntKind.i64 s.Pause, Value.slice b8' m2 l8, Value.string t] 33)).size)
    have Z8 := Lib.hid (Whole.made w8 33 #[Value.slice a8 n2 k8, Value.int IntKind.i64 s.Slots, Value.int IntKind.i64 s.Least, Value.int IntKind.i64 s.Most, Value.int IntKind.i64 s.Row, Value.int IntKind.i64 s.Pause, Value.slice b8' m2 l8, Value.string t] rfl)
    replace X0 := Lib.hid (X0.out.more (.cells #[Value.slice a8 n2 k8, Value.int IntKind.i64 s.Slots, Value.int IntKind.i64 s.Least, Value.int IntKind.i64 s.Most, Value.int IntKind.i64 s.Row, Value.int IntKind.i64 s.Pause, Value.slice b8' m2 l8, Value.string t] 33)); replace Y0 := Lib.hid (Y0.out.more (.cells #[Value.slice a8 n2 k8, Value.int IntKind.i64 s.Slots, Value.int IntKind.i64 s.Least, Value.int IntKind.i64 s.Most, Value.int IntKind.i64 s.Row, Value.int IntKind.i64 s.Pause, Value.slice b8' m2 l8, Value.string t] 33)); replace T0 := Lib.hid (below_alloc T0.out (.cells #[Value.slice a8 n2 k8, Value.int IntKind.i64 s.Slots, Value.int IntKind.i64 s.Least, Value.int IntKind.i64 s.Most, Value.int IntKind.i64 s.Row, Value.int IntKind.i64 s.Pause, Value.slice b8' m2 l8, Value.string t] 33)); replace Z5 := Lib.hid (Z5.out.more (.cells #[Value.slice a8 n2 k8, Value.int IntKind.i64 s.Slots, Value.int IntKind.i64 s.Least, Value.int IntKind.i64 s.Most, Value.int IntKind.i64 s.Row, Value.int IntKind.i64 s.Pause, Value.slice b8' m2 l8, Value.string t] 33))
    clear hU8
    have c0 : (w8.alloc (.cells #[Value.slice a8 n2 k8, Value.int IntKind.i64 s.Slots, Value.int IntKind.i64 s.Least, Value.int IntKind.i64 s.Most, Value.int IntKind.i64 s.Row, Value.int IntKind.i64 s.Pause, Value.slice b8' m2 l8, Value.string t] 33)).cell? ⟨g5, 0, none⟩ = some (Value.slice a5 n1 k5) := Z5.out.at_ (i := 0) rfl
    have c1 : (w8.alloc (.cells #[Value.slice a8 n2 k8, Value.int IntKind.i64 s.Slots, Value.int IntKind.i64 s.Least, Value.int IntKind.i64 s.Most, Value.int IntKind.i64 s.Row, Value.int IntKind.i64 s.Pause, Value.slice b8' m2 l8, Value.string t] 33)).cell? ⟨g5, 1, none⟩ = some (Value.int IntKind.i64 r.Slots) := Z5.out.at_ (i := 1) rfl
    have c2 : (w8.alloc (.cells #[Value.slice a8 n2 k8, Value.int IntKind.i64 s.Slots, Value.int IntKind.i64 s.Least, Value.int IntKind.i64 s.Most, Value.int IntKind.i64 s.Row, Value.int IntKind.i64 s.Pause, Value.slice b8' m2 l8, Value.string t] 33)).cell? ⟨g5, 2, none⟩ = some (Value.int IntKind.i64 r.Least) := Z5.out.at_ (i := 2) rfl
    have c3 : (w8.alloc (.cells #[Value.slice a8 n2 k8, Value.int IntKind.i64 s.Slots, Value.int IntKind.i64 s.Least, Value.int IntKind.i64 s.Most, Value.int IntKind.i64 s.Row, Value.int IntKind.i64 s.Pause, Value.slice b8' m2 l8, Value.string t] 33)).cell? ⟨g5, 3, none⟩ = some (Value.int IntKind.i64 r.Most) := Z5.out.at_ (i := 3) rfl
    have c4 : (w8.alloc (.cells #[Value.slice a8 n2 k8, Value.int IntKind.i64 s.Slots, Value.int IntKind.i64 s.Least, Value.int IntKind.i64 s.Most, Value.int IntKind.i64 s.Row, Value.int IntKind.i64 s.Pause, Value.slice b8' m2 l8, Value.string t] 33)).cell? ⟨g5, 4, none⟩ = some (Value.int IntKind.i64 r.Row) := Z5.out.at_ (i := 4) rfl
    have c5 : (w8.alloc (.cells #[Value.slice a8 n2 k8, Value.int IntKind.i64 s.Slots, Value.int IntKind.i64 s.Least, Value.int IntKind.i64 s.Most, Value.int IntKind.i64 s.Row, Value.int IntKind.i64 s.Pause, Value.slice b8' m2 l8, Value.string t] 33)).cell? ⟨g5, 5, none⟩ = some (Value.int IntKind.i64 r.Pause) := Z5.out.at_ (i := 5) rfl
    have c6 : (w8.alloc (.cells #[Value.slice a8 n2 k8, Value.int IntKind.i64 s.Slots, Value.int IntKind.i64 s.Least, Value.int IntKind.i64 s.Most, Value.int IntKind.i64 s.Row, Value.int IntKind.i64 s.Pause, Value.slice b8' m2 l8, Value.string t] 33)).cell? ⟨g5, 6, none⟩ = some (Value.slice b5' m1 l5) := Z5.out.at_ (i := 6) rfl
    have c7 : (w8.alloc (.cells #[Value.slice a8 n2 k8, Value.int IntKind.i64 s.Slots, Value.int IntKind.i64 s.Least, Value.int IntKind.i64 s.Most, Value.int IntKind.i64 s.Row, Value.int IntKind.i64 s.Pause, Value.slice b8' m2 l8, Value.string t] 33)).cell? ⟨g5, 7, none⟩ = some (Value.string p) := Z5.out.at_ (i := 7) rfl
    go_wp2_with fail
    clear c0 c1 c2 c3 c4 c5 c6 c7
    generalize (w8.alloc (.cells #[Value.slice a8 n2 k8, Value.int IntKind.i64 s.Slots, Value.int IntKind.i64 s.Least, Value.int IntKind.i64 s.Most, Value.int IntKind.i64 s.Row, Value.int IntKind.i64 s.Pause, Value.slice b8' m2 l8, Value.string t] 33)) = w9 at *
    generalize w8.heap.size = g8 at *
    refine (hIm.out _ _ w9 hV.out hV8.out).mono ?_
    rintro e w10 ⟨rfl, b10⟩
    replace X0 := Lib.hid (X0.out.kept b10); replace Y0 := Lib.hid (Y0.out.kept b10); replace T0 := Lib.hid (below_on T0.out (Nat.le_refl _) b10); replace Z5 := Lib.hid (Z5.out.kept b10); replace Z8 := Lib.hid (Z8.out.kept b10); replace hV := Lib.hid ((hV.out.below b10 (Nat.le_refl _)).mono b10.size); replace hV8 := Lib.hid ((hV8.out.below b10 (Nat.le_refl _)).mono b10.size)
    clear b10 hIm
    go_wp2_with fail
    have hS0 : Hid (∀ w' : World, Below w10.heap.size w10 w' → (w'.cell? ⟨W.heap.size, 0, none⟩ = some (Value.slice a1 n1 k1) ∧ w'.cell? ⟨W.heap.size, 1, none⟩ = some (Value.int IntKind.i64 r.Slots) ∧ w'.cell? ⟨W.heap.size, 2, none⟩ = some (Value.int IntKind.i64 r.Least) ∧ w'.cell? ⟨W.heap.size, 3, none⟩ = some (Value.int IntKind.i64 r.Most) ∧ w'.cell? ⟨W.heap.size, 4, none⟩ = some (Value.int IntKind.i64 r.Row) ∧ w'.cell? ⟨W.heap.size, 5, none⟩ = some (Value.int IntKind.i64 r.Pause) ∧ w'.cell? ⟨W.heap.size, 6, none⟩ = some (Value.slice b1 m1 l1) ∧ w'.cell? ⟨W.heap.size, 7, none⟩ = some (Value.string p) ∧ w'.cell? ⟨g5, 0, none⟩ = some (Value.slice a5 n1 k5) ∧ w'.cell? ⟨g5, 1, none⟩ = some (Value.int IntKind.i64 r.Slots) ∧ w'.cell? ⟨g5, 2, none⟩ = some (Value.int IntKind.i64 r.Least) ∧ w'.cell? ⟨g5, 3, none⟩ = some (Value.int IntKind.i64 r.Most) ∧ w'.cell? ⟨g5, 4, none⟩ = some (Value.int IntKind.i64 r.Row) ∧ w'.cell? ⟨g5, 5, none⟩ = some (Value.int IntKind.i64 r.Pause) ∧ w'.cell? ⟨g5, 6, none⟩ = some (Value.slice b5' m1 l5) ∧ w'.cell? ⟨g5, 7, none⟩ = some (Value.string p)) ∧ Below w10.heap.size w10 w') := Lib.hid fun w' hb => ⟨⟨(X0.out.kept hb).at_ (i := 0) rfl, (X0.out.kept hb).at_ (i := 1) rfl, (X0.out.kept hb).at_ (i := 2) rfl, (X0.out.kept hb).at_ (i := 3) rfl, (X0.out.kept hb).at_ (i := 4) rfl, (X0.out.kept hb).at_ (i := 5) rfl, (X0.out.kept hb).at_ (i := 6) rfl, (X0.out.kept hb).at_ (i := 7) rfl, (Z5.out.kept hb).at_ (i := 0) rfl, (Z5.out.kept hb).at_ (i := 1) rfl, (Z5.out.kept hb).at_ (i := 2) rfl, (Z5.out.kept hb).at_ (i := 3) rfl, (Z5.out.kept hb).at_ (i := 4) rfl, (Z5.out.kept hb).at_ (i := 5) rfl, (Z5.out.kept hb).at_ (i := 6) rfl, (Z5.out.kept hb).at_ (i := 7) rfl⟩, hb⟩
    have c0 : w10.cell? ⟨W.heap.size, 0, none⟩ = some (Value.slice a1 n1 k1) := X0.out.at_ (i := 0) rfl; have d0 : w10.cell? ⟨g5, 0, none⟩ = some (Value.slice a5 n1 k5) := Z5.out.at_ (i := 0) rfl
    have c1 : w10.cell? ⟨W.heap.size, 1, none⟩ = some (Value.int IntKind.i64 r.Slots) := X0.out.at_ (i := 1) rfl; have d1 : w10.cell? ⟨g5, 1, none⟩ = some (Value.int IntKind.i64 r.Slots) := Z5.out.at_ (i := 1) rfl
    have c2 : w10.cell? ⟨W.heap.size, 2, none⟩ = some (Value.int IntKind.i64 r.Least) := X0.out.at_ (i := 2) rfl; have d2 : w10.cell? ⟨g5, 2, none⟩ = some (Value.int IntKind.i64 r.Least) := Z5.out.at_ (i := 2) rfl
    have c3 : w10.cell? ⟨W.heap.size, 3, none⟩ = some (Value.int IntKind.i64 r.Most) := X0.out.at_ (i := 3) rfl; have d3 : w10.cell? ⟨g5, 3, none⟩ = some (Value.int IntKind.i64 r.Most) := Z5.out.at_ (i := 3) rfl
    have c4 : w10.cell? ⟨W.heap.size, 4, none⟩ = some (Value.int IntKind.i64 r.Row) := X0.out.at_ (i := 4) rfl; have d4 : w10.cell? ⟨g5, 4, none⟩ = some (Value.int IntKind.i64 r.Row) := Z5.out.at_ (i := 4) rfl
    have c5 : w10.cell? ⟨W.heap.size, 5, none⟩ = some (Value.int IntKind.i64 r.Pause) := X0.out.at_ (i := 5) rfl; have d5 : w10.cell? ⟨g5, 5, none⟩ = some (Value.int IntKind.i64 r.Pause) := Z5.out.at_ (i := 5) rfl
    have c6 : w10.cell? ⟨W.heap.size, 6, none⟩ = some (Value.slice b1 m1 l1) := X0.out.at_ (i := 6) rfl; have d6 : w10.cell? ⟨g5, 6, none⟩ = some (Value.slice b5' m1 l5) := Z5.out.at_ (i := 6) rfl
    have c7 : w10.cell? ⟨W.heap.size, 7, none⟩ = some (Value.string p) := X0.out.at_ (i := 7) rfl; have d7 : w10.cell? ⟨g5, 7, none⟩ = some (Value.string p) := Z5.out.at_ (i := 7) rfl
    have hR0 := Below.refl w10.heap.size w10
    have hVx := Lib.hid (fun w' (hb : Below w10.heap.size w10 w') => (LstDesk.mono (hV.out.below hb (Nat.le_refl _)) hb.size))
    go_region_held3 (fun w' => (w'.cell? ⟨W.heap.size, 0, none⟩ = some (Value.slice a1 n1 k1) ∧ w'.cell? ⟨W.heap.size, 1, none⟩ = some (Value.int IntKind.i64 r.Slots) ∧ w'.cell? ⟨W.heap.size, 2, none⟩ = some (Value.int IntKind.i64 r.Least) ∧ w'.cell? ⟨W.heap.size, 3, none⟩ = some (Value.int IntKind.i64 r.Most) ∧ w'.cell? ⟨W.heap.size, 4, none⟩ = some (Value.int IntKind.i64 r.Row) ∧ w'.cell? ⟨W.heap.size, 5, none⟩ = some (Value.int IntKind.i64 r.Pause) ∧ w'.cell? ⟨W.heap.size, 6, none⟩ = some (Value.slice b1 m1 l1) ∧ w'.cell? ⟨W.heap.size, 7, none⟩ = some (Value.string p) ∧ w'.cell? ⟨g5, 0, none⟩ = some (Value.slice a5 n1 k5) ∧ w'.cell? ⟨g5, 1, none⟩ = some (Value.int IntKind.i64 r.Slots) ∧ w'.cell? ⟨g5, 2, none⟩ = some (Value.int IntKind.i64 r.Least) ∧ w'.cell? ⟨g5, 3, none⟩ = some (Value.int IntKind.i64 r.Most) ∧ w'.cell? ⟨g5, 4, none⟩ = some (Value.int IntKind.i64 r.Row) ∧ w'.cell? ⟨g5, 5, none⟩ = some (Value.int IntKind.i64 r.Pause) ∧ w'.cell? ⟨g5, 6, none⟩ = some (Value.slice b5' m1 l5) ∧ w'.cell? ⟨g5, 7, none⟩ = some (Value.string p)) ∧ Below w10.heap.size w10 w') ((first | exact hS0.out _ hR0 | exact hS0.out _ hR0.drew | exact hS0.out _ hR0.drew.drew | exact hS0.out _ hB8.out | exact hS0.out _ hB8.out.drew | exact hS0.out _ hB8.out.drew.drew | exact hS0.out _ hB9.out | exact hS0.out _ hB9.out.drew | exact hS0.out _ hB9.out.drew.drew)) ((first | (go_at_call 10; refine (hTo.out _ (by first | exact T0.out | exact T0.out.drew | exact T0.out.drew.drew) hFx.out).mono ?_; rintro e w11 ⟨U8, rfl, hU, b8⟩; have hU8 := Lib.hid hU; have hB8 : Hid (Below w10.heap.size w10 w11) := Lib.hid (by first | exact below_on hR0 (Nat.le_refl _) b8 | exact below_on hR0.drew (Nat.le_refl _) b8 | exact below_on hR0.drew.drew (Nat.le_refl _) b8); clear hU b8) | (go_at_call 12; refine (hEq.out _ _ _ (hVx.out _ (by first | exact hB8.out | exact hB8.out.drew | exact hB8.out.drew.drew)) (by first | exact hU8.out | exact hU8.out.below (Below.refl _ _).drew (Nat.le_refl _) | exact hU8.out.below (Below.refl _ _).drew.drew (Nat.le_refl _))).mono ?_; rintro e w12 ⟨rfl, b9⟩; have hB9 : Hid (Below w10.heap.size w10 w12) := Lib.hid (by first | exact below_on hB8.out (Nat.le_refl _) b9 | exact below_on hB8.out.drew (Nat.le_refl _) b9 | exact below_on hB8.out.drew.drew (Nat.le_refl _) b9); clear b9)))
    have hB9c := hB9
    clear hS0 hR0 hVx hB8 hU8 hB9 c0 c1 c2 c3 c4 c5 c6 c7 d0 d1 d2 d3 d4 d5 d6 d7
    replace Y0 := Lib.hid (Y0.out.kept hB9c.out); replace T0 := Lib.hid (below_on T0.out (Nat.le_refl _) hB9c.out); replace Z8 := Lib.hid (Z8.out.kept hB9c.out); replace hV8 := Lib.hid ((hV8.out.below hB9c.out (Nat.le_refl _)).mono hB9c.out.size)
    clear hB9c X0 Z5 hV
    go_wp2_with fail
    have hS0 : Hid (∀ w' : World, Below w12.heap.size w12 w' → (w'.cell? ⟨W.heap.size + 1, 0, none⟩ = some (Value.slice a2 n2 k2) ∧ w'.cell? ⟨W.heap.size + 1, 1, none⟩ = some (Value.int IntKind.i64 s.Slots) ∧ w'.cell? ⟨W.heap.size + 1, 2, none⟩ = some (Value.int IntKind.i64 s.Least) ∧ w'.cell? ⟨W.heap.size + 1, 3, none⟩ = some (Value.int IntKind.i64 s.Most) ∧ w'.cell? ⟨W.heap.size + 1, 4, none⟩ = some (Value.int IntKind.i64 s.Row) ∧ w'.cell? ⟨W.heap.size + 1, 5, none⟩ = some (Value.int IntKind.i64 s.Pause) ∧ w'.cell? ⟨W.heap.size + 1, 6, none⟩ = some (Value.slice b2 m2 l2) ∧ w'.cell? ⟨W.heap.size + 1, 7, none⟩ = some (Value.string t) ∧ w'.cell? ⟨g8, 0, none⟩ = some (Value.slice a8 n2 k8) ∧ w'.cell? ⟨g8, 1, none⟩ = some (Value.int IntKind.i64 s.Slots) ∧ w'.cell? ⟨g8, 2, none⟩ = some (Value.int IntKind.i64 s.Least) ∧ w'.cell? ⟨g8, 3, none⟩ = some (Value.int IntKind.i64 s.Most) ∧ w'.cell? ⟨g8, 4, none⟩ = some (Value.int IntKind.i64 s.Row) ∧ w'.cell? ⟨g8, 5, none⟩ = some (Value.int IntKind.i64 s.Pause) ∧ w'.cell? ⟨g8, 6, none⟩ = some (Value.slice b8' m2 l8) ∧ w'.cell? ⟨g8, 7, none⟩ = some (Value.string t)) ∧ Below w12.heap.size w12 w') := Lib.hid fun w' hb => ⟨⟨(Y0.out.kept hb).at_ (i := 0) rfl, (Y0.out.kept hb).at_ (i := 1) rfl, (Y0.out.kept hb).at_ (i := 2) rfl, (Y0.out.kept hb).at_ (i := 3) rfl, (Y0.out.kept hb).at_ (i := 4) rfl, (Y0.out.kept hb).at_ (i := 5) rfl, (Y0.out.kept hb).at_ (i := 6) rfl, (Y0.out.kept hb).at_ (i := 7) rfl, (Z8.out.kept hb).at_ (i := 0) rfl, (Z8.out.kept hb).at_ (i := 1) rfl, (Z8.out.kept hb).at_ (i := 2) rfl, (Z8.out.kept hb).at_ (i := 3) rfl, (Z8.out.kept hb).at_ (i := 4) rfl, (Z8.out.kept hb).at_ (i := 5) rfl, (Z8.out.kept hb).at_ (i := 6) rfl, (Z8.out.kept hb).at_ (i := 7) rfl⟩, hb⟩
    have c0 : w12.cell? ⟨W.heap.size + 1, 0, none⟩ = some (Value.slice a2 n2 k2) := Y0.out.at_ (i := 0) rfl; have d0 : w12.cell? ⟨g8, 0, none⟩ = some (Value.slice a8 n2 k8) := Z8.out.at_ (i := 0) rfl
    have c1 : w12.cell? ⟨W.heap.size + 1, 1, none⟩ = some (Value.int IntKind.i64 s.Slots) := Y0.out.at_ (i := 1) rfl; have d1 : w12.cell? ⟨g8, 1, none⟩ = some (Value.int IntKind.i64 s.Slots) := Z8.out.at_ (i := 1) rfl
    have c2 : w12.cell? ⟨W.heap.size + 1, 2, none⟩ = some (Value.int IntKind.i64 s.Least) := Y0.out.at_ (i := 2) rfl; have d2 : w12.cell? ⟨g8, 2, none⟩ = some (Value.int IntKind.i64 s.Least) := Z8.out.at_ (i := 2) rfl
    have c3 : w12.cell? ⟨W.heap.size + 1, 3, none⟩ = some (Value.int IntKind.i64 s.Most) := Y0.out.at_ (i := 3) rfl; have d3 : w12.cell? ⟨g8, 3, none⟩ = some (Value.int IntKind.i64 s.Most) := Z8.out.at_ (i := 3) rfl
    have c4 : w12.cell? ⟨W.heap.size + 1, 4, none⟩ = some (Value.int IntKind.i64 s.Row) := Y0.out.at_ (i := 4) rfl; have d4 : w12.cell? ⟨g8, 4, none⟩ = some (Value.int IntKind.i64 s.Row) := Z8.out.at_ (i := 4) rfl
    have c5 : w12.cell? ⟨W.heap.size + 1, 5, none⟩ = some (Value.int IntKind.i64 s.Pause) := Y0.out.at_ (i := 5) rfl; have d5 : w12.cell? ⟨g8, 5, none⟩ = some (Value.int IntKind.i64 s.Pause) := Z8.out.at_ (i := 5) rfl
    have c6 : w12.cell? ⟨W.heap.size + 1, 6, none⟩ = some (Value.slice b2 m2 l2) := Y0.out.at_ (i := 6) rfl; have d6 : w12.cell? ⟨g8, 6, none⟩ = some (Value.slice b8' m2 l8) := Z8.out.at_ (i := 6) rfl
    have c7 : w12.cell? ⟨W.heap.size + 1, 7, none⟩ = some (Value.string t) := Y0.out.at_ (i := 7) rfl; have d7 : w12.cell? ⟨g8, 7, none⟩ = some (Value.string t) := Z8.out.at_ (i := 7) rfl
    have hR0 := Below.refl w12.heap.size w12
    have hVx := Lib.hid (fun w' (hb : Below w12.heap.size w12 w') => (LstDesk.mono (hV8.out.below hb (Nat.le_refl _)) hb.size))
    go_region_held3 (fun w' => (w'.cell? ⟨W.heap.size + 1, 0, none⟩ = some (Value.slice a2 n2 k2) ∧ w'.cell? ⟨W.heap.size + 1, 1, none⟩ = some (Value.int IntKind.i64 s.Slots) ∧ w'.cell? ⟨W.heap.size + 1, 2, none⟩ = some (Value.int IntKind.i64 s.Least) ∧ w'.cell? ⟨W.heap.size + 1, 3, none⟩ = some (Value.int IntKind.i64 s.Most) ∧ w'.cell? ⟨W.heap.size + 1, 4, none⟩ = some (Value.int IntKind.i64 s.Row) ∧ w'.cell? ⟨W.heap.size + 1, 5, none⟩ = some (Value.int IntKind.i64 s.Pause) ∧ w'.cell? ⟨W.heap.size + 1, 6, none⟩ = some (Value.slice b2 m2 l2) ∧ w'.cell? ⟨W.heap.size + 1, 7, none⟩ = some (Value.string t) ∧ w'.cell? ⟨g8, 0, none⟩ = some (Value.slice a8 n2 k8) ∧ w'.cell? ⟨g8, 1, none⟩ = some (Value.int IntKind.i64 s.Slots) ∧ w'.cell? ⟨g8, 2, none⟩ = some (Value.int IntKind.i64 s.Least) ∧ w'.cell? ⟨g8, 3, none⟩ = some (Value.int IntKind.i64 s.Most) ∧ w'.cell? ⟨g8, 4, none⟩ = some (Value.int IntKind.i64 s.Row) ∧ w'.cell? ⟨g8, 5, none⟩ = some (Value.int IntKind.i64 s.Pause) ∧ w'.cell? ⟨g8, 6, none⟩ = some (Value.slice b8' m2 l8) ∧ w'.cell? ⟨g8, 7, none⟩ = some (Value.string t)) ∧ Below w12.heap.size w12 w') ((first | exact hS0.out _ hR0 | exact hS0.out _ hR0.drew | exact hS0.out _ hR0.drew.drew | exact hS0.out _ hB8.out | exact hS0.out _ hB8.out.drew | exact hS0.out _ hB8.out.drew.drew | exact hS0.out _ hB9.out | exact hS0.out _ hB9.out.drew | exact hS0.out _ hB9.out.drew.drew)) ((first | (go_at_call 10; refine (hTo'.out _ (by first | exact T0.out | exact T0.out.drew | exact T0.out.drew.drew) hFy.out).mono ?_; rintro e w13 ⟨U8, rfl, hU, b8⟩; have hU8 := Lib.hid hU; have hB8 : Hid (Below w12.heap.size w12 w13) := Lib.hid (by first | exact below_on hR0 (Nat.le_refl _) b8 | exact below_on hR0.drew (Nat.le_refl _) b8 | exact below_on hR0.drew.drew (Nat.le_refl _) b8); clear hU b8) | (go_at_call 12; refine (hEq'.out _ _ _ (hVx.out _ (by first | exact hB8.out | exact hB8.out.drew | exact hB8.out.drew.drew)) (by first | exact hU8.out | exact hU8.out.below (Below.refl _ _).drew (Nat.le_refl _) | exact hU8.out.below (Below.refl _ _).drew.drew (Nat.le_refl _))).mono ?_; rintro e w14 ⟨rfl, b9⟩; have hB9 : Hid (Below w12.heap.size w12 w14) := Lib.hid (by first | exact below_on hB8.out (Nat.le_refl _) b9 | exact below_on hB8.out.drew (Nat.le_refl _) b9 | exact below_on hB8.out.drew.drew (Nat.le_refl _) b9); clear b9)))
    have hT9 : Hid (Below W.heap.size W w14) := Lib.hid (below_on T0.out (Nat.le_refl _) hB9.out)
    clear hS0 hR0 hVx hB8 hU8 hB9 c0 c1 c2 c3 c4 c5 c6 c7 d0 d1 d2 d3 d4 d5 d6 d7
    go_wp2_with fail
    go_ret
    exact ⟨rfl, by first | exact hT9.out | exact hT9.out.drew⟩

theorem own : ownKnob Try.prog.godebug = none := by kernel_rfl
theorem laid : laidOutB Try.prog = true := by kernel_rfl

set_option maxRecDepth 100000 in
theorem contract (H : Type) (enc : TypeId × Value → H) (W : World) (base : Nat) (args : Array Value) (ds gs : List (DataW H)) (before : List MemPlace)
    (hval : ∀ (j : Nat) t v, Try.f4.params[j]? = some t → args[j]? = some v → Value.okWide Try.prog W .any base t v)
    (hW : DataW.Whole enc Try.prog Try.f4.params.toList Rows.fnExactSameDeskSpec.vars false W args.toList ds gs before) :
    Calls Try.prog 4 args W fun e W' => ∃ v, e = .returned v ∧ Rows.fnExactSameDeskSpec.post enc Try.prog Try.f4 false true false false W args v W' := by
  have hW' := hW
  have hlt : ∀ x ∈ before, x.block < W.heap.size := fun x hx => hW'.lt x hx
  obtain ⟨p, q, hA0, hV, rfl, hfz, hnd⟩ := hW
  have hA : DataW.TrodAll enc Try.prog W 0 (fun _ => true) true Try.f4.params.toList args.toList ds p := hA0
  rw [Try.params4] at hA hval
  obtain ⟨v0, vs0, d0, ds0, p0, q0, hargs, rfl, rfl, h0, r0⟩ := trodAll_cons hA
  obtain ⟨v1, vs1, d1, ds1, p1, q1, rfl, rfl, rfl, h1, r1⟩ := trodAll_cons r0
  obtain ⟨rfl, rfl, rfl⟩ := trodAll_nil r1
  obtain rfl : args = #[v0, v1] := by first | exact Array.ext' (by exact hargs) | (cases args; simp_all)
  obtain ⟨rfl, rfl⟩ := trodVars_none hV
  clear hA0
  have k0 := h0
  have k1 := h1
  obtain ⟨a0, L0, w0⟩ := openDesk (enc := enc) (hval 0 27 v0 rfl rfl) h0
  obtain ⟨a1, L1, w1⟩ := openDesk (enc := enc) (hval 1 27 v1 rfl rfl) h1
  simp only [List.append_nil] at hW' hlt
  refine (walk v0 a0 w0 v1 a1 w1 W L0 L1).mono fun e W' ⟨he, hb⟩ => ?_
  subst he
  exact ⟨_, rfl, Go.Lst.post_new (pv := []) hW' (fun _ _ _ => (trodAll_cons_mk (shut_bool Try.underlying4 _) trodAll_mk0)) (fun sp hsp => (trodAll_cons_mk (WideElems.Trod_stays laid (by kernel_rfl) (of_decide_eq_true (by kernel_rfl)) k0 (fun x hx => hb.same (hlt x (by simp [hx]))) (fun x hx => hsp x (by simp [hx]))) (trodAll_cons_mk (WideElems.Trod_stays laid (by kernel_rfl) (of_decide_eq_true (by kernel_rfl)) k1 (fun x hx => hb.same (hlt x (by simp [hx]))) (fun x hx => hsp x (by simp [hx]))) trodAll_mk0))) (fun _ _ => rfl) (by simp)
    hb (ok_one (by kernel_rfl) rfl (okWide_bool_mk Try.underlying4 _))⟩

set_option maxRecDepth 100000 in
theorem lifted (os : Os) (started : os.Started) (H : Type) (enc : TypeId × Value → H) :
    ReturnsInHanded {} Try.checked os 4 .any (Rows.fnExactSameDeskSpec.pre6 enc Try.prog Try.f4 Rows.fnExactSameDeskRow.domain false) (Rows.fnExactSameDeskSpec.post enc Try.prog Try.f4 false true false false) := by
  refine returnsInHanded_of_change (C := Try.checked) own started (by kernel_rfl) Try.func4
    (ChangeSpec.witness6 (enc := enc) (C := Try.checked) false ⟨#[], #[.agg #[.slice none 0 0, .int .i64 0, .int .i64 0, .int .i64 0, .int .i64 0, .int .i64 0, .slice none 0 0, .string ⟨#[]⟩], .agg #[.slice none 0 0, .int .i64 0, .int .i64 0, .int .i64 0, .int .i64 0, .int .i64 0, .slice none 0 0, .string ⟨#[]⟩]], []⟩ 8 (by kernel_rfl) (by kernel_rfl) (by kernel_rfl) (by kernel_rfl)) ?_
  intro W base args ds gs before hval hW _ _
  exact contract H enc W base args ds gs before hval hW

set_option maxRecDepth 100000 in
theorem proved : Rows.FnExactSameDeskSaid :=
  OpenClaim.holds_of_wide 4 Try.f4 rfl rfl rfl rfl rfl rfl rfl ⟨rfl, rfl, rfl, rfl, rfl⟩ rfl rfl rfl rfl rfl (by kernel_rfl) Try.func4 (by kernel_rfl)
    (of_decide_eq_true (by kernel_rfl)) (by unfold Func.isWrapper; first | (rw [if_pos (by decide +kernel)]; kernel_rfl) | (rw [if_neg (by decide +kernel)]; exact ⟨rfl, rfl⟩))
    (fun os started H enc _ => lifted os started H enc)
end Go.Proofs.Ytpolhjkjgbfdhaa.exactSameDesk
