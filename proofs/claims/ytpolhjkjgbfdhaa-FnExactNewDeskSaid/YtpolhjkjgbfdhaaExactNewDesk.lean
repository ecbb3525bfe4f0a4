/- The program's NewDesk and the model's answer alike, and its memory is its own. -/
import Derived.Test.YtpolhjkjgbfdhaaRows
import Derived.Test.YtpolhjkjgbfdhaaNewDesk
import Derived.ProofKit
import Derived.OpenShut
namespace Go.Proofs.Ytpolhjkjgbfdhaa.exactNewDesk
open Go.ChangeShapes Go.WideShapes Go.ChangeAt Go.RowKit Go.Lst

/-- A new desk's value, its slices laid open. -/
theorem opened {A B : Nat} {w : World} {V : Value} {cj ci : List Value} (h : OwnDesk A B w V newD.rule newD.pat 2 2 cj ci) : ∃ a1 k1 b1 l1, V = .agg #[Value.slice a1 2 k1, Value.int IntKind.i64 3, Value.int IntKind.i64 1, Value.int IntKind.i64 2, Value.int IntKind.i64 2, Value.int IntKind.i64 1, Value.slice b1 2 l1, Value.string { data := #[100, 100, 46] }] := by
  obtain ⟨vj, vc, M, rfl, hM, hj, hc⟩ := h
  obtain ⟨a1, k1, rfl, -⟩ := hj.lstK (Nat.le_refl _)
  obtain ⟨b1, l1, rfl, -⟩ := hc.lstK (Nat.le_refl _)
  exact ⟨a1, k1, b1, l1, rfl⟩
theorem desk_own {A B : Nat} {w : World} {V : Value} (h : OwnDesk A B w V newD.rule newD.pat 2 2 (cellsJob newD.jobs) (newD.counts.map (Value.int .i64))) : LstDesk B w V newD := OwnDesk.lst (d := newD) h
set_option maxHeartbeats 8000000 in
set_option maxRecDepth 100000 in
theorem walk (W : World) : Calls Try.prog 5 #[] W fun e w' => e = .returned (.bool true) ∧ Below W.heap.size W w' := by
  have hS := Lib.hid (fun w' => specNewDesk_any w')
  have hI := Lib.hid (fun w' => newDesk_any w')
  have hEq := Lib.hid (fun U1 U2 B w' (h1 : LstDesk B w' U1 newD) (h2 : LstDesk B w' U2 newD) (hB : B ≤ w'.heap.size) => eqDesk_yes B U1 U2 newD w' h1 h2 (by unfold maxLen; decide) hB)
  go_enter Try.func5, Try.ntmps5
  go_wp2_with fail
  refine (hS.out W).mono ?_
  rintro e w1 ⟨V0, rfl, h0, b1⟩
  obtain ⟨a0, k0, c0, l0, rfl⟩ := opened h0
  have O0 := Lib.hid h0
  have T1 := Lib.hid b1
  clear h0 b1 hS
  have X0 := Lib.hid (Whole.made w1 33 #[Value.slice a0 2 k0, Value.int IntKind.i64 3, Value.int IntKind.i64 1, Value.int IntKind.i64 2, Value.int IntKind.i64 2, Value.int IntKind.i64 1, Value.slice c0 2 l0, Value.string { data := #[100, 100, 46] }] rfl)
  have L0 := Lib.hid ((desk_own O0.out).below (below_alloc (Below.refl _ _) (.cells #[Value.slice a0 2 k0, Value.int IntKind.i64 3, Value.int IntKind.i64 1, Value.int IntKind.i64 2, Value.int IntKind.i64 2, Value.int IntKind.i64 1, Value.slice c0 2 l0, Value.string { data := #[100, 100, 46] }] 33)) (Nat.le_refl _))
  have T2 := Lib.hid (below_alloc T1.out (.cells #[Value.slice a0 2 k0, Value.int IntKind.i64 3, Value.int IntKind.i64 1, Value.int IntKind.i64 2, Value.int IntKind.i64 2, Value.int IntKind.i64 1, Value.slice c0 2 l0, Value.string { data := #[100, 100, 46] }] 33))
  have G0 := Lib.hid (show w1.heap.size < (w1.alloc (.cells #[Value.slice a0 2 k0, Value.int IntKind.i64 3, Value.int IntKind.i64 1, Value.int IntKind.i64 2, Value.int IntKind.i64 2, Value.int IntKind.i64 1, Value.slice c0 2 l0, Value.string { data := #[100, 100, 46] }] 33)).heap.size by rw [World.size_alloc]; omega)
  clear O0 T1
  go_wp2_with fail
  generalize (w1.alloc (.cells #[Value.slice a0 2 k0, Value.int IntKind.i64 3, Value.int IntKind.i64 1, Value.int IntKind.i64 2, Value.int IntKind.i64 2, Value.int IntKind.i64 1, Value.slice c0 2 l0, Value.string { data := #[100, 100, 46] }] 33)) = w2 at *
  generalize w1.heap.size = g0 at *
  refine (hI.out w2).mono ?_
  rintro e w3 ⟨V1, rfl, h1, b3⟩
  obtain ⟨a1, k1, c1, l1, rfl⟩ := opened h1
  replace X0 := Lib.hid ((X0.out.kept b3).more (.cells #[Value.slice a1 2 k1, Value.int IntKind.i64 3, Value.int IntKind.i64 1, Value.int IntKind.i64 2, Value.int IntKind.i64 2, Value.int IntKind.i64 1, Value.slice c1 2 l1, Value.string { data := #[100, 100, 46] }] 33)); replace L0 := Lib.hid (((L0.out.below b3 (Nat.le_of_lt G0.out)).below (below_alloc (Below.refl w3.heap.size w3) (.cells #[Value.slice a1 2 k1, Value.int IntKind.i64 3, Value.int IntKind.i64 1, Value.int IntKind.i64 2, Value.int IntKind.i64 2, Value.int IntKind.i64 1, Value.slice c1 2 l1, Value.string { data := #[100, 100, 46] }] 33)) (Nat.le_trans (Nat.le_of_lt G0.out) b3.size)))
  have T3 := Lib.hid (below_alloc (below_on T2.out (Nat.le_refl _) b3) (.cells #[Value.slice a1 2 k1, Value.int IntKind.i64 3, Value.int IntKind.i64 1, Value.int IntKind.i64 2, Value.int IntKind.i64 2, Value.int IntKind.i64 1, Value.slice c1 2 l1, Value.string { data := #[100, 100, 46] }] 33))
  have S3 := Lib.hid (show W.heap.size ≤ w2.heap.size from T2.out.size)
  have S3b := Lib.hid b3.size
  have X1 := Lib.hid (Whole.made w3 33 #[Value.slice a1 2 k1, Value.int IntKind.i64 3, Value.int IntKind.i64 1, Value.int IntKind.i64 2, Value.int IntKind.i64 2, Value.int IntKind.i64 1, Value.slice c1 2 l1, Value.string { data := #[100, 100, 46] }] rfl)
  have O1 := Lib.hid (h1.below (below_alloc (Below.refl w3.heap.size w3) (.cells #[Value.slice a1 2 k1, Value.int IntKind.i64 3, Value.int IntKind.i64 1, Value.int IntKind.i64 2, Value.int IntKind.i64 2, Value.int IntKind.i64 1, Value.slice c1 2 l1, Value.string { data := #[100, 100, 46] }] 33)) (Nat.le_refl _))
  have G1 := Lib.hid (show w3.heap.size < (w3.alloc (.cells #[Value.slice a1 2 k1, Value.int IntKind.i64 3, Value.int IntKind.i64 1, Value.int IntKind.i64 2, Value.int IntKind.i64 2, Value.int IntKind.i64 1, Value.slice c1 2 l1, Value.string { data := #[100, 100, 46] }] 33)).heap.size by rw [World.size_alloc]; omega)
  clear h1 b3 T2
  have e0 : (w3.alloc (.cells #[Value.slice a1 2 k1, Value.int IntKind.i64 3, Value.int IntKind.i64 1, Value.int IntKind.i64 2, Value.int IntKind.i64 2, Value.int IntKind.i64 1, Value.slice c1 2 l1, Value.string { data := #[100, 100, 46] }] 33)).cell? ⟨g0, 0, none⟩ = some (Value.slice a0 2 k0) := X0.out.at_ (i := 0) rfl
  have e1 : (w3.alloc (.cells #[Value.slice a1 2 k1, Value.int IntKind.i64 3, Value.int IntKind.i64 1, Value.int IntKind.i64 2, Value.int IntKind.i64 2, Value.int IntKind.i64 1, Value.slice c1 2 l1, Value.string { data := #[100, 100, 46] }] 33)).cell? ⟨g0, 1, none⟩ = some (Value.int IntKind.i64 3) := X0.out.at_ (i := 1) rfl
  have e2 : (w3.alloc (.cells #[Value.slice a1 2 k1, Value.int IntKind.i64 3, Value.int IntKind.i64 1, Value.int IntKind.i64 2, Value.int IntKind.i64 2, Value.int IntKind.i64 1, Value.slice c1 2 l1, Value.string { data := #[100, 100, 46] }] 33)).cell? ⟨g0, 2, none⟩ = some (Value.int IntKind.i64 1) := X0.out.at_ (i := 2) rfl
  have e3 : (w3.alloc (.cells #[Value.slice a1 2 k1, Value.int IntKind.i64 3, Value.int IntKind.i64 1, Value.int IntKind.i64 2, Value.int IntKind.i64 2, Value.int IntKind.i64 1, Value.slice c1 2 l1, Value.string { data := #[100, 100, 46] }] 33)).cell? ⟨g0, 3, none⟩ = some (Value.int IntKind.i64 2) := X0.out.at_ (i := 3) rfl
  have e4 : (w3.alloc (.cells #[Value.slice a1 2 k1, Value.int IntKind.i64 3, Value.int IntKind.i64 1, Value.int IntKind.i64 2, Value.int IntKind.i64 2, Value.int IntKind.i64 1, Value.slice c1 2 l1, Value.string { data := #[100, 100, 46] }] 33)).cell? ⟨g0, 4, none⟩ = some (Value.int IntKind.i64 2) := X0.out.at_ (i := 4) rfl
  have e5 : (w3.alloc (.cells #[Value.slice a1 2 k1, Value.int IntKind.i64 3, Value.int IntKind.i64 1, Value.int IntKind.i64 2, Value.int IntKind.i64 2, Value.int IntKind.i64 1, Value.slice c1 2 l1, Value.string { data := #[100, 100, 46] }] 33)).cell? ⟨g0, 5, none⟩ = some (Value.int IntKind.i64 1) := X0.out.at_ (i := 5) rfl
  have e6 : (w3.alloc (.cells #[Value.slice a1 2 k1, Value.int IntKind.i64 3, Value.int IntKind.i64 1, Value.int IntKind.i64 2, Value.int IntKind.i64 2, Value.int IntKind.i64 1, Value.slice c1 2 l1, Value.string { data := #[100, 100, 46] }] 33)).cell? ⟨g0, 6, none⟩ = some (Value.slice c0 2 l0) := X0.out.at_ (i := 6) rfl
  have e7 : (w3.alloc (.cells #[Value.slice a1 2 k1, Value.int IntKind.i64 3, Value.int IntKind.i64 1, Value.int IntKind.i64 2, Value.int IntKind.i64 2, Value.int IntKind.i64 1, Value.slice c1 2 l1, Value.string { data := #[100, 100, 46] }] 33)).cell? ⟨g0, 7, none⟩ = some (Value.string { data := #[100, 100, 46] }) := X0.out.at_ (i := 7) rfl
  go_wp2_with fail
  generalize (w3.alloc (.cells #[Value.slice a1 2 k1, Value.int IntKind.i64 3, Value.int IntKind.i64 1, Value.int IntKind.i64 2, Value.int IntKind.i64 2, Value.int IntKind.i64 1, Value.slice c1 2 l1, Value.string { data := #[100, 100, 46] }] 33)) = w4 at *
  generalize w2.heap.size = g2 at *
  generalize w3.heap.size = g1 at *
  clear e0 e1 e2 e3 e4 e5 e6 e7
  refine (hEq.out _ _ g1 w4 (desk_own O1.out) (L0.out.mono (Nat.le_trans (Nat.le_of_lt G0.out) S3b.out)) (Nat.le_of_lt G1.out)).mono ?_
  rintro e w5 ⟨rfl, b5⟩
  replace X0 := Lib.hid (X0.out.kept b5); replace X1 := Lib.hid (X1.out.kept b5); replace L0 := Lib.hid (L0.out.below b5 (Nat.le_trans (Nat.le_of_lt G0.out) (Nat.le_trans S3b.out (Nat.le_of_lt G1.out)))); replace O1 := Lib.hid (O1.out.below b5 (Nat.le_of_lt G1.out)); replace T3 := Lib.hid (below_on T3.out (Nat.le_refl _) b5); replace G1 := Lib.hid (Nat.lt_of_lt_of_le G1.out b5.size)
  clear b5
  have d0 : w5.cell? ⟨g1, 0, none⟩ = some (Value.slice a1 2 k1) := X1.out.at_ (i := 0) rfl
  have d1 : w5.cell? ⟨g1, 1, none⟩ = some (Value.int IntKind.i64 3) := X1.out.at_ (i := 1) rfl
  have d2 : w5.cell? ⟨g1, 2, none⟩ = some (Value.int IntKind.i64 1) := X1.out.at_ (i := 2) rfl
  have d3 : w5.cell? ⟨g1, 3, none⟩ = some (Value.int IntKind.i64 2) := X1.out.at_ (i := 3) rfl
  have d4 : w5.cell? ⟨g1, 4, none⟩ = some (Value.int IntKind.i64 2) := X1.out.at_ (i := 4) rfl
  have d5 : w5.cell? ⟨g1, 5, none⟩ = some (Value.int IntKind.i64 1) := X1.out.at_ (i := 5) rfl
  have d6 : w5.cell? ⟨g1, 6, none⟩ = some (Value.slice c1 2 l1) := X1.out.at_ (i := 6) rfl
  have d7 : w5.cell? ⟨g1, 7, none⟩ = some (Value.string { data := #[100, 100, 46] }) := X1.out.at_ (i := 7) rfl
  go_wp2_with fail
  refine (markDesk_any g2 g1 _ newD.rule newD.pat 2 2 _ _ 1 w5 O1.out (Nat.le_of_lt G1.out) (by omega) (by omega) (by omega) (by omega) (Nat.le_trans S3b.out (Nat.le_of_lt G1.out))).mono ?_
  rintro e w6 ⟨rfl, om, b6, s6, k6⟩
  have O2 := Lib.hid om
  replace X0 := Lib.hid (k6 _ _ _ X0.out (.inl G0.out)); replace X1 := Lib.hid (k6 _ _ _ X1.out (.inr (Nat.le_refl _))); replace L0 := Lib.hid (L0.out.below b6 (Nat.le_of_lt G0.out)); replace T3 := Lib.hid (T3.out.trans (b6.mono S3.out)); replace G1 := Lib.hid (Nat.lt_of_lt_of_le G1.out s6)
  clear om b6 s6 k6 O1 d0 d1 d2 d3 d4 d5 d6 d7
  have d0 : w6.cell? ⟨g1, 0, none⟩ = some (Value.slice a1 2 k1) := X1.out.at_ (i := 0) rfl
  have d1 : w6.cell? ⟨g1, 1, none⟩ = some (Value.int IntKind.i64 3) := X1.out.at_ (i := 1) rfl
  have d2 : w6.cell? ⟨g1, 2, none⟩ = some (Value.int IntKind.i64 1) := X1.out.at_ (i := 2) rfl
  have d3 : w6.cell? ⟨g1, 3, none⟩ = some (Value.int IntKind.i64 2) := X1.out.at_ (i := 3) rfl
  have d4 : w6.cell? ⟨g1, 4, none⟩ = some (Value.int IntKind.i64 2) := X1.out.at_ (i := 4) rfl
  have d5 : w6.cell? ⟨g1, 5, none⟩ = some (Value.int IntKind.i64 1) := X1.out.at_ (i := 5) rfl
  have d6 : w6.cell? ⟨g1, 6, none⟩ = some (Value.slice c1 2 l1) := X1.out.at_ (i := 6) rfl
  have d7 : w6.cell? ⟨g1, 7, none⟩ = some (Value.string { data := #[100, 100, 46] }) := X1.out.at_ (i := 7) rfl
  go_wp2_with fail
  refine (heldDesk_any g2 g1 _ newD.rule newD.pat 2 2 1 w6 O2.out (Nat.le_of_lt G1.out) (by omega) (by omega) (by omega) (by omega)).mono ?_
  rintro e w7 ⟨rfl, b7⟩
  replace X0 := Lib.hid (X0.out.kept b7); replace X1 := Lib.hid (X1.out.kept b7); replace L0 := Lib.hid (L0.out.below b7 (Nat.le_trans (Nat.le_of_lt G0.out) (Nat.le_trans S3b.out (Nat.le_of_lt G1.out)))); replace O2 := Lib.hid (O2.out.below b7 (Nat.le_of_lt G1.out)); replace T3 := Lib.hid (below_on T3.out (Nat.le_refl _) b7); replace G1 := Lib.hid (Nat.lt_of_lt_of_le G1.out b7.size)
  clear b7 d0 d1 d2 d3 d4 d5 d6 d7
  go_wp2_with fail
  refine (hI.out w7).mono ?_
  rintro e w8 ⟨V2, rfl, h2, b8⟩
  obtain ⟨a2, k2, c2, l2, rfl⟩ := opened h2
  have L2 := Lib.hid ((desk_own h2).below (below_alloc (Below.refl w8.heap.size w8) (.cells #[Value.slice a2 2 k2, Value.int IntKind.i64 3, Value.int IntKind.i64 1, Value.int IntKind.i64 2, Value.int IntKind.i64 2, Value.int IntKind.i64 1, Value.slice c2 2 l2, Value.string { data := #[100, 100, 46] }] 33)) (Nat.le_refl _))
  replace X0 := Lib.hid ((X0.out.kept b8).more (.cells #[Value.slice a2 2 k2, Value.int IntKind.i64 3, Value.int IntKind.i64 1, Value.int IntKind.i64 2, Value.int IntKind.i64 2, Value.int IntKind.i64 1, Value.slice c2 2 l2, Value.string { data := #[100, 100, 46] }] 33)); replace X1 := Lib.hid ((X1.out.kept b8).more (.cells #[Value.slice a2 2 k2, Value.int IntKind.i64 3, Value.int IntKind.i64 1, Value.int IntKind.i64 2, Value.int IntKind.i64 2, Value.int IntKind.i64 1, Value.slice c2 2 l2, Value.string { data := #[100, 100, 46] }] 33)); replace L0 := Lib.hid ((L0.out.below b8 (Nat.le_trans (Nat.le_of_lt G0.out) (Nat.le_trans S3b.out (Nat.le_of_lt G1.out)))).below (below_alloc (Below.refl w8.heap.size w8) (.cells #[Value.slice a2 2 k2, Value.int IntKind.i64 3, Value.int IntKind.i64 1, Value.int IntKind.i64 2, Value.int IntKind.i64 2, Value.int IntKind.i64 1, Value.slice c2 2 l2, Value.string { data := #[100, 100, 46] }] 33)) (Nat.le_trans (Nat.le_trans (Nat.le_of_lt G0.out) (Nat.le_trans S3b.out (Nat.le_of_lt G1.out))) b8.size)); replace O2 := Lib.hid ((O2.out.below b8 (Nat.le_of_lt G1.out)).below (below_alloc (Below.refl w8.heap.size w8) (.cells #[Value.slice a2 2 k2, Value.int IntKind.i64 3, Value.int IntKind.i64 1, Value.int IntKind.i64 2, Value.int IntKind.i64 2, Value.int IntKind.i64 1, Value.slice c2 2 l2, Value.string { data := #[100, 100, 46] }] 33)) (Nat.le_trans (Nat.le_of_lt G1.out) b8.size)); replace T3 := Lib.hid (below_alloc (below_on T3.out (Nat.le_refl _) b8) (.cells #[Value.slice a2 2 k2, Value.int IntKind.i64 3, Value.int IntKind.i64 1, Value.int IntKind.i64 2, Value.int IntKind.i64 2, Value.int IntKind.i64 1, Value.slice c2 2 l2, Value.string { data := #[100, 100, 46] }] 33))
  have G8 := Lib.hid (show w8.heap.size ≤ (w8.alloc (.cells #[Value.slice a2 2 k2, Value.int IntKind.i64 3, Value.int IntKind.i64 1, Value.int IntKind.i64 2, Value.int IntKind.i64 2, Value.int IntKind.i64 1, Value.slice c2 2 l2, Value.string { data := #[100, 100, 46] }] 33)).heap.size by rw [World.size_alloc]; omega)
  have G9 := Lib.hid (Nat.lt_of_lt_of_le G1.out b8.size)
  clear h2 b8 G1
  have e0 : (w8.alloc (.cells #[Value.slice a2 2 k2, Value.int IntKind.i64 3, Value.int IntKind.i64 1, Value.int IntKind.i64 2, Value.int IntKind.i64 2, Value.int IntKind.i64 1, Value.slice c2 2 l2, Value.string { data := #[100, 100, 46] }] 33)).cell? ⟨g0, 0, none⟩ = some (Value.slice a0 2 k0) := X0.out.at_ (i := 0) rfl
  have e1 : (w8.alloc (.cells #[Value.slice a2 2 k2, Value.int IntKind.i64 3, Value.int IntKind.i64 1, Value.int IntKind.i64 2, Value.int IntKind.i64 2, Value.int IntKind.i64 1, Value.slice c2 2 l2, Value.string { data := #[100, 100, 46] }] 33)).cell? ⟨g0, 1, none⟩ = some (Value.int IntKind.i64 3) := X0.out.at_ (i := 1) rfl
  have e2 : (w8.alloc (.cells #[Value.slice a2 2 k2, Value.int IntKind.i64 3, Value.int IntKind.i64 1, Value.int IntKind.i64 2, Value.int IntKind.i64 2, Value.int IntKind.i64 1, Value.slice c2 2 l2, Value.string { data := #[100, 100, 46] }] 33)).cell? ⟨g0, 2, none⟩ = some (Value.int IntKind.i64 1) := X0.out.at_ (i := 2) rfl
  have e3 : (w8.alloc (.cells #[Value.slice a2 2 k2, Value.int IntKind.i64 3, Value.int IntKind.i64 1, Value.int IntKind.i64 2, Value.int IntKind.i64 2, Value.int IntKind.i64 1, Value.slice c2 2 l2, Value.string { data := #[100, 100, 46] }] 33)).cell? ⟨g0, 3, none⟩ = some (Value.int IntKind.i64 2) := X0.out.at_ (i := 3) rfl
  have e4 : (w8.alloc (.cells #[Value.slice a2 2 k2, Value.int IntKind.i64 3, Value.int IntKind.i64 1, Value.int IntKind.i64 2, Value.int IntKind.i64 2, Value.int IntKind.i64 1, Value.slice c2 2 l2, Value.string { data := #[100, 100, 46] }] 33)).cell? ⟨g0, 4, none⟩ = some (Value.int IntKind.i64 2) := X0.out.at_ (i := 4) rfl
  have e5 : (w8.alloc (.cells #[Value.slice a2 2 k2, Value.int IntKind.i64 3, Value.int IntKind.i64 1, Value.int IntKind.i64 2, Value.int IntKind.i64 2, Value.int IntKind.i64 1, Value.slice c2 2 l2, Value.string { data := #[100, 100, 46] }] 33)).cell? ⟨g0, 5, none⟩ = some (Value.int IntKind.i64 1) := X0.out.at_ (i := 5) rfl
  have e6 : (w8.alloc (.cells #[Value.slice a2 2 k2, Value.int IntKind.i64 3, Value.int IntKind.i64 1, Value.int IntKind.i64 2, Value.int IntKind.i64 2, Value.int IntKind.i64 1, Value.slice c2 2 l2, Value.string { data := #[100, 100, 46] }] 33)).cell? ⟨g0, 6, none⟩ = some (Value.slice c0 2 l0) := X0.out.at_ (i := 6) rfl
  have e7 : (w8.alloc (.cells #[Value.slice a2 2 k2, Value.int IntKind.i64 3, Value.int IntKind.i64 1, Value.int IntKind.i64 2, Value.int IntKind.i64 2, Value.int IntKind.i64 1, Value.slice c2 2 l2, Value.string { data := #[100, 100, 46] }] 33)).cell? ⟨g0, 7, none⟩ = some (Value.string { data := #[100, 100, 46] }) := X0.out.at_ (i := 7) rfl
  go_wp2_with fail
  generalize (w8.alloc (.cells #[Value.slice a2 2 k2, Value.int IntKind.i64 3, Value.int IntKind.i64 1, Value.int IntKind.i64 2, Value.int IntKind.i64 2, Value.int IntKind.i64 1, Value.slice c2 2 l2, Value.string { data := #[100, 100, 46] }] 33)) = w9 at *
  generalize w8.heap.size = g8 at *
  clear e0 e1 e2 e3 e4 e5 e6 e7
  refine (hEq.out _ _ g8 w9 L2.out (L0.out.mono (Nat.le_trans (Nat.le_trans (Nat.le_of_lt G0.out) S3b.out) (Nat.le_of_lt G9.out))) G8.out).mono ?_
  rintro e w10 ⟨rfl, b10⟩
  replace X1 := Lib.hid (X1.out.kept b10); replace O2 := Lib.hid (O2.out.below b10 (Nat.le_trans (Nat.le_of_lt G9.out) G8.out)); replace T3 := Lib.hid (below_on T3.out (Nat.le_refl _) b10); replace G8 := Lib.hid (Nat.le_trans G8.out b10.size)
  clear b10 X0 L0 L2
  have d0 : w10.cell? ⟨g1, 0, none⟩ = some (Value.slice a1 2 k1) := X1.out.at_ (i := 0) rfl
  have d1 : w10.cell? ⟨g1, 1, none⟩ = some (Value.int IntKind.i64 3) := X1.out.at_ (i := 1) rfl
  have d2 : w10.cell? ⟨g1, 2, none⟩ = some (Value.int IntKind.i64 1) := X1.out.at_ (i := 2) rfl
  have d3 : w10.cell? ⟨g1, 3, none⟩ = some (Value.int IntKind.i64 2) := X1.out.at_ (i := 3) rfl
  have d4 : w10.cell? ⟨g1, 4, none⟩ = some (Value.int IntKind.i64 2) := X1.out.at_ (i := 4) rfl
  have d5 : w10.cell? ⟨g1, 5, none⟩ = some (Value.int IntKind.i64 1) := X1.out.at_ (i := 5) rfl
  have d6 : w10.cell? ⟨g1, 6, none⟩ = some (Value.slice c1 2 l1) := X1.out.at_ (i := 6) rfl
  have d7 : w10.cell? ⟨g1, 7, none⟩ = some (Value.string { data := #[100, 100, 46] }) := X1.out.at_ (i := 7) rfl
  go_wp2_with fail
  refine (heldDesk_any g2 g1 _ newD.rule newD.pat 2 2 1 w10 O2.out (Nat.le_trans (Nat.le_of_lt G9.out) G8.out) (by omega) (by omega) (by omega) (by omega)).mono ?_
  rintro e w11 ⟨rfl, b11⟩
  replace T3 := Lib.hid (below_on T3.out (Nat.le_refl _) b11)
  clear b11 d0 d1 d2 d3 d4 d5 d6 d7
  go_wp2_with fail
  go_ret
  exact ⟨rfl, T3.out⟩

theorem own : ownKnob Try.prog.godebug = none := by kernel_rfl
theorem laid : laidOutB Try.prog = true := by kernel_rfl

set_option maxRecDepth 100000 in
theorem contract (H : Type) (enc : TypeId × Value → H) (W : World) (base : Nat) (args : Array Value) (ds gs : List (DataW H)) (before : List MemPlace)
    (hval : ∀ (j : Nat) t v, Try.f5.params[j]? = some t → args[j]? = some v → Value.okWide Try.prog W .any base t v)
    (hW : DataW.Whole enc Try.prog Try.f5.params.toList Rows.fnExactNewDeskSpec.vars false W args.toList ds gs before) :
    Calls Try.prog 5 args W fun e W' => ∃ v, e = .returned v ∧ Rows.fnExactNewDeskSpec.post enc Try.prog Try.f5 false true false false W args v W' := by
  have hW' := hW
  have hlt : ∀ x ∈ before, x.block < W.heap.size := fun x hx => hW'.lt x hx
  obtain ⟨p, q, hA0, hV, rfl, hfz, hnd⟩ := hW
  have hA : DataW.TrodAll enc Try.prog W 0 (fun _ => true) true Try.f5.params.toList args.toList ds p := hA0
  rw [Try.params5] at hA hval
  obtain ⟨hargs, rfl, rfl⟩ := trodAll_nil hA
  obtain rfl : args = #[] := by first | exact Array.ext' (by exact hargs) | (cases args; simp_all)
  obtain ⟨rfl, rfl⟩ := trodVars_none hV
  clear hA0
  simp only [List.append_nil] at hW' hlt
  refine (walk W).mono fun e W' ⟨he, hb⟩ => ?_
  subst he
  exact ⟨_, rfl, Go.Lst.post_new (pv := []) hW' (fun _ _ _ => (trodAll_cons_mk (shut_bool Try.underlying4 _) trodAll_mk0)) (fun sp hsp => trodAll_mk0) (fun _ _ => rfl) (by simp)
    hb (ok_one (by kernel_rfl) rfl (okWide_bool_mk Try.underlying4 _))⟩

set_option maxRecDepth 100000 in
theorem lifted (os : Os) (started : os.Started) (H : Type) (enc : TypeId × Value → H) :
    ReturnsInHanded {} Try.checked os 5 .any (Rows.fnExactNewDeskSpec.pre6 enc Try.prog Try.f5 Rows.fnExactNewDeskRow.domain false) (Rows.fnExactNewDeskSpec.post enc Try.prog Try.f5 false true false false) := by
  refine returnsInHanded_of_change (C := Try.checked) own started (by kernel_rfl) Try.func5
    (ChangeSpec.witness6 (enc := enc) (C := Try.checked) false ⟨#[], #[], []⟩ 8 (by kernel_rfl) (by kernel_rfl) (by kernel_rfl) (by kernel_rfl)) ?_
  intro W base args ds gs before hval hW _ _
  exact contract H enc W base args ds gs before hval hW

set_option maxRecDepth 100000 in
theorem proved : Rows.FnExactNewDeskSaid :=
  OpenClaim.holds_of_wide 5 Try.f5 rfl rfl rfl rfl rfl rfl rfl ⟨rfl, rfl, rfl, rfl, rfl⟩ rfl rfl rfl rfl rfl (by kernel_rfl) Try.func5 (by kernel_rfl)
    (of_decide_eq_true (by kernel_rfl)) (by unfold Func.isWrapper; first | (rw [if_pos (by decide +kernel)]; kernel_rfl) | (rw [if_neg (by decide +kernel)]; exact ⟨rfl, rfl⟩))
    (fun os started H enc _ => lifted os started H enc)
end Go.Proofs.Ytpolhjkjgbfdhaa.exactNewDesk
