/- Contracts: desks compared by the law's own function; which desks are valid, and which are the same, in the model and in the program. -/
import Derived.Test.YtpolhjkjgbfdhaaDesk
import Derived.Test.YtpolhjkjgbfdhaaEqInts
namespace Go.Proofs.Ytpolhjkjgbfdhaa
open Go.RowKit Go.Lst

theorem ret_below {P : Program} {f : FuncId} {args : Array Value} {w : World} {v : Value} (h : Calls P f args w (Ret v w)) : Calls P f args w fun e w' => e = .returned v ∧ Below w.heap.size w w' :=
  h.mono fun _ _ hr => hr.below
theorem same_below {P : Program} {f : FuncId} {args : Array Value} {w : World} {v : Value} (h : Calls P f args w fun e w' => e = .returned v ∧ w = w') : Calls P f args w fun e w' => e = .returned v ∧ Below w.heap.size w w' :=
  h.mono fun _ _ ⟨he, hw⟩ => ⟨he, by rw [← hw]; exact Below.refl _ _⟩
set_option maxHeartbeats 4000000 in
set_option maxRecDepth 100000 in
theorem eqDesk_yes (B : Nat) (V1 V2 : Value) (d : DeskD) (w : World) (h1 : LstDesk B w V1 d) (h2 : LstDesk B w V2 d) (hp : d.pat.size ≤ maxLen) (hB : B ≤ w.heap.size) :
    Calls Try.prog 12 #[V1, V2] w fun e w' => e = .returned (.bool true) ∧ Below w.heap.size w w' := by
  obtain ⟨vj1, vc1, rfl, hj1, hc1⟩ := h1
  obtain ⟨vj2, vc2, rfl, hj2, hc2⟩ := h2
  have hJ := Lib.hid (fun w' (hb : Below w.heap.size w w') => eqJobS_yes w'.heap.size vj1 vj2 d.jobs w' (((hj1.mono hB).below hb (Nat.le_refl _)).mono hb.size) (((hj2.mono hB).below hb (Nat.le_refl _)).mono hb.size) (Nat.le_refl _))
  have hC := Lib.hid (fun w' (hb : Below w.heap.size w w') => ret_below (eqInt64S_yes w.heap.size vc1 vc2 d.counts w' ((hc1.mono hB).below hb (Nat.le_refl _)) ((hc2.mono hB).below hb (Nat.le_refl _))))
  have hR := Lib.hid (fun w' => eqShiftRule_yes d.rule w')
  obtain ⟨a1, k1, rfl, -⟩ := hj1
  obtain ⟨b1, l1, rfl, -⟩ := hc1
  obtain ⟨a2, k2, rfl, -⟩ := hj2
  obtain ⟨b2, l2, rfl, -⟩ := hc2
  generalize d.jobs.length = n1 at *
  generalize d.counts.length = m1 at *
  generalize d.rule = r at *
  generalize d.pat = p at *
  clear hB
  have X0 := Lib.hid ((Whole.made w 33 #[Value.slice a1 n1 k1, Value.int IntKind.i64 r.Slots, Value.int IntKind.i64 r.Least, Value.int IntKind.i64 r.Most, Value.int IntKind.i64 r.Row, Value.int IntKind.i64 r.Pause, Value.slice b1 m1 l1, Value.string p] rfl).more (.cells #[Value.slice a2 n1 k2, Value.int IntKind.i64 r.Slots, Value.int IntKind.i64 r.Least, Value.int IntKind.i64 r.Most, Value.int IntKind.i64 r.Row, Value.int IntKind.i64 r.Pause, Value.slice b2 m1 l2, Value.string p] 33))
  have X1 := Lib.hid (Whole.made (w.alloc (.cells #[Value.slice a1 n1 k1, Value.int IntKind.i64 r.Slots, Value.int IntKind.i64 r.Least, Value.int IntKind.i64 r.Most, Value.int IntKind.i64 r.Row, Value.int IntKind.i64 r.Pause, Value.slice b1 m1 l1, Value.string p] 33)) 33 #[Value.slice a2 n1 k2, Value.int IntKind.i64 r.Slots, Value.int IntKind.i64 r.Least, Value.int IntKind.i64 r.Most, Value.int IntKind.i64 r.Row, Value.int IntKind.i64 r.Pause, Value.slice b2 m1 l2, Value.string p] (show w.heap.size + 1 = _ by rw [World.size_alloc]))
  have B2 := Lib.hid (below_alloc (below_alloc (Below.refl w.heap.size w) (.cells #[Value.slice a1 n1 k1, Value.int IntKind.i64 r.Slots, Value.int IntKind.i64 r.Least, Value.int IntKind.i64 r.Most, Value.int IntKind.i64 r.Row, Value.int IntKind.i64 r.Pause, Value.slice b1 m1 l1, Value.string p] 33)) (.cells #[Value.slice a2 n1 k2, Value.int IntKind.i64 r.Slots, Value.int IntKind.i64 r.Least, Value.int IntKind.i64 r.Most, Value.int IntKind.i64 r.Row, Value.int IntKind.i64 r.Pause, Value.slice b2 m1 l2, Value.string p] 33))
  unfold maxLen at hp
  go_enter Try.func12, Try.ntmps12
  go_wp2_with fail
  generalize ((w.alloc (.cells #[Value.slice a1 n1 k1, Value.int IntKind.i64 r.Slots, Value.int IntKind.i64 r.Least, Value.int IntKind.i64 r.Most, Value.int IntKind.i64 r.Row, Value.int IntKind.i64 r.Pause, Value.slice b1 m1 l1, Value.string p] 33)).alloc (.cells #[Value.slice a2 n1 k2, Value.int IntKind.i64 r.Slots, Value.int IntKind.i64 r.Least, Value.int IntKind.i64 r.Most, Value.int IntKind.i64 r.Row, Value.int IntKind.i64 r.Pause, Value.slice b2 m1 l2, Value.string p] 33)) = w2 at *
  refine (hJ.out w2 B2.out).mono ?_
  rintro e w3 ⟨rfl, b3⟩
  replace X0 := Lib.hid (X0.out.kept b3); replace X1 := Lib.hid (X1.out.kept b3); replace B2 := Lib.hid (below_on B2.out (Nat.le_refl _) b3)
  clear b3
  have c1 : w3.cell? ⟨w.heap.size, 1, none⟩ = some (Value.int IntKind.i64 r.Slots) := X0.out.at_ (i := 1) rfl
  have c2 : w3.cell? ⟨w.heap.size, 2, none⟩ = some (Value.int IntKind.i64 r.Least) := X0.out.at_ (i := 2) rfl
  have c3 : w3.cell? ⟨w.heap.size, 3, none⟩ = some (Value.int IntKind.i64 r.Most) := X0.out.at_ (i := 3) rfl
  have c4 : w3.cell? ⟨w.heap.size, 4, none⟩ = some (Value.int IntKind.i64 r.Row) := X0.out.at_ (i := 4) rfl
  have c5 : w3.cell? ⟨w.heap.size, 5, none⟩ = some (Value.int IntKind.i64 r.Pause) := X0.out.at_ (i := 5) rfl
  have d1 : w3.cell? ⟨w.heap.size + 1, 1, none⟩ = some (Value.int IntKind.i64 r.Slots) := X1.out.at_ (i := 1) rfl
  have d2 : w3.cell? ⟨w.heap.size + 1, 2, none⟩ = some (Value.int IntKind.i64 r.Least) := X1.out.at_ (i := 2) rfl
  have d3 : w3.cell? ⟨w.heap.size + 1, 3, none⟩ = some (Value.int IntKind.i64 r.Most) := X1.out.at_ (i := 3) rfl
  have d4 : w3.cell? ⟨w.heap.size + 1, 4, none⟩ = some (Value.int IntKind.i64 r.Row) := X1.out.at_ (i := 4) rfl
  have d5 : w3.cell? ⟨w.heap.size + 1, 5, none⟩ = some (Value.int IntKind.i64 r.Pause) := X1.out.at_ (i := 5) rfl
  go_wp2_with fail
  refine (hR.out w3).mono ?_
  rintro e w4 ⟨rfl, b4⟩
  replace X0 := Lib.hid (X0.out.kept b4); replace X1 := Lib.hid (X1.out.kept b4); replace B2 := Lib.hid (below_on B2.out (Nat.le_refl _) b4)
  clear b4
  clear c1 d1 c2 d2 c3 d3 c4 d4 c5 d5
  have c6 : w4.cell? ⟨w.heap.size, 6, none⟩ = some (Value.slice b1 m1 l1) := X0.out.at_ (i := 6) rfl
  have d6 : w4.cell? ⟨w.heap.size + 1, 6, none⟩ = some (Value.slice b2 m1 l2) := X1.out.at_ (i := 6) rfl
  go_wp2_with fail
  refine (hC.out w4 B2.out).mono ?_
  rintro e w5 ⟨rfl, b5⟩
  replace X0 := Lib.hid (X0.out.kept b5); replace X1 := Lib.hid (X1.out.kept b5); replace B2 := Lib.hid (below_on B2.out (Nat.le_refl _) b5)
  clear b5
  clear c6 d6
  have c7 : w5.cell? ⟨w.heap.size, 7, none⟩ = some (Value.string p) := X0.out.at_ (i := 7) rfl
  have d7 : w5.cell? ⟨w.heap.size + 1, 7, none⟩ = some (Value.string p) := X1.out.at_ (i := 7) rfl
  go_wp2_with fail
  go_ret
  exact ⟨rfl, B2.out⟩
def okDesk (d : DeskD) : Bool := areJobs d.jobs && okRule d.rule && okCounts d.counts && lettersB dayP d.pat 64
set_option maxHeartbeats 4000000 in
set_option maxRecDepth 100000 in
theorem validDesk_any (B : Nat) (V : Value) (d : DeskD) (w : World) (h1 : LstDesk B w V d) (hp : d.pat.size ≤ maxLen) (hB : B ≤ w.heap.size) :
    Calls Try.prog 11 #[V] w fun e w' => e = .returned (.bool (okDesk d)) ∧ Below w.heap.size w w' := by
  obtain ⟨vj1, vc1, rfl, hj1, hc1⟩ := h1
  have hJ := Lib.hid (fun w' (hb : Below w.heap.size w w') => areJobs_any w.heap.size vj1 d.jobs w' ((hj1.mono hB).below hb (Nat.le_refl _)) hb.size)
  have hR := Lib.hid (fun w' => validRule_any d.rule w')
  have hC := Lib.hid (fun w' (hb : Below w.heap.size w w') => same_below (areCounts_any w.heap.size vc1 d.counts w' ((hc1.mono hB).below hb (Nat.le_refl _))))
  have hL := Lib.hid (fun w' => areRosterDays_any d.pat 64 hp (by omega) w')
  obtain ⟨a1, k1, rfl, -⟩ := hj1
  obtain ⟨b1, l1, rfl, -⟩ := hc1
  unfold okDesk
  generalize areJobs d.jobs = q1 at *
  generalize okCounts d.counts = q3 at *
  generalize hq4 : lettersB dayP d.pat 64 = q4 at *
  generalize okRule d.rule = q2 at *
  clear hq4
  generalize d.jobs.length = n1 at *
  generalize d.counts.length = m1 at *
  generalize d.rule = r at *
  generalize d.pat = p at *
  clear hB hp
  have X0 := Lib.hid (Whole.made w 33 #[Value.slice a1 n1 k1, Value.int IntKind.i64 r.Slots, Value.int IntKind.i64 r.Least, Value.int IntKind.i64 r.Most, Value.int IntKind.i64 r.Row, Value.int IntKind.i64 r.Pause, Value.slice b1 m1 l1, Value.string p] rfl)
  have B2 := Lib.hid (below_alloc (Below.refl w.heap.size w) (.cells #[Value.slice a1 n1 k1, Value.int IntKind.i64 r.Slots, Value.int IntKind.i64 r.Least, Value.int IntKind.i64 r.Most, Value.int IntKind.i64 r.Row, Value.int IntKind.i64 r.Pause, Value.slice b1 m1 l1, Value.string p] 33))
  go_enter Try.func11, Try.ntmps11
  go_wp2_with fail
  generalize (w.alloc (.cells #[Value.slice a1 n1 k1, Value.int IntKind.i64 r.Slots, Value.int IntKind.i64 r.Least, Value.int IntKind.i64 r.Most, Value.int IntKind.i64 r.Row, Value.int IntKind.i64 r.Pause, Value.slice b1 m1 l1, Value.string p] 33)) = w2 at *
  refine (hJ.out w2 B2.out).mono ?_
  rintro e w3 ⟨rfl, b3⟩
  replace X0 := Lib.hid (X0.out.kept b3); replace B2 := Lib.hid (below_on B2.out (Nat.le_refl _) b3)
  clear b3
  cases q1
  · go_wp2_with fail
    go_ret
    exact ⟨rfl, B2.out⟩
  have c1 : w3.cell? ⟨w.heap.size, 1, none⟩ = some (Value.int IntKind.i64 r.Slots) := X0.out.at_ (i := 1) rfl
  have c2 : w3.cell? ⟨w.heap.size, 2, none⟩ = some (Value.int IntKind.i64 r.Least) := X0.out.at_ (i := 2) rfl
  have c3 : w3.cell? ⟨w.heap.size, 3, none⟩ = some (Value.int IntKind.i64 r.Most) := X0.out.at_ (i := 3) rfl
  have c4 : w3.cell? ⟨w.heap.size, 4, none⟩ = some (Value.int IntKind.i64 r.Row) := X0.out.at_ (i := 4) rfl
  have c5 : w3.cell? ⟨w.heap.size, 5, none⟩ = some (Value.int IntKind.i64 r.Pause) := X0.out.at_ (i := 5) rfl
  go_wp2_with fail
  refine (hR.out w3).mono ?_
  rintro e w4 ⟨rfl, b4⟩
  replace X0 := Lib.hid (X0.out.kept b4); replace B2 := Lib.hid (below_on B2.out (Nat.le_refl _) b4)
  clear b4 c1 c2 c3 c4 c5
  cases q2
  · go_wp2_with fail
    go_ret
    exact ⟨rfl, B2.out⟩
  have c6 : w4.cell? ⟨w.heap.size, 6, none⟩ = some (Value.slice b1 m1 l1) := X0.out.at_ (i := 6) rfl
  go_wp2_with fail
  refine (hC.out w4 B2.out).mono ?_
  rintro e w5 ⟨rfl, b5⟩
  replace X0 := Lib.hid (X0.out.kept b5); replace B2 := Lib.hid (below_on B2.out (Nat.le_refl _) b5)
  clear b5 c6
  cases q3
  · go_wp2_with fail
    go_ret
    exact ⟨rfl, B2.out⟩
  have c7 : w5.cell? ⟨w.heap.size, 7, none⟩ = some (Value.string p) := X0.out.at_ (i := 7) rfl
  go_wp2_with fail
  refine (hL.out w5).mono ?_
  rintro e w6 ⟨rfl, b6⟩
  replace B2 := Lib.hid (below_on B2.out (Nat.le_refl _) b6)
  clear b6 c7
  cases q4 <;> (go_wp2_with fail; go_ret; exact ⟨rfl, B2.out⟩)
set_option maxHeartbeats 4000000 in
set_option maxRecDepth 100000 in
theorem l08Is_any (g B : Nat) (vj1 vc1 : Value) (d : DeskD) (w : World) (X0 : Whole w g 33 (deskC vj1 vc1 d.rule d.pat)) (hj1 : LstJob B w vj1 d.jobs) (hc1 : LstI B w vc1 d.counts) (hp : d.pat.size ≤ maxLen) (hB : B ≤ w.heap.size) :
    Calls Try.prog 33 #[.pointer (some ⟨g, 0, none⟩)] w fun e w' => e = .returned (.bool (okDesk d)) ∧ Below w.heap.size w w' := by
  have hJ := Lib.hid (fun w' (hb : Below w.heap.size w w') => ret_below (l02Jobs_any w.heap.size vj1 d.jobs w' ((hj1.mono hB).below hb (Nat.le_refl _))))
  have hR := Lib.hid (fun w' (a0 : w'.cell? ⟨g, 1, none⟩ = some (.int .i64 d.rule.Slots)) (a1 : w'.cell? ⟨g, 2, none⟩ = some (.int .i64 d.rule.Least)) (a2 : w'.cell? ⟨g, 3, none⟩ = some (.int .i64 d.rule.Most)) (a3 : w'.cell? ⟨g, 4, none⟩ = some (.int .i64 d.rule.Row)) (a4 : w'.cell? ⟨g, 5, none⟩ = some (.int .i64 d.rule.Pause)) => ret_below (l06Is_any g 1 d.rule w' a0 a1 a2 a3 a4))
  have hC := Lib.hid (fun w' (hb : Below w.heap.size w w') => same_below (l04Counts_any w.heap.size vc1 d.counts w' ((hc1.mono hB).below hb (Nat.le_refl _))))
  have hL := Lib.hid (fun w' => same_below (l06Days_any d.pat 64 hp (by omega) w'))
  obtain ⟨a1, k1, rfl, -⟩ := hj1
  obtain ⟨b1, l1, rfl, -⟩ := hc1
  unfold okDesk
  generalize areJobs d.jobs = q1 at *
  generalize okCounts d.counts = q3 at *
  generalize hq4 : lettersB dayP d.pat 64 = q4 at *
  generalize okRule d.rule = q2 at *
  clear hq4
  generalize d.jobs.length = n1 at *
  generalize d.counts.length = m1 at *
  generalize d.rule = r at *
  generalize d.pat = p at *
  clear hB hp
  replace X0 := Lib.hid X0
  have B2 := Lib.hid (Below.refl w.heap.size w)
  have c0 : w.cell? ⟨g, 0, none⟩ = some (Value.slice a1 n1 k1) := X0.out.at_ (i := 0) rfl
  go_enter Try.func33, Try.ntmps33
  go_wp2_with fail
  refine (hJ.out w B2.out).mono ?_
  rintro e w3 ⟨rfl, b3⟩
  replace X0 := Lib.hid (X0.out.kept b3); replace B2 := Lib.hid (below_on B2.out (Nat.le_refl _) b3)
  clear b3 c0
  cases q1
  · go_wp2_with fail
    go_ret
    exact ⟨rfl, B2.out⟩
  have c1 : w3.cell? ⟨g, 1, none⟩ = some (Value.int IntKind.i64 r.Slots) := X0.out.at_ (i := 1) rfl
  have c2 : w3.cell? ⟨g, 2, none⟩ = some (Value.int IntKind.i64 r.Least) := X0.out.at_ (i := 2) rfl
  have c3 : w3.cell? ⟨g, 3, none⟩ = some (Value.int IntKind.i64 r.Most) := X0.out.at_ (i := 3) rfl
  have c4 : w3.cell? ⟨g, 4, none⟩ = some (Value.int IntKind.i64 r.Row) := X0.out.at_ (i := 4) rfl
  have c5 : w3.cell? ⟨g, 5, none⟩ = some (Value.int IntKind.i64 r.Pause) := X0.out.at_ (i := 5) rfl
  go_wp2_with fail
  refine (hR.out w3 c1 c2 c3 c4 c5).mono ?_
  rintro e w4 ⟨rfl, b4⟩
  replace X0 := Lib.hid (X0.out.kept b4); replace B2 := Lib.hid (below_on B2.out (Nat.le_refl _) b4)
  clear b4 c1 c2 c3 c4 c5
  cases q2
  · go_wp2_with fail
    go_ret
    exact ⟨rfl, B2.out⟩
  have c6 : w4.cell? ⟨g, 6, none⟩ = some (Value.slice b1 m1 l1) := X0.out.at_ (i := 6) rfl
  go_wp2_with fail
  refine (hC.out w4 B2.out).mono ?_
  rintro e w5 ⟨rfl, b5⟩
  replace X0 := Lib.hid (X0.out.kept b5); replace B2 := Lib.hid (below_on B2.out (Nat.le_refl _) b5)
  clear b5 c6
  cases q3
  · go_wp2_with fail
    go_ret
    exact ⟨rfl, B2.out⟩
  have c7 : w5.cell? ⟨g, 7, none⟩ = some (Value.string p) := X0.out.at_ (i := 7) rfl
  go_wp2_with fail
  refine (hL.out w5).mono ?_
  rintro e w6 ⟨rfl, b6⟩
  replace B2 := Lib.hid (below_on B2.out (Nat.le_refl _) b6)
  clear b6 c7
  cases q4 <;> (go_wp2_with fail; go_ret; exact ⟨rfl, B2.out⟩)
set_option maxHeartbeats 1000000 in
theorem specValidDesk_any (B : Nat) (V : Value) (d : DeskD) (w : World) (h1 : LstDesk B w V d) (hp : d.pat.size ≤ maxLen) (hB : B ≤ w.heap.size) :
    Calls Try.prog 9 #[V] w fun e w' => e = .returned (.bool (okDesk d)) ∧ Below w.heap.size w w' := by
  obtain ⟨vj1, vc1, rfl, hj1, hc1⟩ := h1
  have B2 := below_alloc (Below.refl w.heap.size w) (.cells (deskC vj1 vc1 d.rule d.pat) 33)
  have hI := Lib.hid (l08Is_any w.heap.size B vj1 vc1 d _ (Whole.made w 33 (deskC vj1 vc1 d.rule d.pat) rfl) (hj1.below B2 hB) (hc1.below B2 hB) hp (Nat.le_trans hB B2.size))
  replace B2 := Lib.hid B2
  obtain ⟨a1, k1, rfl, -⟩ := hj1
  obtain ⟨b1, l1, rfl, -⟩ := hc1
  generalize okDesk d = q at *
  generalize d.jobs.length = n1 at *
  generalize d.counts.length = m1 at *
  generalize d.rule = r at *
  generalize d.pat = p at *
  clear hB hp
  go_enter Try.func9, Try.ntmps9
  go_wp2_with fail
  refine (hI.out).mono ?_
  rintro e w6 ⟨rfl, b6⟩
  replace B2 := Lib.hid (below_on B2.out (Nat.le_refl _) b6)
  clear b6
  go_wp2_with fail
  go_ret
  exact ⟨rfl, B2.out⟩
def sameDesk (a b : DeskD) : Bool := sameJobs a.jobs b.jobs && sameRule a.rule b.rule && decide (a.counts = b.counts) && (a.pat.toList == b.pat.toList)
theorem sameDesk_mk (a b : DeskD) (q1 q2 q3 q4 : Bool) (h1 : sameJobs a.jobs b.jobs = q1) (h2 : sameRule a.rule b.rule = q2) (h3 : decide (a.counts = b.counts) = q3) (h4 : (a.pat.toList == b.pat.toList) = q4) : sameDesk a b = (q1 && q2 && q3 && q4) := by
  unfold sameDesk; rw [h1, h2, h3, h4]
set_option maxHeartbeats 4000000 in
set_option maxRecDepth 100000 in
theorem sameDesk_any (B : Nat) (V1 V2 : Value) (x y : DeskD) (w : World) (h1 : LstDesk B w V1 x) (h2 : LstDesk B w V2 y) (hB : B ≤ w.heap.size) :
    Calls Try.prog 14 #[V1, V2] w fun e w' => e = .returned (.bool (sameDesk x y)) ∧ Below w.heap.size w w' := by
  obtain ⟨vj1, vc1, rfl, hj1, hc1⟩ := h1
  obtain ⟨vj2, vc2, rfl, hj2, hc2⟩ := h2
  have hJ := Lib.hid (fun w' (hb : Below w.heap.size w w') => ret_below (implSameJobs_any w.heap.size vj1 vj2 x.jobs y.jobs w' ((hj1.mono hB).below hb (Nat.le_refl _)) ((hj2.mono hB).below hb (Nat.le_refl _))))
  have hC := Lib.hid (fun w' (hb : Below w.heap.size w w') => ret_below (equalI_any w.heap.size vc1 vc2 x.counts y.counts w' ((hc1.mono hB).below hb (Nat.le_refl _)) ((hc2.mono hB).below hb (Nat.le_refl _))))
  have hR := Lib.hid (fun w' => implSameRule_any x.rule y.rule w')
  obtain ⟨a1, k1, rfl, -⟩ := hj1
  obtain ⟨b1, l1, rfl, -⟩ := hc1
  obtain ⟨a2, k2, rfl, -⟩ := hj2
  obtain ⟨b2, l2, rfl, -⟩ := hc2
  cases g1 : sameJobs x.jobs y.jobs <;> cases g2 : sameRule x.rule y.rule <;> cases g3 : decide (x.counts = y.counts)
  all_goals
    rw [sameDesk_mk x y _ _ _ _ g1 g2 g3 rfl]
    rw [g1] at hJ
    rw [g2] at hR
    rw [g3] at hC
    clear g1 g2 g3 hB
    generalize x.jobs.length = n1 at *
    generalize x.counts.length = m1 at *
    generalize x.rule = r at *
    generalize x.pat = p at *
    generalize y.jobs.length = n2 at *
    generalize y.counts.length = m2 at *
    generalize y.rule = s at *
    generalize y.pat = t at *
    have X0 := Lib.hid ((Whole.made w 33 #[Value.slice a1 n1 k1, Value.int IntKind.i64 r.Slots, Value.int IntKind.i64 r.Least, Value.int IntKind.i64 r.Most, Value.int IntKind.i64 r.Row, Value.int IntKind.i64 r.Pause, Value.slice b1 m1 l1, Value.string p] rfl).more (.cells #[Value.slice a2 n2 k2, Value.int IntKind.i64 s.Slots, Value.int IntKind.i64 s.Least, Value.int IntKind.i64 s.Most, Value.int IntKind.i64 s.Row, Value.int IntKind.i64 s.Pause, Value.slice b2 m2 l2, Value.string t] 33))
    have X1 := Lib.hid (Whole.made (w.alloc (.cells #[Value.slice a1 n1 k1, Value.int IntKind.i64 r.Slots, Value.int IntKind.i64 r.Least, Value.int IntKind.i64 r.Most, Value.int IntKind.i64 r.Row, Value.int IntKind.i64 r.Pause, Value.slice b1 m1 l1, Value.string p] 33)) 33 #[Value.slice a2 n2 k2, Value.int IntKind.i64 s.Slots, Value.int IntKind.i64 s.Least, Value.int IntKind.i64 s.Most, Value.int IntKind.i64 s.Row, Value.int IntKind.i64 s.Pause, Value.slice b2 m2 l2, Value.string t] (show w.heap.size + 1 = _ by rw [World.size_alloc]))
    have B2 := Lib.hid (below_alloc (below_alloc (Below.refl w.heap.size w) (.cells #[Value.slice a1 n1 k1, Value.int IntKind.i64 r.Slots, Value.int IntKind.i64 r.Least, Value.int IntKind.i64 r.Most, Value.int IntKind.i64 r.Row, Value.int IntKind.i64 r.Pause, Value.slice b1 m1 l1, Value.string p] 33)) (.cells #[Value.slice a2 n2 k2, Value.int IntKind.i64 s.Slots, Value.int IntKind.i64 s.Least, Value.int IntKind.i64 s.Most, Value.int IntKind.i64 s.Row, Value.int IntKind.i64 s.Pause, Value.slice b2 m2 l2, Value.string t] 33))
    all_goals
      go_enter Try.func14, Try.ntmps14
      go_wp2_with fail
      generalize ((w.alloc _).alloc _) = w2 at *
      refine (hJ.out w2 B2.out).mono ?_
      rintro e w3 ⟨rfl, b3⟩
      replace X0 := Lib.hid (X0.out.kept b3); replace X1 := Lib.hid (X1.out.kept b3); replace B2 := Lib.hid (below_on B2.out (Nat.le_refl _) b3)
      clear b3
      have c1 : w3.cell? ⟨w.heap.size, 1, none⟩ = some (Value.int IntKind.i64 r.Slots) := X0.out.at_ (i := 1) rfl
      have c2 : w3.cell? ⟨w.heap.size, 2, none⟩ = some (Value.int IntKind.i64 r.Least) := X0.out.at_ (i := 2) rfl
      have c3 : w3.cell? ⟨w.heap.size, 3, none⟩ = some (Value.int IntKind.i64 r.Most) := X0.out.at_ (i := 3) rfl
      have c4 : w3.cell? ⟨w.heap.size, 4, none⟩ = some (Value.int IntKind.i64 r.Row) := X0.out.at_ (i := 4) rfl
      have c5 : w3.cell? ⟨w.heap.size, 5, none⟩ = some (Value.int IntKind.i64 r.Pause) := X0.out.at_ (i := 5) rfl
      have d1 : w3.cell? ⟨w.heap.size + 1, 1, none⟩ = some (Value.int IntKind.i64 s.Slots) := X1.out.at_ (i := 1) rfl
      have d2 : w3.cell? ⟨w.heap.size + 1, 2, none⟩ = some (Value.int IntKind.i64 s.Least) := X1.out.at_ (i := 2) rfl
      have d3 : w3.cell? ⟨w.heap.size + 1, 3, none⟩ = some (Value.int IntKind.i64 s.Most) := X1.out.at_ (i := 3) rfl
      have d4 : w3.cell? ⟨w.heap.size + 1, 4, none⟩ = some (Value.int IntKind.i64 s.Row) := X1.out.at_ (i := 4) rfl
      have d5 : w3.cell? ⟨w.heap.size + 1, 5, none⟩ = some (Value.int IntKind.i64 s.Pause) := X1.out.at_ (i := 5) rfl
      go_wp2_with fail
      first | (go_ret; exact ⟨rfl, B2.out⟩) | skip
      all_goals
        refine (hR.out w3).mono ?_
        rintro e w4 ⟨rfl, b4⟩
        replace X0 := Lib.hid (X0.out.kept b4); replace X1 := Lib.hid (X1.out.kept b4); replace B2 := Lib.hid (below_on B2.out (Nat.le_refl _) b4)
        clear b4
        clear c1 d1 c2 d2 c3 d3 c4 d4 c5 d5
        have c6 : w4.cell? ⟨w.heap.size, 6, none⟩ = some (Value.slice b1 m1 l1) := X0.out.at_ (i := 6) rfl
        have d6 : w4.cell? ⟨w.heap.size + 1, 6, none⟩ = some (Value.slice b2 m2 l2) := X1.out.at_ (i := 6) rfl
        go_wp2_with fail
        first | (go_ret; exact ⟨rfl, B2.out⟩) | skip
        all_goals
          refine (hC.out w4 B2.out).mono ?_
          rintro e w5 ⟨rfl, b5⟩
          replace X0 := Lib.hid (X0.out.kept b5); replace X1 := Lib.hid (X1.out.kept b5); replace B2 := Lib.hid (below_on B2.out (Nat.le_refl _) b5)
          clear b5
          clear c6 d6
          have c7 : w5.cell? ⟨w.heap.size, 7, none⟩ = some (Value.string p) := X0.out.at_ (i := 7) rfl
          have d7 : w5.cell? ⟨w.heap.size + 1, 7, none⟩ = some (Value.string t) := X1.out.at_ (i := 7) rfl
          go_wp2_with fail
          go_ret
          exact ⟨ret_bool (by simp), B2.out⟩
set_option maxHeartbeats 4000000 in
set_option maxRecDepth 100000 in
theorem specSameDesk_any (B : Nat) (V1 V2 : Value) (x y : DeskD) (w : World) (h1 : LstDesk B w V1 x) (h2 : LstDesk B w V2 y) (hB : B ≤ w.heap.size) :
    Calls Try.prog 13 #[V1, V2] w fun e w' => e = .returned (.bool (sameDesk x y)) ∧ Below w.heap.size w w' := by
  obtain ⟨vj1, vc1, rfl, hj1, hc1⟩ := h1
  obtain ⟨vj2, vc2, rfl, hj2, hc2⟩ := h2
  have hJ := Lib.hid (fun w' (hb : Below w.heap.size w w') => ret_below (l02Same_any w.heap.size vj1 vj2 x.jobs y.jobs w' ((hj1.mono hB).below hb (Nat.le_refl _)) ((hj2.mono hB).below hb (Nat.le_refl _))))
  have hC := Lib.hid (fun w' (hb : Below w.heap.size w w') => ret_below (l08Equal_any w.heap.size vc1 vc2 x.counts y.counts w' ((hc1.mono hB).below hb (Nat.le_refl _)) ((hc2.mono hB).below hb (Nat.le_refl _))))
  have hR := Lib.hid (fun w' => specSameRule_any x.rule y.rule w')
  obtain ⟨a1, k1, rfl, -⟩ := hj1
  obtain ⟨b1, l1, rfl, -⟩ := hc1
  obtain ⟨a2, k2, rfl, -⟩ := hj2
  obtain ⟨b2, l2, rfl, -⟩ := hc2
  cases g1 : sameJobs x.jobs y.jobs <;> cases g2 : sameRule x.rule y.rule <;> cases g3 : decide (x.counts = y.counts)
  all_goals
    rw [sameDesk_mk x y _ _ _ _ g1 g2 g3 rfl]
    rw [g1] at hJ
    rw [g2] at hR
    rw [g3] at hC
    clear g1 g2 g3 hB
    generalize x.jobs.length = n1 at *
    generalize x.counts.length = m1 at *
    generalize x.rule = r at *
    generalize x.pat = p at *
    generalize y.jobs.length = n2 at *
    generalize y.counts.length = m2 at *
    generalize y.rule = s at *
    generalize y.pat = t at *
    have X0 := Lib.hid ((Whole.made w 33 #[Value.slice a1 n1 k1, Value.int IntKind.i64 r.Slots, Value.int IntKind.i64 r.Least, Value.int IntKind.i64 r.Most, Value.int IntKind.i64 r.Row, Value.int IntKind.i64 r.Pause, Value.slice b1 m1 l1, Value.string p] rfl).more (.cells #[Value.slice a2 n2 k2, Value.int IntKind.i64 s.Slots, Value.int IntKind.i64 s.Least, Value.int IntKind.i64 s.Most, Value.int IntKind.i64 s.Row, Value.int IntKind.i64 s.Pause, Value.slice b2 m2 l2, Value.string t] 33))
    have X1 := Lib.hid (Whole.made (w.alloc (.cells #[Value.slice a1 n1 k1, Value.int IntKind.i64 r.Slots, Value.int IntKind.i64 r.Least, Value.int IntKind.i64 r.Most, Value.int IntKind.i64 r.Row, Value.int IntKind.i64 r.Pause, Value.slice b1 m1 l1, Value.string p] 33)) 33 #[Value.slice a2 n2 k2, Value.int IntKind.i64 s.Slots, Value.int IntKind.i64 s.Least, Value.int IntKind.i64 s.Most, Value.int IntKind.i64 s.Row, Value.int IntKind.i64 s.Pause, Value.slice b2 m2 l2, Value.string t] (show w.heap.size + 1 = _ by rw [World.size_alloc]))
    have B2 := Lib.hid (below_alloc (below_alloc (Below.refl w.heap.size w) (.cells #[Value.slice a1 n1 k1, Value.int IntKind.i64 r.Slots, Value.int IntKind.i64 r.Least, Value.int IntKind.i64 r.Most, Value.int IntKind.i64 r.Row, Value.int IntKind.i64 r.Pause, Value.slice b1 m1 l1, Value.string p] 33)) (.cells #[Value.slice a2 n2 k2, Value.int IntKind.i64 s.Slots, Value.int IntKind.i64 s.Least, Value.int IntKind.i64 s.Most, Value.int IntKind.i64 s.Row, Value.int IntKind.i64 s.Pause, Value.slice b2 m2 l2, Value.string t] 33))
    all_goals
      go_enter Try.func13, Try.ntmps13
      go_wp2_with fail
      generalize ((w.alloc _).alloc _) = w2 at *
      refine (hJ.out w2 B2.out).mono ?_
      rintro e w3 ⟨rfl, b3⟩
      replace X0 := Lib.hid (X0.out.kept b3); replace X1 := Lib.hid (X1.out.kept b3); replace B2 := Lib.hid (below_on B2.out (Nat.le_refl _) b3)
      clear b3
      have c1 : w3.cell? ⟨w.heap.size, 1, none⟩ = some (Value.int IntKind.i64 r.Slots) := X0.out.at_ (i := 1) rfl
      have c2 : w3.cell? ⟨w.heap.size, 2, none⟩ = some (Value.int IntKind.i64 r.Least) := X0.out.at_ (i := 2) rfl
      have c3 : w3.cell? ⟨w.heap.size, 3, none⟩ = some (Value.int IntKind.i64 r.Most) := X0.out.at_ (i := 3) rfl
      have c4 : w3.cell? ⟨w.heap.size, 4, none⟩ = some (Value.int IntKind.i64 r.Row) := X0.out.at_ (i := 4) rfl
      have c5 : w3.cell? ⟨w.heap.size, 5, none⟩ = some (Value.int IntKind.i64 r.Pause) := X0.out.at_ (i := 5) rfl
      have d1 : w3.cell? ⟨w.heap.size + 1, 1, none⟩ = some (Value.int IntKind.i64 s.Slots) := X1.out.at_ (i := 1) rfl
      have d2 : w3.cell? ⟨w.heap.size + 1, 2, none⟩ = some (Value.int IntKind.i64 s.Least) := X1.out.at_ (i := 2) rfl
      have d3 : w3.cell? ⟨w.heap.size + 1, 3, none⟩ = some (Value.int IntKind.i64 s.Most) := X1.out.at_ (i := 3) rfl
      have d4 : w3.cell? ⟨w.heap.size + 1, 4, none⟩ = some (Value.int IntKind.i64 s.Row) := X1.out.at_ (i := 4) rfl
      have d5 : w3.cell? ⟨w.heap.size + 1, 5, none⟩ = some (Value.int IntKind.i64 s.Pause) := X1.out.at_ (i := 5) rfl
      go_wp2_with fail
      first | (go_ret; exact ⟨rfl, B2.out⟩) | skip
      all_goals
        refine (hR.out w3).mono ?_
        rintro e w4 ⟨rfl, b4⟩
        replace X0 := Lib.hid (X0.out.kept b4); replace X1 := Lib.hid (X1.out.kept b4); replace B2 := Lib.hid (below_on B2.out (Nat.le_refl _) b4)
        clear b4
        clear c1 d1 c2 d2 c3 d3 c4 d4 c5 d5
        have c6 : w4.cell? ⟨w.heap.size, 6, none⟩ = some (Value.slice b1 m1 l1) := X0.out.at_ (i := 6) rfl
        have d6 : w4.cell? ⟨w.heap.size + 1, 6, none⟩ = some (Value.slice b2 m2 l2) := X1.out.at_ (i := 6) rfl
        go_wp2_with fail
        first | (go_ret; exact ⟨rfl, B2.out⟩) | skip
        all_goals
          refine (hC.out w4 B2.out).mono ?_
          rintro e w5 ⟨rfl, b5⟩
          replace X0 := Lib.hid (X0.out.kept b5); replace X1 := Lib.hid (X1.out.kept b5); replace B2 := Lib.hid (below_on B2.out (Nat.le_refl _) b5)
          clear b5
          clear c6 d6
          have c7 : w5.cell? ⟨w.heap.size, 7, none⟩ = some (Value.string p) := X0.out.at_ (i := 7) rfl
          have d7 : w5.cell? ⟨w.heap.size + 1, 7, none⟩ = some (Value.string t) := X1.out.at_ (i := 7) rfl
          go_wp2_with fail
          go_ret
          exact ⟨ret_bool (by simp), B2.out⟩
end Go.Proofs.Ytpolhjkjgbfdhaa
