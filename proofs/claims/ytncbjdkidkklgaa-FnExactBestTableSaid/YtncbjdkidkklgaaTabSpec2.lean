/- The model's FirstTable, CountTables and BestTable. No condition. -/
import Derived.Test.YtncbjdkidkklgaaTabSpec
namespace Go.Proofs.Ytncbjdkidkklgaa
open Go.RowKit Go.Lst

def tabOf (e p : Int) : Option Nat → List Int
  | some k => tabL p.toNat (e.toNat - 1) k
  | none => []
def firstTab (e : Int) (xs : List RuleD) (p : Int) : Option Nat := if okTab e xs p then (keptAll e xs p).head? else none
def bestTab (e : Int) (xs : List RuleD) (p : Int) : Option Nat := if okTab e xs p then leastOf (waitSum p.toNat (e.toNat - 1) xs) (keptAll e xs p) else none
def bestSum (e : Int) (xs : List RuleD) (p : Int) : Int := match bestTab e xs p with | some k => waitSum p.toNat (e.toNat - 1) xs k | none => 0
def countTab (e : Int) (xs : List RuleD) (p : Int) : Int := if okTab e xs p then ((keptAll e xs p).length : Int) else 0
def FirstPost (e : Int) (xs : List RuleD) (p : Int) (w : World) : Ending → World → Prop := ListPost (tabOf e p (firstTab e xs p)) (firstTab e xs p).isSome w
def CountPost (e : Int) (xs : List RuleD) (p : Int) (w : World) : Ending → World → Prop := NumPost (countTab e xs p) (okTab e xs p) w
def BestPost (e : Int) (xs : List RuleD) (p : Int) (w : World) : Ending → World → Prop := ListNumPost (tabOf e p (bestTab e xs p)) (bestSum e xs p) (bestTab e xs p).isSome w
theorem okTab_rules {e : Int} {xs : List RuleD} {p : Int} (h : areRules e p xs = false) : okTab e xs p = false := by simp [okTab, h]
theorem firstTab_no {e : Int} {xs : List RuleD} {p : Int} (h : okTab e xs p = false) : firstTab e xs p = none := by simp [firstTab, h]
theorem bestTab_no {e : Int} {xs : List RuleD} {p : Int} (h : okTab e xs p = false) : bestTab e xs p = none := by simp [bestTab, h]
theorem first_none {e : Int} {xs : List RuleD} {p : Int} {w w' : World} (h : firstTab e xs p = none) (hb : Below w.heap.size w w') : FirstPost e xs p w (.returned (.tuple #[.slice none 0 0, .bool false])) w' := by
  unfold FirstPost; rw [h]; exact list_no rfl rfl hb
theorem best_none {e : Int} {xs : List RuleD} {p : Int} {w w' : World} (h : bestTab e xs p = none) (hb : Below w.heap.size w w') : BestPost e xs p w (.returned (.tuple #[.slice none 0 0, .int .i64 0, .bool false])) w' := by
  unfold BestPost bestSum; rw [h]; exact ⟨_, rfl, own_nil, hb⟩
theorem count_none {e : Int} {xs : List RuleD} {p : Int} {w w' : World} (h : okTab e xs p = false) (hb : Below w.heap.size w w') : CountPost e xs p w (.returned (.tuple #[.int .i64 0, .bool false])) w' := by
  unfold CountPost countTab; rw [h]; exact num_no rfl rfl hb
theorem RowOf.own {A A' : Nat} {w : World} {p d : Nat} {v : Value} {k : Nat} (h : RowOf A w p d v k) (hd : d ≤ 100) (hA : A' ≤ A) : Own A' w.heap.size w v 2 1 (tabL p d k).length ((tabL p d k).map (Value.int .i64)) := by
  obtain ⟨g, h1, h2, rfl, h3⟩ := h
  rw [tabL_length]
  exact ⟨ownsRow_mono h3 hA, by unfold maxLen; omega, fun q hq => by (have : g = q := by simpa [Value.ownBlock] using hq); omega⟩
/-- What a search has told. -/
theorem found_first {e : Int} {xs : List RuleD} {p : Int} {w w' : World} {c l : Int} {vf vb : Value} (he : e.toNat - 1 ≤ 100) (hok : okTab e xs p = true) (h : FoundAt w.heap.size w' p.toNat (e.toNat - 1) xs (p.toNat ^ (e.toNat - 1)) c l vf vb) (hb : Below w.heap.size w w') :
    (c = 0 → FirstPost e xs p w (.returned (.tuple #[.slice none 0 0, .bool false])) w') ∧ (¬ c = 0 → FirstPost e xs p w (.returned (.tuple #[vf, .bool true])) w') := by
  obtain ⟨h1, h2 | ⟨k1, k2, a, b, x, f, g⟩⟩ := h
  · refine ⟨fun _ => first_none (by unfold firstTab keptAll; rw [hok, h2.1]; rfl) hb, fun hc => absurd h1 (by rw [h2.1]; simpa using hc)⟩
  · refine ⟨fun hc => ?_, fun _ => ?_⟩
    · have : keptTo p.toNat (e.toNat - 1) xs (p.toNat ^ (e.toNat - 1)) = [] := List.eq_nil_of_length_eq_zero (by omega)
      rw [this] at a; cases a
    · have hF : firstTab e xs p = some k1 := by unfold firstTab keptAll; rw [hok, if_pos rfl, a]
      unfold FirstPost; rw [hF]
      exact ⟨_, rfl, f.own he (Nat.le_refl _), hb⟩
theorem found_best {e : Int} {xs : List RuleD} {p : Int} {w w' : World} {c l : Int} {vf vb : Value} (he : e.toNat - 1 ≤ 100) (hok : okTab e xs p = true) (h : FoundAt w.heap.size w' p.toNat (e.toNat - 1) xs (p.toNat ^ (e.toNat - 1)) c l vf vb) (hb : Below w.heap.size w w') :
    (c = 0 → BestPost e xs p w (.returned (.tuple #[.slice none 0 0, .int .i64 0, .bool false])) w') ∧ (¬ c = 0 → BestPost e xs p w (.returned (.tuple #[vb, .int .i64 l, .bool true])) w') := by
  obtain ⟨h1, h2 | ⟨k1, k2, a, b, x, f, g⟩⟩ := h
  · refine ⟨fun _ => best_none (by unfold bestTab keptAll; rw [hok, h2.1]; rfl) hb, fun hc => absurd h1 (by rw [h2.1]; simpa using hc)⟩
  · refine ⟨fun hc => ?_, fun _ => ?_⟩
    · have : keptTo p.toNat (e.toNat - 1) xs (p.toNat ^ (e.toNat - 1)) = [] := List.eq_nil_of_length_eq_zero (by omega)
      rw [this] at a; cases a
    · have hF : bestTab e xs p = some k2 := by unfold bestTab keptAll; rw [hok, if_pos rfl, b]
      unfold BestPost bestSum; rw [hF, x]
      exact ⟨_, rfl, g.own he (Nat.le_refl _), hb⟩
theorem found_count {e : Int} {xs : List RuleD} {p : Int} {w w' : World} {c l : Int} {vf vb : Value} (hok : okTab e xs p = true) (h : FoundAt w.heap.size w' p.toNat (e.toNat - 1) xs (p.toNat ^ (e.toNat - 1)) c l vf vb) (hb : Below w.heap.size w w') :
    CountPost e xs p w (.returned (.tuple #[.int .i64 c, .bool true])) w' := by
  unfold CountPost countTab keptAll; rw [hok, if_pos rfl]
  exact ⟨by rw [h.1], hb⟩
theorem look_of {B : Nat} {e p : Int} {v : Value} {xs : List RuleD} {w : World} (h : LstRule B w v xs) (hB : B ≤ w.heap.size) (har : areRules e p xs = true) : Calls Try.prog 20 #[.int .i64 e, v, .int .i64 p] w (LookPost e xs p w) := by
  obtain ⟨⟨e1, e12⟩, ⟨p1, p60⟩, _, _⟩ := areRules_of har
  obtain ⟨d, rfl⟩ : ∃ d : Nat, e = ((d + 1 : Nat) : Int) := ⟨(e - 1).toNat, by omega⟩
  obtain ⟨P, rfl⟩ : ∃ P : Nat, p = (P : Int) := ⟨p.toNat, by omega⟩
  exact l05Look_run B P d v xs w h hB har
theorem look_no {B : Nat} {e p : Int} {v : Value} {xs : List RuleD} {w : World} (h : LstRule B w v xs) (hB : B ≤ w.heap.size) (har : areRules e p xs = true) (hp : ¬ p.toNat ^ (e.toNat - 1) ≤ 4096) : Calls Try.prog 20 #[.int .i64 e, v, .int .i64 p] w
    (fun e' w' => ∃ c l a n m a' n' m', e' = .returned (.tuple #[.agg #[.int .i64 c, .int .i64 l, .slice a n m, .slice a' n' m'], .bool false]) ∧ Below w.heap.size w w') := by
  refine (look_of h hB har).mono ?_
  rintro e' w' ⟨c, l, _, _, he, hb, ⟨⟨a, n, m, rfl⟩, ⟨a', n', m', rfl⟩⟩, _⟩
  rw [decide_eq_false hp] at he
  exact ⟨c, l, a, n, m, a', n', m', he, hb⟩
theorem look_yes {B : Nat} {e p : Int} {v : Value} {xs : List RuleD} {w : World} (h : LstRule B w v xs) (hB : B ≤ w.heap.size) (har : areRules e p xs = true) (hp : p.toNat ^ (e.toNat - 1) ≤ 4096) : Calls Try.prog 20 #[.int .i64 e, v, .int .i64 p] w
    (fun e' w' => ∃ c l a n m a' n' m', e' = .returned (.tuple #[.agg #[.int .i64 c, .int .i64 l, .slice a n m, .slice a' n' m'], .bool true]) ∧ Below w.heap.size w w' ∧
      FoundAt w.heap.size w' p.toNat (e.toNat - 1) xs (p.toNat ^ (e.toNat - 1)) c l (.slice a n m) (.slice a' n' m')) := by
  refine (look_of h hB har).mono ?_
  rintro e' w' ⟨c, l, _, _, he, hb, ⟨⟨a, n, m, rfl⟩, ⟨a', n', m', rfl⟩⟩, hf⟩
  rw [decide_eq_true hp] at he
  exact ⟨c, l, a, n, m, a', n', m', he, hb, hf hp⟩
theorem found_alloc {A : Nat} {w : World} {p d : Nat} {xs : List RuleD} {k : Nat} {c l : Int} {vf vb : Value} (h : FoundAt A w p d xs k c l vf vb) (o : Obj) : FoundAt A (w.alloc o) p d xs k c l vf vb := h.keep (by simp) (fun g _ hg => Below.heap_alloc w o g hg)
set_option maxHeartbeats 4000000 in
theorem specFirst_any (B : Nat) (e p : Int) (v : Value) (xs : List RuleD) (w : World) (h : LstRule B w v xs) (hB : B ≤ w.heap.size) : Calls Try.prog 7 #[.int .i64 e, v, .int .i64 p] w (FirstPost e xs p w) := by
  have hA := Lib.hid (l05Rules_any B e p v xs w h)
  have hBd : Hid (∀ j w', Below (w.drewN j).heap.size (w.drewN j) w' → Below w.heap.size w w') := Lib.hid fun j w' hb => (below_drawn w j).trans hb
  cases har : areRules e p xs
  · have hN : Hid (∀ w', Below w.heap.size w w' → FirstPost e xs p w (.returned (.tuple #[.slice none 0 0, .bool false])) w') := Lib.hid fun w' hb => first_none (firstTab_no (okTab_rules har)) hb
    rw [har] at hA
    obtain ⟨a, cap, rfl, _⟩ := h
    generalize FirstPost e xs p w = Q at *
    generalize xs.length = n at *
    clear har
    go_enter Try.func7, Try.ntmps7
    go_wp2_with (go_at_call 19; (with_reducible refine (hA.out).mono ?_); rintro e' w1 ⟨j1, rfl, rfl⟩)
    skip
    exact hN.out _ (below_drawn w _)
  · obtain ⟨⟨e1, e12⟩, _⟩ := areRules_of har
    rw [har] at hA
    by_cases hp : p.toNat ^ (e.toNat - 1) ≤ 4096
    · have hL := Lib.hid (fun j => look_yes (LstK.drewN h j) hB har hp)
      have hYs : Hid (∀ (c l : Int) (vf vb : Value) w', Below w.heap.size w w' → FoundAt w.heap.size w' p.toNat (e.toNat - 1) xs (p.toNat ^ (e.toNat - 1)) c l vf vb → (c = 0 → FirstPost e xs p w (.returned (.tuple #[.slice none 0 0, .bool false])) w') ∧ (¬ c = 0 → FirstPost e xs p w (.returned (.tuple #[vf, .bool true])) w')) := Lib.hid fun c l vf vb w' hb hf => found_first (by omega) (by unfold okTab; rw [har, decide_eq_true hp]; rfl) hf hb
      obtain ⟨a, cap, rfl, _⟩ := h
      generalize FirstPost e xs p w = Q at *
      generalize xs.length = n at *
      clear har
      go_enter Try.func7, Try.ntmps7
      go_wp2_with (go_at_call 19; (with_reducible refine (hA.out).mono ?_); rintro e' w1 ⟨j1, rfl, rfl⟩)
      refine (hL.out _).mono ?_
      rintro e' w2 ⟨c, l, a5, n5, c5, a6, n6, c6, rfl, hb2, hf2⟩
      have hB2 := Lib.hid (below_alloc (hBd.out _ _ hb2) (Obj.cells #[Value.int .i64 c, Value.int .i64 l, Value.slice a5 n5 c5, Value.slice a6 n6 c6] 40))
      have hF2 := Lib.hid (found_alloc hf2 (Obj.cells #[Value.int .i64 c, Value.int .i64 l, Value.slice a5 n5 c5, Value.slice a6 n6 c6] 40))
      have hz := hYs.out c l _ _ _ hB2.out hF2.out
      have hZ := Lib.hid hz
      clear hz hb2 hf2 hYs
      by_cases hc : c = 0
      · have hz := Lib.hid (hZ.out.1 hc)
        subst hc
        go_wp2_with fail
        skip
        exact hz.out
      · have hz := Lib.hid (hZ.out.2 hc)
        have hc1 : (c == 0) = false := by rw [beq_eq_false_iff_ne]; exact hc
        have hWh := Whole.made w2 40 #[Value.int .i64 c, Value.int .i64 l, Value.slice a5 n5 c5, Value.slice a6 n6 c6] rfl
        have y0 := hWh.at_ (i := 0) rfl
        have y1 := hWh.at_ (i := 1) rfl
        have y3 := hWh.at_ (i := 3) rfl
        clear hWh
        go_wp2_with fail
        skip
        exact hz.out
    · have hL := Lib.hid (fun j => look_no (LstK.drewN h j) hB har hp)
      have hN : Hid (∀ w', Below w.heap.size w w' → FirstPost e xs p w (.returned (.tuple #[.slice none 0 0, .bool false])) w') := Lib.hid fun w' hb => first_none (firstTab_no (by unfold okTab; rw [decide_eq_false hp, Bool.and_false])) hb
      obtain ⟨a, cap, rfl, _⟩ := h
      generalize FirstPost e xs p w = Q at *
      generalize xs.length = n at *
      clear har
      go_enter Try.func7, Try.ntmps7
      go_wp2_with (go_at_call 19; (with_reducible refine (hA.out).mono ?_); rintro e' w1 ⟨j1, rfl, rfl⟩)
      refine (hL.out _).mono ?_
      rintro e' w2 ⟨c, l, a5, n5, c5, a6, n6, c6, rfl, hb2⟩
      have hB2 := Lib.hid (below_alloc (hBd.out _ _ hb2) (Obj.cells #[Value.int .i64 c, Value.int .i64 l, Value.slice a5 n5 c5, Value.slice a6 n6 c6] 40))
      clear hb2
      go_wp2_with fail
      skip
      exact hN.out _ hB2.out
set_option maxHeartbeats 4000000 in
theorem specCount_any (B : Nat) (e p : Int) (v : Value) (xs : List RuleD) (w : World) (h : LstRule B w v xs) (hB : B ≤ w.heap.size) : Calls Try.prog 15 #[.int .i64 e, v, .int .i64 p] w (CountPost e xs p w) := by
  have hA := Lib.hid (l05Rules_any B e p v xs w h)
  have hBd : Hid (∀ j w', Below (w.drewN j).heap.size (w.drewN j) w' → Below w.heap.size w w') := Lib.hid fun j w' hb => (below_drawn w j).trans hb
  cases har : areRules e p xs
  · have hN : Hid (∀ w', Below w.heap.size w w' → CountPost e xs p w (.returned (.tuple #[.int .i64 0, .bool false])) w') := Lib.hid fun w' hb => count_none (okTab_rules har) hb
    rw [har] at hA
    obtain ⟨a, cap, rfl, _⟩ := h
    generalize CountPost e xs p w = Q at *
    generalize xs.length = n at *
    clear har
    go_enter Try.func15, Try.ntmps15
    go_wp2_with (go_at_call 19; (with_reducible refine (hA.out).mono ?_); rintro e' w1 ⟨j1, rfl, rfl⟩)
    skip
    exact hN.out _ (below_drawn w _)
  · obtain ⟨⟨e1, e12⟩, _⟩ := areRules_of har
    rw [har] at hA
    by_cases hp : p.toNat ^ (e.toNat - 1) ≤ 4096
    · have hL := Lib.hid (fun j => look_yes (LstK.drewN h j) hB har hp)
      have hYs : Hid (∀ (c l : Int) (vf vb : Value) w', Below w.heap.size w w' → FoundAt w.heap.size w' p.toNat (e.toNat - 1) xs (p.toNat ^ (e.toNat - 1)) c l vf vb → CountPost e xs p w (.returned (.tuple #[.int .i64 c, .bool true])) w') := Lib.hid fun c l vf vb w' hb hf => found_count (by unfold okTab; rw [har, decide_eq_true hp]; rfl) hf hb
      obtain ⟨a, cap, rfl, _⟩ := h
      generalize CountPost e xs p w = Q at *
      generalize xs.length = n at *
      clear har
      go_enter Try.func15, Try.ntmps15
      go_wp2_with (go_at_call 19; (with_reducible refine (hA.out).mono ?_); rintro e' w1 ⟨j1, rfl, rfl⟩)
      refine (hL.out _).mono ?_
      rintro e' w2 ⟨c, l, a5, n5, c5, a6, n6, c6, rfl, hb2, hf2⟩
      have hB2 := Lib.hid (below_alloc (hBd.out _ _ hb2) (Obj.cells #[Value.int .i64 c, Value.int .i64 l, Value.slice a5 n5 c5, Value.slice a6 n6 c6] 40))
      have hF2 := Lib.hid (found_alloc hf2 (Obj.cells #[Value.int .i64 c, Value.int .i64 l, Value.slice a5 n5 c5, Value.slice a6 n6 c6] 40))
      have hz := hYs.out c l _ _ _ hB2.out hF2.out
      have hZ := Lib.hid hz
      clear hz hb2 hf2 hYs
      go_wp2_with fail
      exact hZ.out
    · have hL := Lib.hid (fun j => look_no (LstK.drewN h j) hB har hp)
      have hN : Hid (∀ w', Below w.heap.size w w' → CountPost e xs p w (.returned (.tuple #[.int .i64 0, .bool false])) w') := Lib.hid fun w' hb => count_none (by unfold okTab; rw [decide_eq_false hp, Bool.and_false]) hb
      obtain ⟨a, cap, rfl, _⟩ := h
      generalize CountPost e xs p w = Q at *
      generalize xs.length = n at *
      clear har
      go_enter Try.func15, Try.ntmps15
      go_wp2_with (go_at_call 19; (with_reducible refine (hA.out).mono ?_); rintro e' w1 ⟨j1, rfl, rfl⟩)
      refine (hL.out _).mono ?_
      rintro e' w2 ⟨c, l, a5, n5, c5, a6, n6, c6, rfl, hb2⟩
      have hB2 := Lib.hid (below_alloc (hBd.out _ _ hb2) (Obj.cells #[Value.int .i64 c, Value.int .i64 l, Value.slice a5 n5 c5, Value.slice a6 n6 c6] 40))
      clear hb2
      go_wp2_with fail
      skip
      exact hN.out _ hB2.out
set_option maxHeartbeats 4000000 in
theorem specBest_any (B : Nat) (e p : Int) (v : Value) (xs : List RuleD) (w : World) (h : LstRule B w v xs) (hB : B ≤ w.heap.size) : Calls Try.prog 17 #[.int .i64 e, v, .int .i64 p] w (BestPost e xs p w) := by
  have hA := Lib.hid (l05Rules_any B e p v xs w h)
  have hBd : Hid (∀ j w', Below (w.drewN j).heap.size (w.drewN j) w' → Below w.heap.size w w') := Lib.hid fun j w' hb => (below_drawn w j).trans hb
  cases har : areRules e p xs
  · have hN : Hid (∀ w', Below w.heap.size w w' → BestPost e xs p w (.returned (.tuple #[.slice none 0 0, .int .i64 0, .bool false])) w') := Lib.hid fun w' hb => best_none (bestTab_no (okTab_rules har)) hb
    rw [har] at hA
    obtain ⟨a, cap, rfl, _⟩ := h
    generalize BestPost e xs p w = Q at *
    generalize xs.length = n at *
    clear har
    go_enter Try.func17, Try.ntmps17
    go_wp2_with (go_at_call 19; (with_reducible refine (hA.out).mono ?_); rintro e' w1 ⟨j1, rfl, rfl⟩)
    go_ret3
    exact hN.out _ (below_drawn w _)
  · obtain ⟨⟨e1, e12⟩, _⟩ := areRules_of har
    rw [har] at hA
    by_cases hp : p.toNat ^ (e.toNat - 1) ≤ 4096
    · have hL := Lib.hid (fun j => look_yes (LstK.drewN h j) hB har hp)
      have hYs : Hid (∀ (c l : Int) (vf vb : Value) w', Below w.heap.size w w' → FoundAt w.heap.size w' p.toNat (e.toNat - 1) xs (p.toNat ^ (e.toNat - 1)) c l vf vb → (c = 0 → BestPost e xs p w (.returned (.tuple #[.slice none 0 0, .int .i64 0, .bool false])) w') ∧ (¬ c = 0 → BestPost e xs p w (.returned (.tuple #[vb, .int .i64 l, .bool true])) w')) := Lib.hid fun c l vf vb w' hb hf => found_best (by omega) (by unfold okTab; rw [har, decide_eq_true hp]; rfl) hf hb
      obtain ⟨a, cap, rfl, _⟩ := h
      generalize BestPost e xs p w = Q at *
      generalize xs.length = n at *
      clear har
      go_enter Try.func17, Try.ntmps17
      go_wp2_with (go_at_call 19; (with_reducible refine (hA.out).mono ?_); rintro e' w1 ⟨j1, rfl, rfl⟩)
      refine (hL.out _).mono ?_
      rintro e' w2 ⟨c, l, a5, n5, c5, a6, n6, c6, rfl, hb2, hf2⟩
      have hB2 := Lib.hid (below_alloc (hBd.out _ _ hb2) (Obj.cells #[Value.int .i64 c, Value.int .i64 l, Value.slice a5 n5 c5, Value.slice a6 n6 c6] 40))
      have hF2 := Lib.hid (found_alloc hf2 (Obj.cells #[Value.int .i64 c, Value.int .i64 l, Value.slice a5 n5 c5, Value.slice a6 n6 c6] 40))
      have hz := hYs.out c l _ _ _ hB2.out hF2.out
      have hZ := Lib.hid hz
      have hZd := Lib.hid (fun j => hYs.out c l _ _ _ (Lst.Below.drewN hB2.out j) (hF2.out.keep (Nat.le_refl _) (fun _ _ _ => rfl)))
      clear hz hb2 hf2 hYs
      by_cases hc : c = 0
      · have hz := Lib.hid (hZ.out.1 hc)
        subst hc
        go_wp2_with fail
        go_ret3
        exact hz.out
      · have hz := Lib.hid (fun j => (hZd.out j).2 hc)
        have hc1 : (c == 0) = false := by rw [beq_eq_false_iff_ne]; exact hc
        have hWh := Whole.made w2 40 #[Value.int .i64 c, Value.int .i64 l, Value.slice a5 n5 c5, Value.slice a6 n6 c6] rfl
        have y0 := hWh.at_ (i := 0) rfl
        have y1 := hWh.at_ (i := 1) rfl
        have y3 := hWh.at_ (i := 3) rfl
        clear hWh
        go_wp2_with fail
        go_quiet (fail)
        go_wp2
        go_ret3
        exact hz.out _
    · have hL := Lib.hid (fun j => look_no (LstK.drewN h j) hB har hp)
      have hN : Hid (∀ w', Below w.heap.size w w' → BestPost e xs p w (.returned (.tuple #[.slice none 0 0, .int .i64 0, .bool false])) w') := Lib.hid fun w' hb => best_none (bestTab_no (by unfold okTab; rw [decide_eq_false hp, Bool.and_false])) hb
      obtain ⟨a, cap, rfl, _⟩ := h
      generalize BestPost e xs p w = Q at *
      generalize xs.length = n at *
      clear har
      go_enter Try.func17, Try.ntmps17
      go_wp2_with (go_at_call 19; (with_reducible refine (hA.out).mono ?_); rintro e' w1 ⟨j1, rfl, rfl⟩)
      refine (hL.out _).mono ?_
      rintro e' w2 ⟨c, l, a5, n5, c5, a6, n6, c6, rfl, hb2⟩
      have hB2 := Lib.hid (below_alloc (hBd.out _ _ hb2) (Obj.cells #[Value.int .i64 c, Value.int .i64 l, Value.slice a5 n5 c5, Value.slice a6 n6 c6] 40))
      clear hb2
      go_wp2_with fail
      go_ret3
      exact hN.out _ hB2.out
end Go.Proofs.Ytncbjdkidkklgaa
