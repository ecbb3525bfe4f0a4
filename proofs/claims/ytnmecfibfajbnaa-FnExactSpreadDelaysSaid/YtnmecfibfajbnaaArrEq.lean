/- Arrays of 12 numbers that are compared. -/
import Derived.Test.YtnmecfibfajbnaaBlkImpl
namespace Go.Proofs.Ytnmecfibfajbnaa
open Go.RowKit Go.Lst

def same12 (a b : Nat → Int) : Bool := (List.range 12).all fun v => a v == b v
theorem intEq (d : Nat) (a b : Int) (w : World) : (Op.equalIn (d + 1) 2 (.int .i64 a) (.int .i64 b)).run Try.prog w = .ok (a == b) w := run_equalIn_int w d 2 .i64 .i64 a b Try.underlying2
set_option maxRecDepth 20000 in
theorem arr_eqIn (d : Nat) (a b : Nat → Int) (w : World) : (Op.equalIn (d + 2) 108 (.agg #[.int .i64 (a 0), .int .i64 (a 1), .int .i64 (a 2), .int .i64 (a 3), .int .i64 (a 4), .int .i64 (a 5), .int .i64 (a 6), .int .i64 (a 7), .int .i64 (a 8), .int .i64 (a 9), .int .i64 (a 10), .int .i64 (a 11)]) (.agg #[.int .i64 (b 0), .int .i64 (b 1), .int .i64 (b 2), .int .i64 (b 3), .int .i64 (b 4), .int .i64 (b 5), .int .i64 (b 6), .int .i64 (b 7), .int .i64 (b 8), .int .i64 (b 9), .int .i64 (b 10), .int .i64 (b 11)])).run Try.prog w = .ok (same12 a b) w := by
  have hu := Try.underlying108
  have hsz : ∀ w', (sizeOf 2).run Try.prog w' = .ok 1 w' := fun w' => by simp [go_sem]
  have hp : ∀ (cs : Array Value) (i : Nat) (v : Value) (w' : World), cs[i]? = some v → (part 2 cs i).run Try.prog w' = .ok v w' := fun cs i v w' h => by
    simp [part, go_sem, h]
  rw [Op.equalIn]
  simp only [Sem.run_bind, run_underlying hu, Result.andThen_ok, hsz]
  rw [Std.Legacy.Range.forIn_eq_forIn_range']
  generalize hXS : (#[Value.int .i64 (a 0), .int .i64 (a 1), .int .i64 (a 2), .int .i64 (a 3), .int .i64 (a 4), .int .i64 (a 5), .int .i64 (a 6), .int .i64 (a 7), .int .i64 (a 8), .int .i64 (a 9), .int .i64 (a 10), .int .i64 (a 11)] : Array Value) = XS
  generalize hYS : (#[Value.int .i64 (b 0), .int .i64 (b 1), .int .i64 (b 2), .int .i64 (b 3), .int .i64 (b 4), .int .i64 (b 5), .int .i64 (b 6), .int .i64 (b 7), .int .i64 (b 8), .int .i64 (b 9), .int .i64 (b 10), .int .i64 (b 11)] : Array Value) = YS
  have hx : ∀ i, i < 12 → XS[i]? = some (.int .i64 (a i)) := fun i hi => by
    subst hXS
    have : i = 0 ∨ i = 1 ∨ i = 2 ∨ i = 3 ∨ i = 4 ∨ i = 5 ∨ i = 6 ∨ i = 7 ∨ i = 8 ∨ i = 9 ∨ i = 10 ∨ i = 11 := by omega
    rcases this with rfl | rfl | rfl | rfl | rfl | rfl | rfl | rfl | rfl | rfl | rfl | rfl <;> rfl
  have hy : ∀ i, i < 12 → YS[i]? = some (.int .i64 (b i)) := fun i hi => by
    subst hYS
    have : i = 0 ∨ i = 1 ∨ i = 2 ∨ i = 3 ∨ i = 4 ∨ i = 5 ∨ i = 6 ∨ i = 7 ∨ i = 8 ∨ i = 9 ∨ i = 10 ∨ i = 11 := by omega
    rcases this with rfl | rfl | rfl | rfl | rfl | rfl | rfl | rfl | rfl | rfl | rfl | rfl <;> rfl
  clear hXS hYS
  have key : ∀ (l : List Nat), (∀ i ∈ l, i < 12) → ∀ (s : Option Bool × Unit), s = (none, ()) → Sem.run Try.prog (forIn l s fun i __s => do
            let x ← part 2 XS (i * 1)
            let y ← part 2 YS (i * 1)
            let r ← Op.equalIn (d + 1) 2 x y
            if (!r) = true then pure (ForInStep.done (some false, ())) else pure (ForInStep.yield (none, ()))) w = .ok (if l.all (fun v => a v == b v) then (none, ()) else (some false, ())) w := by
    intro l
    induction l with
    | nil => intro _ s hs; subst hs; simp
    | cons i l ih =>
      intro hl s hs
      subst hs
      have hi := hl i List.mem_cons_self
      have e1 := hp XS (i * 1) _ w (by rw [Nat.mul_one]; exact hx i hi)
      have e2 := hp YS (i * 1) _ w (by rw [Nat.mul_one]; exact hy i hi)
      rw [List.forIn_cons]
      simp only [Sem.run_bind, e1, e2, intEq, Result.andThen_ok, List.all_cons]
      by_cases hab : a i = b i
      · have := ih (fun j hj => hl j (List.mem_cons_of_mem i hj)) _ rfl
        simpa [hab] using this
      · simp [hab]
  have h12 := key (List.range' 0 12 1) (by decide) (none, ()) rfl
  have hr : List.range' [:12].start [:12].size [:12].step = List.range' 0 12 1 := rfl
  rw [hr, h12]
  have hsame : same12 a b = (List.range' 0 12).all (fun v => a v == b v) := rfl
  rw [hsame]
  cases (List.range' 0 12).all (fun v => a v == b v) <;> simp
theorem arr_eq (a b : Nat → Int) (w : World) : (binOp .eql 108 (.agg #[.int .i64 (a 0), .int .i64 (a 1), .int .i64 (a 2), .int .i64 (a 3), .int .i64 (a 4), .int .i64 (a 5), .int .i64 (a 6), .int .i64 (a 7), .int .i64 (a 8), .int .i64 (a 9), .int .i64 (a 10), .int .i64 (a 11)]) (.agg #[.int .i64 (b 0), .int .i64 (b 1), .int .i64 (b 2), .int .i64 (b 3), .int .i64 (b 4), .int .i64 (b 5), .int .i64 (b 6), .int .i64 (b 7), .int .i64 (b 8), .int .i64 (b 9), .int .i64 (b 10), .int .i64 (b 11)])).run Try.prog w = .ok (.bool (same12 a b)) w := by
  rw [run_eql_struct, arr_eqIn 9998 a b w]
  rfl
theorem same12_iff {a b : Nat → Int} : same12 a b = true ↔ ∀ v, v < 12 → a v = b v := by
  simp [same12]
end Go.Proofs.Ytnmecfibfajbnaa
