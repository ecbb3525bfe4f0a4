/- Arrays of 8 numbers that are compared. -/
import Derived.Test.YtmnogipmpojoaaaAreJobs
import Derived.Laws.StructEq
namespace Go.Proofs.Ytmnogipmpojoaaa
open Go.RowKit Go.Lst

def same8 (a b : Nat → Int) : Bool := (List.range 8).all fun v => a v == b v
theorem intEq8 (d : Nat) (a b : Int) (w : World) : (Op.equalIn (d + 1) 2 (.int .i64 a) (.int .i64 b)).run Try.prog w = .ok (a == b) w := run_equalIn_int w d 2 .i64 .i64 a b Try.underlying2
set_option maxRecDepth 20000 in
theorem arr_eqIn8 (d : Nat) (a b : Nat → Int) (w : World) : (Op.equalIn (d + 2) 53 (.agg #[.int .i64 (a 0), .int .i64 (a 1), .int .i64 (a 2), .int .i64 (a 3), .int .i64 (a 4), .int .i64 (a 5), .int .i64 (a 6), .int .i64 (a 7)]) (.agg #[.int .i64 (b 0), .int .i64 (b 1), .int .i64 (b 2), .int .i64 (b 3), .int .i64 (b 4), .int .i64 (b 5), .int .i64 (b 6), .int .i64 (b 7)])).run Try.prog w = .ok (same8 a b) w := by
  have hu := Try.underlying53
  have hsz : ∀ w', (sizeOf 2).run Try.prog w' = .ok 1 w' := fun w' => by simp [go_sem]
  have hp : ∀ (cs : Array Value) (i : Nat) (v : Value) (w' : World), cs[i]? = some v → (part 2 cs i).run Try.prog w' = .ok v w' := fun cs i v w' h => by
    simp [part, go_sem, h]
  rw [Op.equalIn]
  simp only [Sem.run_bind, run_underlying hu, Result.andThen_ok, hsz]
  rw [Std.Legacy.Range.forIn_eq_forIn_range']
  generalize hXS : (#[Value.int .i64 (a 0), .int .i64 (a 1), .int .i64 (a 2), .int .i64 (a 3), .int .i64 (a 4), .int .i64 (a 5), .int .i64 (a 6), .int .i64 (a 7)] : Array Value) = XS
  generalize hYS : (#[Value.int .i64 (b 0), .int .i64 (b 1), .int .i64 (b 2), .int .i64 (b 3), .int .i64 (b 4), .int .i64 (b 5), .int .i64 (b 6), .int .i64 (b 7)] : Array Value) = YS
  have hx : ∀ i, i < 8 → XS[i]? = some (.int .i64 (a i)) := fun i hi => by
    subst hXS
    have : i = 0 ∨ i = 1 ∨ i = 2 ∨ i = 3 ∨ i = 4 ∨ i = 5 ∨ i = 6 ∨ i = 7 := by omega
    rcases this with rfl | rfl | rfl | rfl | rfl | rfl | rfl | rfl <;> rfl
  have hy : ∀ i, i < 8 → YS[i]? = some (.int .i64 (b i)) := fun i hi => by
    subst hYS
    have : i = 0 ∨ i = 1 ∨ i = 2 ∨ i = 3 ∨ i = 4 ∨ i = 5 ∨ i = 6 ∨ i = 7 := by omega
    rcases this with rfl | rfl | rfl | rfl | rfl | rfl | rfl | rfl <;> rfl
  clear hXS hYS
  have key : ∀ (l : List Nat), (∀ i ∈ l, i < 8) → ∀ (s : Option Bool × Unit), s = (none, ()) → Sem.run Try.prog (forIn l s fun i __s => do
            let x ← part 2 XS (i * 1)
            let y ← part 2 YS (i * 1)
            let r ← Op.equalIn (d + 1) 2 x y
            if (!r) = true then pure (ForInStep.done (some false, ())) else pure (ForInStep.yield (none, ()))) w = .ok (if l.all (fun v => a v == b v) then (none, ()) else (some false, ())) w := by
    intro l
    induction l with
    | nil => intro _ s hs; subst hs; simp
    | cons i l ih =>
      intro hl s hs
      subst hs
      have hi := hl i List.mem_cons_self
      have e1 := hp XS (i * 1) _ w (by rw [Nat.mul_one]; exact hx i hi)
      have e2 := hp YS (i * 1) _ w (by rw [Nat.mul_one]; exact hy i hi)
      rw [List.forIn_cons]
      simp only [Sem.run_bind, e1, e2, intEq8, Result.andThen_ok, List.all_cons]
      by_cases hab : a i = b i
      · have := ih (fun j hj => hl j (List.mem_cons_of_mem i hj)) _ rfl
        simpa [hab] using this
      · simp [hab]
  have hN := key (List.range' 0 8 1) (by decide) (none, ()) rfl
  have hr : List.range' [:8].start [:8].size [:8].step = List.range' 0 8 1 := rfl
  rw [hr, hN]
  have hsame : same8 a b = (List.range' 0 8).all (fun v => a v == b v) := rfl
  rw [hsame]
  cases (List.range' 0 8).all (fun v => a v == b v) <;> simp
theorem arr_eq8 (a b : Nat → Int) (w : World) : (binOp .eql 53 (.agg #[.int .i64 (a 0), .int .i64 (a 1), .int .i64 (a 2), .int .i64 (a 3), .int .i64 (a 4), .int .i64 (a 5), .int .i64 (a 6), .int .i64 (a 7)]) (.agg #[.int .i64 (b 0), .int .i64 (b 1), .int .i64 (b 2), .int .i64 (b 3), .int .i64 (b 4), .int .i64 (b 5), .int .i64 (b 6), .int .i64 (b 7)])).run Try.prog w = .ok (.bool (same8 a b)) w := by
  rw [run_eql_struct, arr_eqIn8 9998 a b w]
  rfl
theorem same8_iff {a b : Nat → Int} : same8 a b = true ↔ ∀ v, v < 8 → a v = b v := by
  simp [same8]
end Go.Proofs.Ytmnogipmpojoaaa
