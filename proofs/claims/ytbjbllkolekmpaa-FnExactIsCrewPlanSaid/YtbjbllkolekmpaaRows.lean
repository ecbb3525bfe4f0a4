/-
  No cell of these rows narrows 'for every input' (looked for: loops, veiled, ifaces, maps, wideKeys, modest, calm, conditions, laid).
  DERIVED. THE GIVEN ROWS OF THIS SEAT. 6 by the template 'for every input the law returns true; each argument reads behind the call as it read before'; 0 by the template 'total and deterministic' (their statements: YtbjbllkolekmpaaTotals.lean).
  GIVEN WITH THE SEED: the statements are not yours to turn. If you find one false, say at which input.
  Laid BY PROGRAM, IN A SANDBOX (cutbox-rows.mjs): the forced cells as the released guide's own fill.sh prints them over the translation 0c7b33919138a09e… (all of the seat's roots in one cut). By AI agents, Wed Nov 11 2026. No macro, syntax, notation, axiom, sorry.
-/
import Derived.Test.YtbjbllkolekmpaaChecked
import GoSem.Claim
import GoSem.ClaimJoined
import GoSem.ClaimMapViews
import Derived.JoinedTies
import Derived.KernelRfl
namespace Go.Proofs.Ytbjbllkolekmpaa
/- THE CELL 'sum', in the pinned program and in every row, IS THE sha256 OF THE DUMP (.gsa) THAT YtbjbllkolekmpaaProg.lean LOADS. Nothing in Lean hashes anything: it is a label: what it is worth is what the hold of that sum in a sandbox is worth. -/
noncomputable def Try.pinned : Pinned := { name := "ytbjbllkolekmpaa", sum := "0c7b33919138a09e44afdc6904b0fdfb13cc4df29b8872d9f2e7ce03dcfac606", checked := Try.checked }
namespace Rows
def none {H : Type} : Left H := { results := [], args := [] }

/-- 'laws.FnExactSameTasks': WHATEVER THE INPUT: true; the input reads as it did. -/
def fnExactSameTasksSpec : ChangeSpec := { name := "fnExactSameTasks", fn := fun _ => fun
  | [d1, d2] => { results := [.lit (.bool true)], args := [d1, d2] }
  | _ => none }
def fnExactSameTasksRow : OpenClaim := { program := "ytbjbllkolekmpaa", sum := "0c7b33919138a09e44afdc6904b0fdfb13cc4df29b8872d9f2e7ce03dcfac606", func := "loop.example/g01389/laws.FnExactSameTasks", spec := "fnExactSameTasks", unfollowed := true, recurses := true, apart := false }
def FnExactSameTasksSaid : Prop := fnExactSameTasksRow.holds Try.pinned (OpenSpec.ofChange fnExactSameTasksSpec)

/-- ITS FALSE NEIGHBOUR: 'it returns false'. Refute it at one input. -/
def fnExactSameTasksWrong : ChangeSpec := { name := "fnExactSameTasks", fn := fun _ => fun
  | [d1, d2] => { results := [.lit (.bool false)], args := [d1, d2] }
  | _ => none }
def FnExactSameTasksWrongFalsely : Prop := fnExactSameTasksRow.holds Try.pinned (OpenSpec.ofChange fnExactSameTasksWrong)

/-- 'laws.FnExactCrewUse': WHATEVER THE INPUT: true; the input reads as it did. -/
def fnExactCrewUseSpec : ChangeSpec := { name := "fnExactCrewUse", fn := fun _ => fun
  | [d1, d2] => { results := [.lit (.bool true)], args := [d1, d2] }
  | _ => none }
def fnExactCrewUseRow : OpenClaim := { program := "ytbjbllkolekmpaa", sum := "0c7b33919138a09e44afdc6904b0fdfb13cc4df29b8872d9f2e7ce03dcfac606", func := "loop.example/g01389/laws.FnExactCrewUse", spec := "fnExactCrewUse", apart := false }
def FnExactCrewUseSaid : Prop := fnExactCrewUseRow.holds Try.pinned (OpenSpec.ofChange fnExactCrewUseSpec)

/-- ITS FALSE NEIGHBOUR: 'it returns false'. Refute it at one input. -/
def fnExactCrewUseWrong : ChangeSpec := { name := "fnExactCrewUse", fn := fun _ => fun
  | [d1, d2] => { results := [.lit (.bool false)], args := [d1, d2] }
  | _ => none }
def FnExactCrewUseWrongFalsely : Prop := fnExactCrewUseRow.holds Try.pinned (OpenSpec.ofChange fnExactCrewUseWrong)

/-- 'laws.FnExactIsCrewPlan': WHATEVER THE INPUT: true; the input reads as it did. -/
def fnExactIsCrewPlanSpec : ChangeSpec := { name := "fnExactIsCrewPlan", fn := fun _ => fun
  | [d1, d2, d3] => { results := [.lit (.bool true)], args := [d1, d2, d3] }
  | _ => none }
def fnExactIsCrewPlanRow : OpenClaim := { program := "ytbjbllkolekmpaa", sum := "0c7b33919138a09e44afdc6904b0fdfb13cc4df29b8872d9f2e7ce03dcfac606", func := "loop.example/g01389/laws.FnExactIsCrewPlan", spec := "fnExactIsCrewPlan", unfollowed := true, recurses := true, apart := false }
def FnExactIsCrewPlanSaid : Prop := fnExactIsCrewPlanRow.holds Try.pinned (OpenSpec.ofChange fnExactIsCrewPlanSpec)

/-- ITS FALSE NEIGHBOUR: 'it returns false'. Refute it at one input. -/
def fnExactIsCrewPlanWrong : ChangeSpec := { name := "fnExactIsCrewPlan", fn := fun _ => fun
  | [d1, d2, d3] => { results := [.lit (.bool false)], args := [d1, d2, d3] }
  | _ => none }
def FnExactIsCrewPlanWrongFalsely : Prop := fnExactIsCrewPlanRow.holds Try.pinned (OpenSpec.ofChange fnExactIsCrewPlanWrong)

/-- 'laws.FnExactPlanBound': WHATEVER THE INPUT: true; the input reads as it did. -/
def fnExactPlanBoundSpec : ChangeSpec := { name := "fnExactPlanBound", fn := fun _ => fun
  | [d1, d2] => { results := [.lit (.bool true)], args := [d1, d2] }
  | _ => none }
def fnExactPlanBoundRow : OpenClaim := { program := "ytbjbllkolekmpaa", sum := "0c7b33919138a09e44afdc6904b0fdfb13cc4df29b8872d9f2e7ce03dcfac606", func := "loop.example/g01389/laws.FnExactPlanBound", spec := "fnExactPlanBound", unfollowed := true, recurses := true, apart := false }
def FnExactPlanBoundSaid : Prop := fnExactPlanBoundRow.holds Try.pinned (OpenSpec.ofChange fnExactPlanBoundSpec)

/-- ITS FALSE NEIGHBOUR: 'it returns false'. Refute it at one input. -/
def fnExactPlanBoundWrong : ChangeSpec := { name := "fnExactPlanBound", fn := fun _ => fun
  | [d1, d2] => { results := [.lit (.bool false)], args := [d1, d2] }
  | _ => none }
def FnExactPlanBoundWrongFalsely : Prop := fnExactPlanBoundRow.holds Try.pinned (OpenSpec.ofChange fnExactPlanBoundWrong)

/-- 'laws.FnExactLongestWay': WHATEVER THE INPUT: true; the input reads as it did. -/
def fnExactLongestWaySpec : ChangeSpec := { name := "fnExactLongestWay", fn := fun _ => fun
  | [d] => { results := [.lit (.bool true)], args := [d] }
  | _ => none }
def fnExactLongestWayRow : OpenClaim := { program := "ytbjbllkolekmpaa", sum := "0c7b33919138a09e44afdc6904b0fdfb13cc4df29b8872d9f2e7ce03dcfac606", func := "loop.example/g01389/laws.FnExactLongestWay", spec := "fnExactLongestWay", unfollowed := true, recurses := true, apart := false }
def FnExactLongestWaySaid : Prop := fnExactLongestWayRow.holds Try.pinned (OpenSpec.ofChange fnExactLongestWaySpec)

/-- ITS FALSE NEIGHBOUR: 'it returns false'. Refute it at one input. -/
def fnExactLongestWayWrong : ChangeSpec := { name := "fnExactLongestWay", fn := fun _ => fun
  | [d] => { results := [.lit (.bool false)], args := [d] }
  | _ => none }
def FnExactLongestWayWrongFalsely : Prop := fnExactLongestWayRow.holds Try.pinned (OpenSpec.ofChange fnExactLongestWayWrong)

/-- 'laws.FnExactOrderPlan': WHATEVER THE INPUT: true; the input reads as it did. -/
def fnExactOrderPlanSpec : ChangeSpec := { name := "fnExactOrderPlan", fn := fun _ => fun
  | [d1, d2, d3] => { results := [.lit (.bool true)], args := [d1, d2, d3] }
  | _ => none }
def fnExactOrderPlanRow : OpenClaim := { program := "ytbjbllkolekmpaa", sum := "0c7b33919138a09e44afdc6904b0fdfb13cc4df29b8872d9f2e7ce03dcfac606", func := "loop.example/g01389/laws.FnExactOrderPlan", spec := "fnExactOrderPlan", unfollowed := true, recurses := true, apart := false }
def FnExactOrderPlanSaid : Prop := fnExactOrderPlanRow.holds Try.pinned (OpenSpec.ofChange fnExactOrderPlanSpec)

/-- ITS FALSE NEIGHBOUR: 'it returns false'. Refute it at one input. -/
def fnExactOrderPlanWrong : ChangeSpec := { name := "fnExactOrderPlan", fn := fun _ => fun
  | [d1, d2, d3] => { results := [.lit (.bool false)], args := [d1, d2, d3] }
  | _ => none }
def FnExactOrderPlanWrongFalsely : Prop := fnExactOrderPlanRow.holds Try.pinned (OpenSpec.ofChange fnExactOrderPlanWrong)

/- THE SECOND FORM. 'bulk': how many values and letters a reading holds, each counted each time it is reached (what is shared counts as often as it is met; a slice's spare places count too). A statement '..UptoSaid' is the law's where the arguments, and the package variables that the reading takes, are together of bulk at most 1048576: NARROWER than '..Said'. Prove '..Said' where nothing that the law and all that it calls make is longer than what came in: it says more and counts as full. Else prove '..UptoSaid'. A law counts once. -/
mutual
def uptoBulk {H : Type} : DataW H → Nat
  | .lit (.string bytes) => bytes.length + 1
  | .lit _ => 1
  | .nil => 1
  | .ptr d => uptoBulk d + 1
  | .slice elems spare => uptoBulkAll elems + uptoBulkAll spare + 1
  | .agg parts => uptoBulkAll parts + 1
  | .iface _ d => uptoBulk d + 1
  | .map entries => uptoBulkEntries entries + 1
  | .held _ => 1
def uptoBulkAll {H : Type} : List (DataW H) → Nat
  | [] => 0
  | d :: r => uptoBulk d + uptoBulkAll r
def uptoBulkEntries {H : Type} : List (Lit × DataW H) → Nat
  | [] => 0
  | x :: r => uptoBulkEntry x + uptoBulkEntries r
def uptoBulkEntry {H : Type} : Lit × DataW H → Nat
  | (.string bytes, d) => bytes.length + uptoBulk d + 1
  | (_, d) => uptoBulk d + 1
 end
def uptoSmall : (H : Type) → List (DataW H) → Bool := fun _ ds => decide (uptoBulkAll ds ≤ 1048576)
def OpenSpec.upto (s : _root_.Go.ChangeSpec) : _root_.Go.OpenSpec := { _root_.Go.OpenSpec.ofChange s with cond := some uptoSmall }

/-- 'laws.FnExactSameTasks', WHERE WHAT IT READS IS OF BULK AT MOST 1048576: true; the input reads as it did. -/
def fnExactSameTasksUptoRow : OpenClaim := { program := "ytbjbllkolekmpaa", sum := "0c7b33919138a09e44afdc6904b0fdfb13cc4df29b8872d9f2e7ce03dcfac606", func := "loop.example/g01389/laws.FnExactSameTasks", spec := "fnExactSameTasks", unfollowed := true, recurses := true, apart := false, narrowed := true }
def FnExactSameTasksUptoSaid : Prop := fnExactSameTasksUptoRow.holds Try.pinned (OpenSpec.upto fnExactSameTasksSpec)

/-- 'laws.FnExactCrewUse', WHERE WHAT IT READS IS OF BULK AT MOST 1048576: true; the input reads as it did. -/
def fnExactCrewUseUptoRow : OpenClaim := { program := "ytbjbllkolekmpaa", sum := "0c7b33919138a09e44afdc6904b0fdfb13cc4df29b8872d9f2e7ce03dcfac606", func := "loop.example/g01389/laws.FnExactCrewUse", spec := "fnExactCrewUse", apart := false, narrowed := true }
def FnExactCrewUseUptoSaid : Prop := fnExactCrewUseUptoRow.holds Try.pinned (OpenSpec.upto fnExactCrewUseSpec)

/-- 'laws.FnExactIsCrewPlan', WHERE WHAT IT READS IS OF BULK AT MOST 1048576: true; the input reads as it did. -/
def fnExactIsCrewPlanUptoRow : OpenClaim := { program := "ytbjbllkolekmpaa", sum := "0c7b33919138a09e44afdc6904b0fdfb13cc4df29b8872d9f2e7ce03dcfac606", func := "loop.example/g01389/laws.FnExactIsCrewPlan", spec := "fnExactIsCrewPlan", unfollowed := true, recurses := true, apart := false, narrowed := true }
def FnExactIsCrewPlanUptoSaid : Prop := fnExactIsCrewPlanUptoRow.holds Try.pinned (OpenSpec.upto fnExactIsCrewPlanSpec)

/-- 'laws.FnExactPlanBound', WHERE WHAT IT READS IS OF BULK AT MOST 1048576: true; the input reads as it did. -/
def fnExactPlanBoundUptoRow : OpenClaim := { program := "ytbjbllkolekmpaa", sum := "0c7b33919138a09e44afdc6904b0fdfb13cc4df29b8872d9f2e7ce03dcfac606", func := "loop.example/g01389/laws.FnExactPlanBound", spec := "fnExactPlanBound", unfollowed := true, recurses := true, apart := false, narrowed := true }
def FnExactPlanBoundUptoSaid : Prop := fnExactPlanBoundUptoRow.holds Try.pinned (OpenSpec.upto fnExactPlanBoundSpec)

/-- 'laws.FnExactLongestWay', WHERE WHAT IT READS IS OF BULK AT MOST 1048576: true; the input reads as it did. -/
def fnExactLongestWayUptoRow : OpenClaim := { program := "ytbjbllkolekmpaa", sum := "0c7b33919138a09e44afdc6904b0fdfb13cc4df29b8872d9f2e7ce03dcfac606", func := "loop.example/g01389/laws.FnExactLongestWay", spec := "fnExactLongestWay", unfollowed := true, recurses := true, apart := false, narrowed := true }
def FnExactLongestWayUptoSaid : Prop := fnExactLongestWayUptoRow.holds Try.pinned (OpenSpec.upto fnExactLongestWaySpec)

/-- 'laws.FnExactOrderPlan', WHERE WHAT IT READS IS OF BULK AT MOST 1048576: true; the input reads as it did. -/
def fnExactOrderPlanUptoRow : OpenClaim := { program := "ytbjbllkolekmpaa", sum := "0c7b33919138a09e44afdc6904b0fdfb13cc4df29b8872d9f2e7ce03dcfac606", func := "loop.example/g01389/laws.FnExactOrderPlan", spec := "fnExactOrderPlan", unfollowed := true, recurses := true, apart := false, narrowed := true }
def FnExactOrderPlanUptoSaid : Prop := fnExactOrderPlanUptoRow.holds Try.pinned (OpenSpec.upto fnExactOrderPlanSpec)

end Rows
end Go.Proofs.Ytbjbllkolekmpaa
