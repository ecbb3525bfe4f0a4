/-
  No cell of these rows narrows 'for every input' (looked for: loops, veiled, ifaces, maps, wideKeys, modest, calm, conditions, laid).
  DERIVED. THE GIVEN ROWS OF THIS SEAT. 12 by the template 'for every input the law returns true; each argument reads behind the call as it read before'; 0 by the template 'total and deterministic' (their statements: YtlgojbbhjhifhaaTotals.lean).
  GIVEN WITH THE SEED: the statements are not yours to turn. If you find one false, say at which input.
  Laid BY PROGRAM, IN A SANDBOX (cutbox-rows.mjs): the forced cells as the released guide's own fill.sh prints them over the translation cda5dd1b5a504deb… (all of the seat's roots in one cut). By AI agents, Wed Nov 11 2026. No macro, syntax, notation, axiom, sorry.
-/
import Derived.Test.YtlgojbbhjhifhaaChecked
import GoSem.Claim
import GoSem.ClaimJoined
import GoSem.ClaimMapViews
import Derived.JoinedTies
import Derived.KernelRfl
namespace Go.Proofs.Ytlgojbbhjhifhaa
/- THE CELL 'sum', in the pinned program and in every row, IS THE sha256 OF THE DUMP (.gsa) THAT YtlgojbbhjhifhaaProg.lean LOADS. Nothing in Lean hashes anything: it is a label: what it is worth is what the hold of that sum in a sandbox is worth. -/
noncomputable def Try.pinned : Pinned := { name := "ytlgojbbhjhifhaa", sum := "cda5dd1b5a504deb3d0f40ed79f801bd77f35169383fdf1ca89bb36ceb4f3006", checked := Try.checked }
namespace Rows
def none {H : Type} : Left H := { results := [], args := [] }

/-- 'laws.FnExactAreTasks': WHATEVER THE INPUT: true; the input reads as it did. -/
def fnExactAreTasksSpec : ChangeSpec := { name := "fnExactAreTasks", fn := fun _ => fun
  | [d] => { results := [.lit (.bool true)], args := [d] }
  | _ => none }
def fnExactAreTasksRow : OpenClaim := { program := "ytlgojbbhjhifhaa", sum := "cda5dd1b5a504deb3d0f40ed79f801bd77f35169383fdf1ca89bb36ceb4f3006", func := "loop.example/g01389/laws.FnExactAreTasks", spec := "fnExactAreTasks", apart := false }
def FnExactAreTasksSaid : Prop := fnExactAreTasksRow.holds Try.pinned (OpenSpec.ofChange fnExactAreTasksSpec)

/-- ITS FALSE NEIGHBOUR: 'it returns false'. Refute it at one input. -/
def fnExactAreTasksWrong : ChangeSpec := { name := "fnExactAreTasks", fn := fun _ => fun
  | [d] => { results := [.lit (.bool false)], args := [d] }
  | _ => none }
def FnExactAreTasksWrongFalsely : Prop := fnExactAreTasksRow.holds Try.pinned (OpenSpec.ofChange fnExactAreTasksWrong)

/-- 'laws.FnExactSameTasks': WHATEVER THE INPUT: true; the input reads as it did. -/
def fnExactSameTasksSpec : ChangeSpec := { name := "fnExactSameTasks", fn := fun _ => fun
  | [d1, d2] => { results := [.lit (.bool true)], args := [d1, d2] }
  | _ => none }
def fnExactSameTasksRow : OpenClaim := { program := "ytlgojbbhjhifhaa", sum := "cda5dd1b5a504deb3d0f40ed79f801bd77f35169383fdf1ca89bb36ceb4f3006", func := "loop.example/g01389/laws.FnExactSameTasks", spec := "fnExactSameTasks", unfollowed := true, recurses := true, apart := false }
def FnExactSameTasksSaid : Prop := fnExactSameTasksRow.holds Try.pinned (OpenSpec.ofChange fnExactSameTasksSpec)

/-- ITS FALSE NEIGHBOUR: 'it returns false'. Refute it at one input. -/
def fnExactSameTasksWrong : ChangeSpec := { name := "fnExactSameTasks", fn := fun _ => fun
  | [d1, d2] => { results := [.lit (.bool false)], args := [d1, d2] }
  | _ => none }
def FnExactSameTasksWrongFalsely : Prop := fnExactSameTasksRow.holds Try.pinned (OpenSpec.ofChange fnExactSameTasksWrong)

/-- 'laws.FnExactEarlyStarts': WHATEVER THE INPUT: true; the input reads as it did. -/
def fnExactEarlyStartsSpec : ChangeSpec := { name := "fnExactEarlyStarts", fn := fun _ => fun
  | [d] => { results := [.lit (.bool true)], args := [d] }
  | _ => none }
def fnExactEarlyStartsRow : OpenClaim := { program := "ytlgojbbhjhifhaa", sum := "cda5dd1b5a504deb3d0f40ed79f801bd77f35169383fdf1ca89bb36ceb4f3006", func := "loop.example/g01389/laws.FnExactEarlyStarts", spec := "fnExactEarlyStarts", unfollowed := true, recurses := true, apart := false }
def FnExactEarlyStartsSaid : Prop := fnExactEarlyStartsRow.holds Try.pinned (OpenSpec.ofChange fnExactEarlyStartsSpec)

/-- ITS FALSE NEIGHBOUR: 'it returns false'. Refute it at one input. -/
def fnExactEarlyStartsWrong : ChangeSpec := { name := "fnExactEarlyStarts", fn := fun _ => fun
  | [d] => { results := [.lit (.bool false)], args := [d] }
  | _ => none }
def FnExactEarlyStartsWrongFalsely : Prop := fnExactEarlyStartsRow.holds Try.pinned (OpenSpec.ofChange fnExactEarlyStartsWrong)

/-- 'laws.FnExactLateStarts': WHATEVER THE INPUT: true; the input reads as it did. -/
def fnExactLateStartsSpec : ChangeSpec := { name := "fnExactLateStarts", fn := fun _ => fun
  | [d1, d2] => { results := [.lit (.bool true)], args := [d1, d2] }
  | _ => none }
def fnExactLateStartsRow : OpenClaim := { program := "ytlgojbbhjhifhaa", sum := "cda5dd1b5a504deb3d0f40ed79f801bd77f35169383fdf1ca89bb36ceb4f3006", func := "loop.example/g01389/laws.FnExactLateStarts", spec := "fnExactLateStarts", unfollowed := true, recurses := true, apart := false }
def FnExactLateStartsSaid : Prop := fnExactLateStartsRow.holds Try.pinned (OpenSpec.ofChange fnExactLateStartsSpec)

/-- ITS FALSE NEIGHBOUR: 'it returns false'. Refute it at one input. -/
def fnExactLateStartsWrong : ChangeSpec := { name := "fnExactLateStarts", fn := fun _ => fun
  | [d1, d2] => { results := [.lit (.bool false)], args := [d1, d2] }
  | _ => none }
def FnExactLateStartsWrongFalsely : Prop := fnExactLateStartsRow.holds Try.pinned (OpenSpec.ofChange fnExactLateStartsWrong)

/-- 'laws.FnExactSlackOf': WHATEVER THE INPUT: true; the input reads as it did. -/
def fnExactSlackOfSpec : ChangeSpec := { name := "fnExactSlackOf", fn := fun _ => fun
  | [d] => { results := [.lit (.bool true)], args := [d] }
  | _ => none }
def fnExactSlackOfRow : OpenClaim := { program := "ytlgojbbhjhifhaa", sum := "cda5dd1b5a504deb3d0f40ed79f801bd77f35169383fdf1ca89bb36ceb4f3006", func := "loop.example/g01389/laws.FnExactSlackOf", spec := "fnExactSlackOf", unfollowed := true, recurses := true, apart := false }
def FnExactSlackOfSaid : Prop := fnExactSlackOfRow.holds Try.pinned (OpenSpec.ofChange fnExactSlackOfSpec)

/-- ITS FALSE NEIGHBOUR: 'it returns false'. Refute it at one input. -/
def fnExactSlackOfWrong : ChangeSpec := { name := "fnExactSlackOf", fn := fun _ => fun
  | [d] => { results := [.lit (.bool false)], args := [d] }
  | _ => none }
def FnExactSlackOfWrongFalsely : Prop := fnExactSlackOfRow.holds Try.pinned (OpenSpec.ofChange fnExactSlackOfWrong)

/-- 'laws.FnExactFreeSlackOf': WHATEVER THE INPUT: true; the input reads as it did. -/
def fnExactFreeSlackOfSpec : ChangeSpec := { name := "fnExactFreeSlackOf", fn := fun _ => fun
  | [d] => { results := [.lit (.bool true)], args := [d] }
  | _ => none }
def fnExactFreeSlackOfRow : OpenClaim := { program := "ytlgojbbhjhifhaa", sum := "cda5dd1b5a504deb3d0f40ed79f801bd77f35169383fdf1ca89bb36ceb4f3006", func := "loop.example/g01389/laws.FnExactFreeSlackOf", spec := "fnExactFreeSlackOf", unfollowed := true, recurses := true, apart := false }
def FnExactFreeSlackOfSaid : Prop := fnExactFreeSlackOfRow.holds Try.pinned (OpenSpec.ofChange fnExactFreeSlackOfSpec)

/-- ITS FALSE NEIGHBOUR: 'it returns false'. Refute it at one input. -/
def fnExactFreeSlackOfWrong : ChangeSpec := { name := "fnExactFreeSlackOf", fn := fun _ => fun
  | [d] => { results := [.lit (.bool false)], args := [d] }
  | _ => none }
def FnExactFreeSlackOfWrongFalsely : Prop := fnExactFreeSlackOfRow.holds Try.pinned (OpenSpec.ofChange fnExactFreeSlackOfWrong)

/-- 'laws.FnExactLongestWay': WHATEVER THE INPUT: true; the input reads as it did. -/
def fnExactLongestWaySpec : ChangeSpec := { name := "fnExactLongestWay", fn := fun _ => fun
  | [d] => { results := [.lit (.bool true)], args := [d] }
  | _ => none }
def fnExactLongestWayRow : OpenClaim := { program := "ytlgojbbhjhifhaa", sum := "cda5dd1b5a504deb3d0f40ed79f801bd77f35169383fdf1ca89bb36ceb4f3006", func := "loop.example/g01389/laws.FnExactLongestWay", spec := "fnExactLongestWay", unfollowed := true, recurses := true, apart := false }
def FnExactLongestWaySaid : Prop := fnExactLongestWayRow.holds Try.pinned (OpenSpec.ofChange fnExactLongestWaySpec)

/-- ITS FALSE NEIGHBOUR: 'it returns false'. Refute it at one input. -/
def fnExactLongestWayWrong : ChangeSpec := { name := "fnExactLongestWay", fn := fun _ => fun
  | [d] => { results := [.lit (.bool false)], args := [d] }
  | _ => none }
def FnExactLongestWayWrongFalsely : Prop := fnExactLongestWayRow.holds Try.pinned (OpenSpec.ofChange fnExactLongestWayWrong)

/-- 'laws.FnExactCountWays': WHATEVER THE INPUT: true; the input reads as it did. -/
def fnExactCountWaysSpec : ChangeSpec := { name := "fnExactCountWays", fn := fun _ => fun
  | [d] => { results := [.lit (.bool true)], args := [d] }
  | _ => none }
def fnExactCountWaysRow : OpenClaim := { program := "ytlgojbbhjhifhaa", sum := "cda5dd1b5a504deb3d0f40ed79f801bd77f35169383fdf1ca89bb36ceb4f3006", func := "loop.example/g01389/laws.FnExactCountWays", spec := "fnExactCountWays", apart := false }
def FnExactCountWaysSaid : Prop := fnExactCountWaysRow.holds Try.pinned (OpenSpec.ofChange fnExactCountWaysSpec)

/-- ITS FALSE NEIGHBOUR: 'it returns false'. Refute it at one input. -/
def fnExactCountWaysWrong : ChangeSpec := { name := "fnExactCountWays", fn := fun _ => fun
  | [d] => { results := [.lit (.bool false)], args := [d] }
  | _ => none }
def FnExactCountWaysWrongFalsely : Prop := fnExactCountWaysRow.holds Try.pinned (OpenSpec.ofChange fnExactCountWaysWrong)

/-- 'laws.FnExactBehindOf': WHATEVER THE INPUT: true; the input reads as it did. -/
def fnExactBehindOfSpec : ChangeSpec := { name := "fnExactBehindOf", fn := fun _ => fun
  | [d] => { results := [.lit (.bool true)], args := [d] }
  | _ => none }
def fnExactBehindOfRow : OpenClaim := { program := "ytlgojbbhjhifhaa", sum := "cda5dd1b5a504deb3d0f40ed79f801bd77f35169383fdf1ca89bb36ceb4f3006", func := "loop.example/g01389/laws.FnExactBehindOf", spec := "fnExactBehindOf", apart := false }
def FnExactBehindOfSaid : Prop := fnExactBehindOfRow.holds Try.pinned (OpenSpec.ofChange fnExactBehindOfSpec)

/-- ITS FALSE NEIGHBOUR: 'it returns false'. Refute it at one input. -/
def fnExactBehindOfWrong : ChangeSpec := { name := "fnExactBehindOf", fn := fun _ => fun
  | [d] => { results := [.lit (.bool false)], args := [d] }
  | _ => none }
def FnExactBehindOfWrongFalsely : Prop := fnExactBehindOfRow.holds Try.pinned (OpenSpec.ofChange fnExactBehindOfWrong)

/-- 'laws.FnExactCrewUse': WHATEVER THE INPUT: true; the input reads as it did. -/
def fnExactCrewUseSpec : ChangeSpec := { name := "fnExactCrewUse", fn := fun _ => fun
  | [d1, d2] => { results := [.lit (.bool true)], args := [d1, d2] }
  | _ => none }
def fnExactCrewUseRow : OpenClaim := { program := "ytlgojbbhjhifhaa", sum := "cda5dd1b5a504deb3d0f40ed79f801bd77f35169383fdf1ca89bb36ceb4f3006", func := "loop.example/g01389/laws.FnExactCrewUse", spec := "fnExactCrewUse", apart := false }
def FnExactCrewUseSaid : Prop := fnExactCrewUseRow.holds Try.pinned (OpenSpec.ofChange fnExactCrewUseSpec)

/-- ITS FALSE NEIGHBOUR: 'it returns false'. Refute it at one input. -/
def fnExactCrewUseWrong : ChangeSpec := { name := "fnExactCrewUse", fn := fun _ => fun
  | [d1, d2] => { results := [.lit (.bool false)], args := [d1, d2] }
  | _ => none }
def FnExactCrewUseWrongFalsely : Prop := fnExactCrewUseRow.holds Try.pinned (OpenSpec.ofChange fnExactCrewUseWrong)

/-- 'laws.FnExactIsCrewPlan': WHATEVER THE INPUT: true; the input reads as it did. -/
def fnExactIsCrewPlanSpec : ChangeSpec := { name := "fnExactIsCrewPlan", fn := fun _ => fun
  | [d1, d2, d3] => { results := [.lit (.bool true)], args := [d1, d2, d3] }
  | _ => none }
def fnExactIsCrewPlanRow : OpenClaim := { program := "ytlgojbbhjhifhaa", sum := "cda5dd1b5a504deb3d0f40ed79f801bd77f35169383fdf1ca89bb36ceb4f3006", func := "loop.example/g01389/laws.FnExactIsCrewPlan", spec := "fnExactIsCrewPlan", unfollowed := true, recurses := true, apart := false }
def FnExactIsCrewPlanSaid : Prop := fnExactIsCrewPlanRow.holds Try.pinned (OpenSpec.ofChange fnExactIsCrewPlanSpec)

/-- ITS FALSE NEIGHBOUR: 'it returns false'. Refute it at one input. -/
def fnExactIsCrewPlanWrong : ChangeSpec := { name := "fnExactIsCrewPlan", fn := fun _ => fun
  | [d1, d2, d3] => { results := [.lit (.bool false)], args := [d1, d2, d3] }
  | _ => none }
def FnExactIsCrewPlanWrongFalsely : Prop := fnExactIsCrewPlanRow.holds Try.pinned (OpenSpec.ofChange fnExactIsCrewPlanWrong)

/-- 'laws.FnExactOrderPlan': WHATEVER THE INPUT: true; the input reads as it did. -/
def fnExactOrderPlanSpec : ChangeSpec := { name := "fnExactOrderPlan", fn := fun _ => fun
  | [d1, d2, d3] => { results := [.lit (.bool true)], args := [d1, d2, d3] }
  | _ => none }
def fnExactOrderPlanRow : OpenClaim := { program := "ytlgojbbhjhifhaa", sum := "cda5dd1b5a504deb3d0f40ed79f801bd77f35169383fdf1ca89bb36ceb4f3006", func := "loop.example/g01389/laws.FnExactOrderPlan", spec := "fnExactOrderPlan", unfollowed := true, recurses := true, apart := false }
def FnExactOrderPlanSaid : Prop := fnExactOrderPlanRow.holds Try.pinned (OpenSpec.ofChange fnExactOrderPlanSpec)

/-- ITS FALSE NEIGHBOUR: 'it returns false'. Refute it at one input. -/
def fnExactOrderPlanWrong : ChangeSpec := { name := "fnExactOrderPlan", fn := fun _ => fun
  | [d1, d2, d3] => { results := [.lit (.bool false)], args := [d1, d2, d3] }
  | _ => none }
def FnExactOrderPlanWrongFalsely : Prop := fnExactOrderPlanRow.holds Try.pinned (OpenSpec.ofChange fnExactOrderPlanWrong)

/- THE SECOND FORM. 'bulk': how many values and letters a reading holds, each counted each time it is reached (what is shared counts as often as it is met; a slice's spare places count too). A statement '..UptoSaid' is the law's where the arguments, and the package variables that the reading takes, are together of bulk at most 1048576: NARROWER than '..Said'. Prove '..Said' where nothing that the law and all that it calls make is longer than what came in: it says more and counts as full. Else prove '..UptoSaid'. A law counts once. -/
mutual
def uptoBulk {H : Type} : DataW H → Nat
  | .lit (.string bytes) => bytes.length + 1
  | .lit _ => 1
  | .nil => 1
  | .ptr d => uptoBulk d + 1
  | .slice elems spare => uptoBulkAll elems + uptoBulkAll spare + 1
  | .agg parts => uptoBulkAll parts + 1
  | .iface _ d => uptoBulk d + 1
  | .map entries => uptoBulkEntries entries + 1
  | .held _ => 1
def uptoBulkAll {H : Type} : List (DataW H) → Nat
  | [] => 0
  | d :: r => uptoBulk d + uptoBulkAll r
def uptoBulkEntries {H : Type} : List (Lit × DataW H) → Nat
  | [] => 0
  | x :: r => uptoBulkEntry x + uptoBulkEntries r
def uptoBulkEntry {H : Type} : Lit × DataW H → Nat
  | (.string bytes, d) => bytes.length + uptoBulk d + 1
  | (_, d) => uptoBulk d + 1
 end
def uptoSmall : (H : Type) → List (DataW H) → Bool := fun _ ds => decide (uptoBulkAll ds ≤ 1048576)
def OpenSpec.upto (s : _root_.Go.ChangeSpec) : _root_.Go.OpenSpec := { _root_.Go.OpenSpec.ofChange s with cond := some uptoSmall }

/-- 'laws.FnExactAreTasks', WHERE WHAT IT READS IS OF BULK AT MOST 1048576: true; the input reads as it did. -/
def fnExactAreTasksUptoRow : OpenClaim := { program := "ytlgojbbhjhifhaa", sum := "cda5dd1b5a504deb3d0f40ed79f801bd77f35169383fdf1ca89bb36ceb4f3006", func := "loop.example/g01389/laws.FnExactAreTasks", spec := "fnExactAreTasks", apart := false, narrowed := true }
def FnExactAreTasksUptoSaid : Prop := fnExactAreTasksUptoRow.holds Try.pinned (OpenSpec.upto fnExactAreTasksSpec)

/-- 'laws.FnExactSameTasks', WHERE WHAT IT READS IS OF BULK AT MOST 1048576: true; the input reads as it did. -/
def fnExactSameTasksUptoRow : OpenClaim := { program := "ytlgojbbhjhifhaa", sum := "cda5dd1b5a504deb3d0f40ed79f801bd77f35169383fdf1ca89bb36ceb4f3006", func := "loop.example/g01389/laws.FnExactSameTasks", spec := "fnExactSameTasks", unfollowed := true, recurses := true, apart := false, narrowed := true }
def FnExactSameTasksUptoSaid : Prop := fnExactSameTasksUptoRow.holds Try.pinned (OpenSpec.upto fnExactSameTasksSpec)

/-- 'laws.FnExactEarlyStarts', WHERE WHAT IT READS IS OF BULK AT MOST 1048576: true; the input reads as it did. -/
def fnExactEarlyStartsUptoRow : OpenClaim := { program := "ytlgojbbhjhifhaa", sum := "cda5dd1b5a504deb3d0f40ed79f801bd77f35169383fdf1ca89bb36ceb4f3006", func := "loop.example/g01389/laws.FnExactEarlyStarts", spec := "fnExactEarlyStarts", unfollowed := true, recurses := true, apart := false, narrowed := true }
def FnExactEarlyStartsUptoSaid : Prop := fnExactEarlyStartsUptoRow.holds Try.pinned (OpenSpec.upto fnExactEarlyStartsSpec)

/-- 'laws.FnExactLateStarts', WHERE WHAT IT READS IS OF BULK AT MOST 1048576: true; the input reads as it did. -/
def fnExactLateStartsUptoRow : OpenClaim := { program := "ytlgojbbhjhifhaa", sum := "cda5dd1b5a504deb3d0f40ed79f801bd77f35169383fdf1ca89bb36ceb4f3006", func := "loop.example/g01389/laws.FnExactLateStarts", spec := "fnExactLateStarts", unfollowed := true, recurses := true, apart := false, narrowed := true }
def FnExactLateStartsUptoSaid : Prop := fnExactLateStartsUptoRow.holds Try.pinned (OpenSpec.upto fnExactLateStartsSpec)

/-- 'laws.FnExactSlackOf', WHERE WHAT IT READS IS OF BULK AT MOST 1048576: true; the input reads as it did. -/
def fnExactSlackOfUptoRow : OpenClaim := { program := "ytlgojbbhjhifhaa", sum := "cda5dd1b5a504deb3d0f40ed79f801bd77f35169383fdf1ca89bb36ceb4f3006", func := "loop.example/g01389/laws.FnExactSlackOf", spec := "fnExactSlackOf", unfollowed := true, recurses := true, apart := false, narrowed := true }
def FnExactSlackOfUptoSaid : Prop := fnExactSlackOfUptoRow.holds Try.pinned (OpenSpec.upto fnExactSlackOfSpec)

/-- 'laws.FnExactFreeSlackOf', WHERE WHAT IT READS IS OF BULK AT MOST 1048576: true; the input reads as it did. -/
def fnExactFreeSlackOfUptoRow : OpenClaim := { program := "ytlgojbbhjhifhaa", sum := "cda5dd1b5a504deb3d0f40ed79f801bd77f35169383fdf1ca89bb36ceb4f3006", func := "loop.example/g01389/laws.FnExactFreeSlackOf", spec := "fnExactFreeSlackOf", unfollowed := true, recurses := true, apart := false, narrowed := true }
def FnExactFreeSlackOfUptoSaid : Prop := fnExactFreeSlackOfUptoRow.holds Try.pinned (OpenSpec.upto fnExactFreeSlackOfSpec)

/-- 'laws.FnExactLongestWay', WHERE WHAT IT READS IS OF BULK AT MOST 1048576: true; the input reads as it did. -/
def fnExactLongestWayUptoRow : OpenClaim := { program := "ytlgojbbhjhifhaa", sum := "cda5dd1b5a504deb3d0f40ed79f801bd77f35169383fdf1ca89bb36ceb4f3006", func := "loop.example/g01389/laws.FnExactLongestWay", spec := "fnExactLongestWay", unfollowed := true, recurses := true, apart := false, narrowed := true }
def FnExactLongestWayUptoSaid : Prop := fnExactLongestWayUptoRow.holds Try.pinned (OpenSpec.upto fnExactLongestWaySpec)

/-- 'laws.FnExactCountWays', WHERE WHAT IT READS IS OF BULK AT MOST 1048576: true; the input reads as it did. -/
def fnExactCountWaysUptoRow : OpenClaim := { program := "ytlgojbbhjhifhaa", sum := "cda5dd1b5a504deb3d0f40ed79f801bd77f35169383fdf1ca89bb36ceb4f3006", func := "loop.example/g01389/laws.FnExactCountWays", spec := "fnExactCountWays", apart := false, narrowed := true }
def FnExactCountWaysUptoSaid : Prop := fnExactCountWaysUptoRow.holds Try.pinned (OpenSpec.upto fnExactCountWaysSpec)

/-- 'laws.FnExactBehindOf', WHERE WHAT IT READS IS OF BULK AT MOST 1048576: true; the input reads as it did. -/
def fnExactBehindOfUptoRow : OpenClaim := { program := "ytlgojbbhjhifhaa", sum := "cda5dd1b5a504deb3d0f40ed79f801bd77f35169383fdf1ca89bb36ceb4f3006", func := "loop.example/g01389/laws.FnExactBehindOf", spec := "fnExactBehindOf", apart := false, narrowed := true }
def FnExactBehindOfUptoSaid : Prop := fnExactBehindOfUptoRow.holds Try.pinned (OpenSpec.upto fnExactBehindOfSpec)

/-- 'laws.FnExactCrewUse', WHERE WHAT IT READS IS OF BULK AT MOST 1048576: true; the input reads as it did. -/
def fnExactCrewUseUptoRow : OpenClaim := { program := "ytlgojbbhjhifhaa", sum := "cda5dd1b5a504deb3d0f40ed79f801bd77f35169383fdf1ca89bb36ceb4f3006", func := "loop.example/g01389/laws.FnExactCrewUse", spec := "fnExactCrewUse", apart := false, narrowed := true }
def FnExactCrewUseUptoSaid : Prop := fnExactCrewUseUptoRow.holds Try.pinned (OpenSpec.upto fnExactCrewUseSpec)

/-- 'laws.FnExactIsCrewPlan', WHERE WHAT IT READS IS OF BULK AT MOST 1048576: true; the input reads as it did. -/
def fnExactIsCrewPlanUptoRow : OpenClaim := { program := "ytlgojbbhjhifhaa", sum := "cda5dd1b5a504deb3d0f40ed79f801bd77f35169383fdf1ca89bb36ceb4f3006", func := "loop.example/g01389/laws.FnExactIsCrewPlan", spec := "fnExactIsCrewPlan", unfollowed := true, recurses := true, apart := false, narrowed := true }
def FnExactIsCrewPlanUptoSaid : Prop := fnExactIsCrewPlanUptoRow.holds Try.pinned (OpenSpec.upto fnExactIsCrewPlanSpec)

/-- 'laws.FnExactOrderPlan', WHERE WHAT IT READS IS OF BULK AT MOST 1048576: true; the input reads as it did. -/
def fnExactOrderPlanUptoRow : OpenClaim := { program := "ytlgojbbhjhifhaa", sum := "cda5dd1b5a504deb3d0f40ed79f801bd77f35169383fdf1ca89bb36ceb4f3006", func := "loop.example/g01389/laws.FnExactOrderPlan", spec := "fnExactOrderPlan", unfollowed := true, recurses := true, apart := false, narrowed := true }
def FnExactOrderPlanUptoSaid : Prop := fnExactOrderPlanUptoRow.holds Try.pinned (OpenSpec.upto fnExactOrderPlanSpec)

end Rows
end Go.Proofs.Ytlgojbbhjhifhaa
