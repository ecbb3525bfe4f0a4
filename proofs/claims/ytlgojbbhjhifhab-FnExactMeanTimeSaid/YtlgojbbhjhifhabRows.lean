/-
  No cell of these rows narrows 'for every input' (looked for: loops, veiled, ifaces, maps, wideKeys, modest, calm, conditions, laid).
  DERIVED. THE GIVEN ROWS OF THIS SEAT. 12 by the template 'for every input the law returns true; each argument reads behind the call as it read before'; 0 by the template 'total and deterministic' (their statements: YtlgojbbhjhifhabTotals.lean).
  GIVEN WITH THE SEED: the statements are not yours to turn. If you find one false, say at which input.
  Laid BY PROGRAM, IN A SANDBOX (cutbox-rows.mjs): the forced cells as the released guide's own fill.sh prints them over the translation 26489b23c6c87e3f… (all of the seat's roots in one cut). By AI agents, Wed Nov 11 2026. No macro, syntax, notation, axiom, sorry.
-/
import Derived.Test.YtlgojbbhjhifhabChecked
import GoSem.Claim
import GoSem.ClaimJoined
import GoSem.ClaimMapViews
import Derived.JoinedTies
import Derived.KernelRfl
namespace Go.Proofs.Ytlgojbbhjhifhab
/- THE CELL 'sum', in the pinned program and in every row, IS THE sha256 OF THE DUMP (.gsa) THAT YtlgojbbhjhifhabProg.lean LOADS. Nothing in Lean hashes anything: it is a label: what it is worth is what the hold of that sum in a sandbox is worth. -/
noncomputable def Try.pinned : Pinned := { name := "ytlgojbbhjhifhab", sum := "26489b23c6c87e3f30fc62d7c88787c9c6b4cf0f17b4785446e6ddb4cedd6f98", checked := Try.checked }
namespace Rows
def none {H : Type} : Left H := { results := [], args := [] }

/-- 'laws.FnExactBufferOf': WHATEVER THE INPUT: true; the input reads as it did. -/
def fnExactBufferOfSpec : ChangeSpec := { name := "fnExactBufferOf", fn := fun _ => fun
  | [d1, d2] => { results := [.lit (.bool true)], args := [d1, d2] }
  | _ => none }
def fnExactBufferOfRow : OpenClaim := { program := "ytlgojbbhjhifhab", sum := "26489b23c6c87e3f30fc62d7c88787c9c6b4cf0f17b4785446e6ddb4cedd6f98", func := "loop.example/g01389/laws.FnExactBufferOf", spec := "fnExactBufferOf", inPlace := ["math.sqrt", "math.Float64bits", "math.Float64frombits"], unfollowed := true, recurses := true, leaving := true, apart := false }
def FnExactBufferOfSaid : Prop := fnExactBufferOfRow.holds Try.pinned (OpenSpec.ofChange fnExactBufferOfSpec)

/-- ITS FALSE NEIGHBOUR: 'it returns false'. Refute it at one input. -/
def fnExactBufferOfWrong : ChangeSpec := { name := "fnExactBufferOf", fn := fun _ => fun
  | [d1, d2] => { results := [.lit (.bool false)], args := [d1, d2] }
  | _ => none }
def FnExactBufferOfWrongFalsely : Prop := fnExactBufferOfRow.holds Try.pinned (OpenSpec.ofChange fnExactBufferOfWrong)

/-- 'laws.FnExactProgressOf': WHATEVER THE INPUT: true; the input reads as it did. -/
def fnExactProgressOfSpec : ChangeSpec := { name := "fnExactProgressOf", fn := fun _ => fun
  | [d1, d2, d3] => { results := [.lit (.bool true)], args := [d1, d2, d3] }
  | _ => none }
def fnExactProgressOfRow : OpenClaim := { program := "ytlgojbbhjhifhab", sum := "26489b23c6c87e3f30fc62d7c88787c9c6b4cf0f17b4785446e6ddb4cedd6f98", func := "loop.example/g01389/laws.FnExactProgressOf", spec := "fnExactProgressOf", apart := false }
def FnExactProgressOfSaid : Prop := fnExactProgressOfRow.holds Try.pinned (OpenSpec.ofChange fnExactProgressOfSpec)

/-- ITS FALSE NEIGHBOUR: 'it returns false'. Refute it at one input. -/
def fnExactProgressOfWrong : ChangeSpec := { name := "fnExactProgressOf", fn := fun _ => fun
  | [d1, d2, d3] => { results := [.lit (.bool false)], args := [d1, d2, d3] }
  | _ => none }
def FnExactProgressOfWrongFalsely : Prop := fnExactProgressOfRow.holds Try.pinned (OpenSpec.ofChange fnExactProgressOfWrong)

/-- 'laws.FnExactMeanTime': WHATEVER THE INPUT: true; the input reads as it did. -/
def fnExactMeanTimeSpec : ChangeSpec := { name := "fnExactMeanTime", fn := fun _ => fun
  | [d1, d2, d3] => { results := [.lit (.bool true)], args := [d1, d2, d3] }
  | _ => none }
def fnExactMeanTimeRow : OpenClaim := { program := "ytlgojbbhjhifhab", sum := "26489b23c6c87e3f30fc62d7c88787c9c6b4cf0f17b4785446e6ddb4cedd6f98", func := "loop.example/g01389/laws.FnExactMeanTime", spec := "fnExactMeanTime", inPlace := ["math.Float64bits", "math.Float64frombits"], apart := false }
def FnExactMeanTimeSaid : Prop := fnExactMeanTimeRow.holds Try.pinned (OpenSpec.ofChange fnExactMeanTimeSpec)

/-- ITS FALSE NEIGHBOUR: 'it returns false'. Refute it at one input. -/
def fnExactMeanTimeWrong : ChangeSpec := { name := "fnExactMeanTime", fn := fun _ => fun
  | [d1, d2, d3] => { results := [.lit (.bool false)], args := [d1, d2, d3] }
  | _ => none }
def FnExactMeanTimeWrongFalsely : Prop := fnExactMeanTimeRow.holds Try.pinned (OpenSpec.ofChange fnExactMeanTimeWrong)

/-- 'laws.FnExactEndChance': WHATEVER THE INPUT: true; the input reads as it did. -/
def fnExactEndChanceSpec : ChangeSpec := { name := "fnExactEndChance", fn := fun _ => fun
  | [d1, d2, d3] => { results := [.lit (.bool true)], args := [d1, d2, d3] }
  | _ => none }
def fnExactEndChanceRow : OpenClaim := { program := "ytlgojbbhjhifhab", sum := "26489b23c6c87e3f30fc62d7c88787c9c6b4cf0f17b4785446e6ddb4cedd6f98", func := "loop.example/g01389/laws.FnExactEndChance", spec := "fnExactEndChance", inPlace := ["math.sqrt", "math.Float64frombits", "math.Float64bits"], unfollowed := true, recurses := true, leaving := true, apart := false }
def FnExactEndChanceSaid : Prop := fnExactEndChanceRow.holds Try.pinned (OpenSpec.ofChange fnExactEndChanceSpec)

/-- ITS FALSE NEIGHBOUR: 'it returns false'. Refute it at one input. -/
def fnExactEndChanceWrong : ChangeSpec := { name := "fnExactEndChance", fn := fun _ => fun
  | [d1, d2, d3] => { results := [.lit (.bool false)], args := [d1, d2, d3] }
  | _ => none }
def FnExactEndChanceWrongFalsely : Prop := fnExactEndChanceRow.holds Try.pinned (OpenSpec.ofChange fnExactEndChanceWrong)

/-- 'laws.FnExactTimeDrawn': WHATEVER THE INPUT: true; the input reads as it did. -/
def fnExactTimeDrawnSpec : ChangeSpec := { name := "fnExactTimeDrawn", fn := fun _ => fun
  | [d1, d2, d3, d4] => { results := [.lit (.bool true)], args := [d1, d2, d3, d4] }
  | _ => none }
def fnExactTimeDrawnRow : OpenClaim := { program := "ytlgojbbhjhifhab", sum := "26489b23c6c87e3f30fc62d7c88787c9c6b4cf0f17b4785446e6ddb4cedd6f98", func := "loop.example/g01389/laws.FnExactTimeDrawn", spec := "fnExactTimeDrawn", inPlace := ["math.sqrt", "math.Float64bits", "math.Float64frombits"], apart := false }
def FnExactTimeDrawnSaid : Prop := fnExactTimeDrawnRow.holds Try.pinned (OpenSpec.ofChange fnExactTimeDrawnSpec)

/-- ITS FALSE NEIGHBOUR: 'it returns false'. Refute it at one input. -/
def fnExactTimeDrawnWrong : ChangeSpec := { name := "fnExactTimeDrawn", fn := fun _ => fun
  | [d1, d2, d3, d4] => { results := [.lit (.bool false)], args := [d1, d2, d3, d4] }
  | _ => none }
def FnExactTimeDrawnWrongFalsely : Prop := fnExactTimeDrawnRow.holds Try.pinned (OpenSpec.ofChange fnExactTimeDrawnWrong)

/-- 'laws.FnExactEndsDrawn': WHATEVER THE INPUT: true; the input reads as it did. -/
def fnExactEndsDrawnSpec : ChangeSpec := { name := "fnExactEndsDrawn", fn := fun _ => fun
  | [d1, d2, d3, d4, d5] => { results := [.lit (.bool true)], args := [d1, d2, d3, d4, d5] }
  | _ => none }
def fnExactEndsDrawnRow : OpenClaim := { program := "ytlgojbbhjhifhab", sum := "26489b23c6c87e3f30fc62d7c88787c9c6b4cf0f17b4785446e6ddb4cedd6f98", func := "loop.example/g01389/laws.FnExactEndsDrawn", spec := "fnExactEndsDrawn", inPlace := ["math.sqrt", "math.Float64bits", "math.Float64frombits"], unfollowed := true, recurses := true, leaving := true, apart := false }
def FnExactEndsDrawnSaid : Prop := fnExactEndsDrawnRow.holds Try.pinned (OpenSpec.ofChange fnExactEndsDrawnSpec)

/-- ITS FALSE NEIGHBOUR: 'it returns false'. Refute it at one input. -/
def fnExactEndsDrawnWrong : ChangeSpec := { name := "fnExactEndsDrawn", fn := fun _ => fun
  | [d1, d2, d3, d4, d5] => { results := [.lit (.bool false)], args := [d1, d2, d3, d4, d5] }
  | _ => none }
def FnExactEndsDrawnWrongFalsely : Prop := fnExactEndsDrawnRow.holds Try.pinned (OpenSpec.ofChange fnExactEndsDrawnWrong)

/-- 'laws.FnExactPlanBound': WHATEVER THE INPUT: true; the input reads as it did. -/
def fnExactPlanBoundSpec : ChangeSpec := { name := "fnExactPlanBound", fn := fun _ => fun
  | [d1, d2] => { results := [.lit (.bool true)], args := [d1, d2] }
  | _ => none }
def fnExactPlanBoundRow : OpenClaim := { program := "ytlgojbbhjhifhab", sum := "26489b23c6c87e3f30fc62d7c88787c9c6b4cf0f17b4785446e6ddb4cedd6f98", func := "loop.example/g01389/laws.FnExactPlanBound", spec := "fnExactPlanBound", unfollowed := true, recurses := true, leaving := true, apart := false }
def FnExactPlanBoundSaid : Prop := fnExactPlanBoundRow.holds Try.pinned (OpenSpec.ofChange fnExactPlanBoundSpec)

/-- ITS FALSE NEIGHBOUR: 'it returns false'. Refute it at one input. -/
def fnExactPlanBoundWrong : ChangeSpec := { name := "fnExactPlanBound", fn := fun _ => fun
  | [d1, d2] => { results := [.lit (.bool false)], args := [d1, d2] }
  | _ => none }
def FnExactPlanBoundWrongFalsely : Prop := fnExactPlanBoundRow.holds Try.pinned (OpenSpec.ofChange fnExactPlanBoundWrong)

/-- 'laws.FnExactCrewsShared': WHATEVER THE INPUT: true; the input reads as it did. -/
def fnExactCrewsSharedSpec : ChangeSpec := { name := "fnExactCrewsShared", fn := fun _ => fun
  | [d1, d2, d3] => { results := [.lit (.bool true)], args := [d1, d2, d3] }
  | _ => none }
def fnExactCrewsSharedRow : OpenClaim := { program := "ytlgojbbhjhifhab", sum := "26489b23c6c87e3f30fc62d7c88787c9c6b4cf0f17b4785446e6ddb4cedd6f98", func := "loop.example/g01389/laws.FnExactCrewsShared", spec := "fnExactCrewsShared", inPlace := ["(*sync.WaitGroup).Add", "internal/race.ReleaseMerge", "internal/race.Disable", "internal/race.Enable", "internal/synctest.IsInBubble", "internal/synctest.Associate[sync.WaitGroup]", "sync.fatal", "sync/atomic.OrUint64", "sync/atomic.AddUint64", "internal/race.Read", "sync/atomic.LoadUint64", "sync/atomic.StoreUint64", "internal/synctest.Disassociate[sync.WaitGroup]", "sync.runtime_Semrelease", "(*sync.WaitGroup).Done", "(*sync.WaitGroup).Wait", "internal/race.Acquire", "internal/synctest.IsAssociated[sync.WaitGroup]", "sync/atomic.CompareAndSwapUint64", "internal/race.Write", "sync.runtime_SemacquireWaitGroup"], unfollowed := true, recurses := true, leaving := true, apart := false }
def FnExactCrewsSharedSaid : Prop := fnExactCrewsSharedRow.holds Try.pinned (OpenSpec.ofChange fnExactCrewsSharedSpec)

/-- ITS FALSE NEIGHBOUR: 'it returns false'. Refute it at one input. -/
def fnExactCrewsSharedWrong : ChangeSpec := { name := "fnExactCrewsShared", fn := fun _ => fun
  | [d1, d2, d3] => { results := [.lit (.bool false)], args := [d1, d2, d3] }
  | _ => none }
def FnExactCrewsSharedWrongFalsely : Prop := fnExactCrewsSharedRow.holds Try.pinned (OpenSpec.ofChange fnExactCrewsSharedWrong)

/-- 'laws.FnExactRulePlan': WHATEVER THE INPUT: true; the input reads as it did. -/
def fnExactRulePlanSpec : ChangeSpec := { name := "fnExactRulePlan", fn := fun _ => fun
  | [d1, d2, d3] => { results := [.lit (.bool true)], args := [d1, d2, d3] }
  | _ => none }
def fnExactRulePlanRow : OpenClaim := { program := "ytlgojbbhjhifhab", sum := "26489b23c6c87e3f30fc62d7c88787c9c6b4cf0f17b4785446e6ddb4cedd6f98", func := "loop.example/g01389/laws.FnExactRulePlan", spec := "fnExactRulePlan", unfollowed := true, recurses := true, leaving := true, apart := false }
def FnExactRulePlanSaid : Prop := fnExactRulePlanRow.holds Try.pinned (OpenSpec.ofChange fnExactRulePlanSpec)

/-- ITS FALSE NEIGHBOUR: 'it returns false'. Refute it at one input. -/
def fnExactRulePlanWrong : ChangeSpec := { name := "fnExactRulePlan", fn := fun _ => fun
  | [d1, d2, d3] => { results := [.lit (.bool false)], args := [d1, d2, d3] }
  | _ => none }
def FnExactRulePlanWrongFalsely : Prop := fnExactRulePlanRow.holds Try.pinned (OpenSpec.ofChange fnExactRulePlanWrong)

/-- 'laws.FnExactLevelPlan': WHATEVER THE INPUT: true; the input reads as it did. -/
def fnExactLevelPlanSpec : ChangeSpec := { name := "fnExactLevelPlan", fn := fun _ => fun
  | [d1, d2, d3] => { results := [.lit (.bool true)], args := [d1, d2, d3] }
  | _ => none }
def fnExactLevelPlanRow : OpenClaim := { program := "ytlgojbbhjhifhab", sum := "26489b23c6c87e3f30fc62d7c88787c9c6b4cf0f17b4785446e6ddb4cedd6f98", func := "loop.example/g01389/laws.FnExactLevelPlan", spec := "fnExactLevelPlan", unfollowed := true, recurses := true, leaving := true, apart := false }
def FnExactLevelPlanSaid : Prop := fnExactLevelPlanRow.holds Try.pinned (OpenSpec.ofChange fnExactLevelPlanSpec)

/-- ITS FALSE NEIGHBOUR: 'it returns false'. Refute it at one input. -/
def fnExactLevelPlanWrong : ChangeSpec := { name := "fnExactLevelPlan", fn := fun _ => fun
  | [d1, d2, d3] => { results := [.lit (.bool false)], args := [d1, d2, d3] }
  | _ => none }
def FnExactLevelPlanWrongFalsely : Prop := fnExactLevelPlanRow.holds Try.pinned (OpenSpec.ofChange fnExactLevelPlanWrong)

/-- 'laws.FnExactHastePlan': WHATEVER THE INPUT: true; the input reads as it did. -/
def fnExactHastePlanSpec : ChangeSpec := { name := "fnExactHastePlan", fn := fun _ => fun
  | [d1, d2, d3, d4] => { results := [.lit (.bool true)], args := [d1, d2, d3, d4] }
  | _ => none }
def fnExactHastePlanRow : OpenClaim := { program := "ytlgojbbhjhifhab", sum := "26489b23c6c87e3f30fc62d7c88787c9c6b4cf0f17b4785446e6ddb4cedd6f98", func := "loop.example/g01389/laws.FnExactHastePlan", spec := "fnExactHastePlan", unfollowed := true, recurses := true, leaving := true, apart := false }
def FnExactHastePlanSaid : Prop := fnExactHastePlanRow.holds Try.pinned (OpenSpec.ofChange fnExactHastePlanSpec)

/-- ITS FALSE NEIGHBOUR: 'it returns false'. Refute it at one input. -/
def fnExactHastePlanWrong : ChangeSpec := { name := "fnExactHastePlan", fn := fun _ => fun
  | [d1, d2, d3, d4] => { results := [.lit (.bool false)], args := [d1, d2, d3, d4] }
  | _ => none }
def FnExactHastePlanWrongFalsely : Prop := fnExactHastePlanRow.holds Try.pinned (OpenSpec.ofChange fnExactHastePlanWrong)

/-- 'laws.FnExactBestPlan': WHATEVER THE INPUT: true; the input reads as it did. -/
def fnExactBestPlanSpec : ChangeSpec := { name := "fnExactBestPlan", fn := fun _ => fun
  | [d1, d2] => { results := [.lit (.bool true)], args := [d1, d2] }
  | _ => none }
def fnExactBestPlanRow : OpenClaim := { program := "ytlgojbbhjhifhab", sum := "26489b23c6c87e3f30fc62d7c88787c9c6b4cf0f17b4785446e6ddb4cedd6f98", func := "loop.example/g01389/laws.FnExactBestPlan", spec := "fnExactBestPlan", unfollowed := true, recurses := true, leaving := true, apart := false }
def FnExactBestPlanSaid : Prop := fnExactBestPlanRow.holds Try.pinned (OpenSpec.ofChange fnExactBestPlanSpec)

/-- ITS FALSE NEIGHBOUR: 'it returns false'. Refute it at one input. -/
def fnExactBestPlanWrong : ChangeSpec := { name := "fnExactBestPlan", fn := fun _ => fun
  | [d1, d2] => { results := [.lit (.bool false)], args := [d1, d2] }
  | _ => none }
def FnExactBestPlanWrongFalsely : Prop := fnExactBestPlanRow.holds Try.pinned (OpenSpec.ofChange fnExactBestPlanWrong)

/- THE SECOND FORM. 'bulk': how many values and letters a reading holds, each counted each time it is reached (what is shared counts as often as it is met; a slice's spare places count too). A statement '..UptoSaid' is the law's where the arguments, and the package variables that the reading takes, are together of bulk at most 1048576: NARROWER than '..Said'. Prove '..Said' where nothing that the law and all that it calls make is longer than what came in: it says more and counts as full. Else prove '..UptoSaid'. A law counts once. -/
mutual
def uptoBulk {H : Type} : DataW H → Nat
  | .lit (.string bytes) => bytes.length + 1
  | .lit _ => 1
  | .nil => 1
  | .ptr d => uptoBulk d + 1
  | .slice elems spare => uptoBulkAll elems + uptoBulkAll spare + 1
  | .agg parts => uptoBulkAll parts + 1
  | .iface _ d => uptoBulk d + 1
  | .map entries => uptoBulkEntries entries + 1
  | .held _ => 1
def uptoBulkAll {H : Type} : List (DataW H) → Nat
  | [] => 0
  | d :: r => uptoBulk d + uptoBulkAll r
def uptoBulkEntries {H : Type} : List (Lit × DataW H) → Nat
  | [] => 0
  | x :: r => uptoBulkEntry x + uptoBulkEntries r
def uptoBulkEntry {H : Type} : Lit × DataW H → Nat
  | (.string bytes, d) => bytes.length + uptoBulk d + 1
  | (_, d) => uptoBulk d + 1
 end
def uptoSmall : (H : Type) → List (DataW H) → Bool := fun _ ds => decide (uptoBulkAll ds ≤ 1048576)
def OpenSpec.upto (s : _root_.Go.ChangeSpec) : _root_.Go.OpenSpec := { _root_.Go.OpenSpec.ofChange s with cond := some uptoSmall }

/-- 'laws.FnExactBufferOf', WHERE WHAT IT READS IS OF BULK AT MOST 1048576: true; the input reads as it did. -/
def fnExactBufferOfUptoRow : OpenClaim := { program := "ytlgojbbhjhifhab", sum := "26489b23c6c87e3f30fc62d7c88787c9c6b4cf0f17b4785446e6ddb4cedd6f98", func := "loop.example/g01389/laws.FnExactBufferOf", spec := "fnExactBufferOf", inPlace := ["math.sqrt", "math.Float64bits", "math.Float64frombits"], unfollowed := true, recurses := true, leaving := true, apart := false, narrowed := true }
def FnExactBufferOfUptoSaid : Prop := fnExactBufferOfUptoRow.holds Try.pinned (OpenSpec.upto fnExactBufferOfSpec)

/-- 'laws.FnExactProgressOf', WHERE WHAT IT READS IS OF BULK AT MOST 1048576: true; the input reads as it did. -/
def fnExactProgressOfUptoRow : OpenClaim := { program := "ytlgojbbhjhifhab", sum := "26489b23c6c87e3f30fc62d7c88787c9c6b4cf0f17b4785446e6ddb4cedd6f98", func := "loop.example/g01389/laws.FnExactProgressOf", spec := "fnExactProgressOf", apart := false, narrowed := true }
def FnExactProgressOfUptoSaid : Prop := fnExactProgressOfUptoRow.holds Try.pinned (OpenSpec.upto fnExactProgressOfSpec)

/-- 'laws.FnExactMeanTime', WHERE WHAT IT READS IS OF BULK AT MOST 1048576: true; the input reads as it did. -/
def fnExactMeanTimeUptoRow : OpenClaim := { program := "ytlgojbbhjhifhab", sum := "26489b23c6c87e3f30fc62d7c88787c9c6b4cf0f17b4785446e6ddb4cedd6f98", func := "loop.example/g01389/laws.FnExactMeanTime", spec := "fnExactMeanTime", inPlace := ["math.Float64bits", "math.Float64frombits"], apart := false, narrowed := true }
def FnExactMeanTimeUptoSaid : Prop := fnExactMeanTimeUptoRow.holds Try.pinned (OpenSpec.upto fnExactMeanTimeSpec)

/-- 'laws.FnExactEndChance', WHERE WHAT IT READS IS OF BULK AT MOST 1048576: true; the input reads as it did. -/
def fnExactEndChanceUptoRow : OpenClaim := { program := "ytlgojbbhjhifhab", sum := "26489b23c6c87e3f30fc62d7c88787c9c6b4cf0f17b4785446e6ddb4cedd6f98", func := "loop.example/g01389/laws.FnExactEndChance", spec := "fnExactEndChance", inPlace := ["math.sqrt", "math.Float64frombits", "math.Float64bits"], unfollowed := true, recurses := true, leaving := true, apart := false, narrowed := true }
def FnExactEndChanceUptoSaid : Prop := fnExactEndChanceUptoRow.holds Try.pinned (OpenSpec.upto fnExactEndChanceSpec)

/-- 'laws.FnExactTimeDrawn', WHERE WHAT IT READS IS OF BULK AT MOST 1048576: true; the input reads as it did. -/
def fnExactTimeDrawnUptoRow : OpenClaim := { program := "ytlgojbbhjhifhab", sum := "26489b23c6c87e3f30fc62d7c88787c9c6b4cf0f17b4785446e6ddb4cedd6f98", func := "loop.example/g01389/laws.FnExactTimeDrawn", spec := "fnExactTimeDrawn", inPlace := ["math.sqrt", "math.Float64bits", "math.Float64frombits"], apart := false, narrowed := true }
def FnExactTimeDrawnUptoSaid : Prop := fnExactTimeDrawnUptoRow.holds Try.pinned (OpenSpec.upto fnExactTimeDrawnSpec)

/-- 'laws.FnExactEndsDrawn', WHERE WHAT IT READS IS OF BULK AT MOST 1048576: true; the input reads as it did. -/
def fnExactEndsDrawnUptoRow : OpenClaim := { program := "ytlgojbbhjhifhab", sum := "26489b23c6c87e3f30fc62d7c88787c9c6b4cf0f17b4785446e6ddb4cedd6f98", func := "loop.example/g01389/laws.FnExactEndsDrawn", spec := "fnExactEndsDrawn", inPlace := ["math.sqrt", "math.Float64bits", "math.Float64frombits"], unfollowed := true, recurses := true, leaving := true, apart := false, narrowed := true }
def FnExactEndsDrawnUptoSaid : Prop := fnExactEndsDrawnUptoRow.holds Try.pinned (OpenSpec.upto fnExactEndsDrawnSpec)

/-- 'laws.FnExactPlanBound', WHERE WHAT IT READS IS OF BULK AT MOST 1048576: true; the input reads as it did. -/
def fnExactPlanBoundUptoRow : OpenClaim := { program := "ytlgojbbhjhifhab", sum := "26489b23c6c87e3f30fc62d7c88787c9c6b4cf0f17b4785446e6ddb4cedd6f98", func := "loop.example/g01389/laws.FnExactPlanBound", spec := "fnExactPlanBound", unfollowed := true, recurses := true, leaving := true, apart := false, narrowed := true }
def FnExactPlanBoundUptoSaid : Prop := fnExactPlanBoundUptoRow.holds Try.pinned (OpenSpec.upto fnExactPlanBoundSpec)

/-- 'laws.FnExactCrewsShared', WHERE WHAT IT READS IS OF BULK AT MOST 1048576: true; the input reads as it did. -/
def fnExactCrewsSharedUptoRow : OpenClaim := { program := "ytlgojbbhjhifhab", sum := "26489b23c6c87e3f30fc62d7c88787c9c6b4cf0f17b4785446e6ddb4cedd6f98", func := "loop.example/g01389/laws.FnExactCrewsShared", spec := "fnExactCrewsShared", inPlace := ["(*sync.WaitGroup).Add", "internal/race.ReleaseMerge", "internal/race.Disable", "internal/race.Enable", "internal/synctest.IsInBubble", "internal/synctest.Associate[sync.WaitGroup]", "sync.fatal", "sync/atomic.OrUint64", "sync/atomic.AddUint64", "internal/race.Read", "sync/atomic.LoadUint64", "sync/atomic.StoreUint64", "internal/synctest.Disassociate[sync.WaitGroup]", "sync.runtime_Semrelease", "(*sync.WaitGroup).Done", "(*sync.WaitGroup).Wait", "internal/race.Acquire", "internal/synctest.IsAssociated[sync.WaitGroup]", "sync/atomic.CompareAndSwapUint64", "internal/race.Write", "sync.runtime_SemacquireWaitGroup"], unfollowed := true, recurses := true, leaving := true, apart := false, narrowed := true }
def FnExactCrewsSharedUptoSaid : Prop := fnExactCrewsSharedUptoRow.holds Try.pinned (OpenSpec.upto fnExactCrewsSharedSpec)

/-- 'laws.FnExactRulePlan', WHERE WHAT IT READS IS OF BULK AT MOST 1048576: true; the input reads as it did. -/
def fnExactRulePlanUptoRow : OpenClaim := { program := "ytlgojbbhjhifhab", sum := "26489b23c6c87e3f30fc62d7c88787c9c6b4cf0f17b4785446e6ddb4cedd6f98", func := "loop.example/g01389/laws.FnExactRulePlan", spec := "fnExactRulePlan", unfollowed := true, recurses := true, leaving := true, apart := false, narrowed := true }
def FnExactRulePlanUptoSaid : Prop := fnExactRulePlanUptoRow.holds Try.pinned (OpenSpec.upto fnExactRulePlanSpec)

/-- 'laws.FnExactLevelPlan', WHERE WHAT IT READS IS OF BULK AT MOST 1048576: true; the input reads as it did. -/
def fnExactLevelPlanUptoRow : OpenClaim := { program := "ytlgojbbhjhifhab", sum := "26489b23c6c87e3f30fc62d7c88787c9c6b4cf0f17b4785446e6ddb4cedd6f98", func := "loop.example/g01389/laws.FnExactLevelPlan", spec := "fnExactLevelPlan", unfollowed := true, recurses := true, leaving := true, apart := false, narrowed := true }
def FnExactLevelPlanUptoSaid : Prop := fnExactLevelPlanUptoRow.holds Try.pinned (OpenSpec.upto fnExactLevelPlanSpec)

/-- 'laws.FnExactHastePlan', WHERE WHAT IT READS IS OF BULK AT MOST 1048576: true; the input reads as it did. -/
def fnExactHastePlanUptoRow : OpenClaim := { program := "ytlgojbbhjhifhab", sum := "26489b23c6c87e3f30fc62d7c88787c9c6b4cf0f17b4785446e6ddb4cedd6f98", func := "loop.example/g01389/laws.FnExactHastePlan", spec := "fnExactHastePlan", unfollowed := true, recurses := true, leaving := true, apart := false, narrowed := true }
def FnExactHastePlanUptoSaid : Prop := fnExactHastePlanUptoRow.holds Try.pinned (OpenSpec.upto fnExactHastePlanSpec)

/-- 'laws.FnExactBestPlan', WHERE WHAT IT READS IS OF BULK AT MOST 1048576: true; the input reads as it did. -/
def fnExactBestPlanUptoRow : OpenClaim := { program := "ytlgojbbhjhifhab", sum := "26489b23c6c87e3f30fc62d7c88787c9c6b4cf0f17b4785446e6ddb4cedd6f98", func := "loop.example/g01389/laws.FnExactBestPlan", spec := "fnExactBestPlan", unfollowed := true, recurses := true, leaving := true, apart := false, narrowed := true }
def FnExactBestPlanUptoSaid : Prop := fnExactBestPlanUptoRow.holds Try.pinned (OpenSpec.upto fnExactBestPlanSpec)

end Rows
end Go.Proofs.Ytlgojbbhjhifhab
