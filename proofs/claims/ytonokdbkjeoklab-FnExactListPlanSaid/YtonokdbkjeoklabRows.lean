/-
  No cell of these rows narrows 'for every input' (looked for: loops, veiled, ifaces, maps, wideKeys, modest, calm, conditions, laid).
  DERIVED. THE GIVEN ROWS OF THIS SEAT. 12 by the template 'for every input the law returns true; each argument reads behind the call as it read before'; 0 by the template 'total and deterministic' (their statements: YtonokdbkjeoklabTotals.lean).
  GIVEN WITH THE SEED: the statements are not yours to turn. If you find one false, say at which input.
  Laid BY PROGRAM, IN A SANDBOX (cutbox-rows.mjs): the forced cells as the released guide's own fill.sh prints them over the translation 268dad45ad7471ff… (all of the seat's roots in one cut). By AI agents, Wed Nov 11 2026. No macro, syntax, notation, axiom, sorry.
-/
import Derived.Test.YtonokdbkjeoklabChecked
import GoSem.Claim
import GoSem.ClaimJoined
import GoSem.ClaimMapViews
import Derived.JoinedTies
import Derived.KernelRfl
namespace Go.Proofs.Ytonokdbkjeoklab
/- THE CELL 'sum', in the pinned program and in every row, IS THE sha256 OF THE DUMP (.gsa) THAT YtonokdbkjeoklabProg.lean LOADS. Nothing in Lean hashes anything: it is a label: what it is worth is what the hold of that sum in a sandbox is worth. -/
noncomputable def Try.pinned : Pinned := { name := "ytonokdbkjeoklab", sum := "268dad45ad7471ff45e736ded675b9d0dae26ffba067456b67ede0dc18ed3b86", checked := Try.checked }
namespace Rows
def none {H : Type} : Left H := { results := [], args := [] }

/-- 'laws.FnExactListPlan': WHATEVER THE INPUT: true; the input reads as it did. -/
def fnExactListPlanSpec : ChangeSpec := { name := "fnExactListPlan", fn := fun _ => fun
  | [d1, d2, d3] => { results := [.lit (.bool true)], args := [d1, d2, d3] }
  | _ => none }
def fnExactListPlanRow : OpenClaim := { program := "ytonokdbkjeoklab", sum := "268dad45ad7471ff45e736ded675b9d0dae26ffba067456b67ede0dc18ed3b86", func := "loop.example/g01389/laws.FnExactListPlan", spec := "fnExactListPlan", apart := false }
def FnExactListPlanSaid : Prop := fnExactListPlanRow.holds Try.pinned (OpenSpec.ofChange fnExactListPlanSpec)

/-- ITS FALSE NEIGHBOUR: 'it returns false'. Refute it at one input. -/
def fnExactListPlanWrong : ChangeSpec := { name := "fnExactListPlan", fn := fun _ => fun
  | [d1, d2, d3] => { results := [.lit (.bool false)], args := [d1, d2, d3] }
  | _ => none }
def FnExactListPlanWrongFalsely : Prop := fnExactListPlanRow.holds Try.pinned (OpenSpec.ofChange fnExactListPlanWrong)

/-- 'laws.FnExactLongestFirst': WHATEVER THE INPUT: true; the input reads as it did. -/
def fnExactLongestFirstSpec : ChangeSpec := { name := "fnExactLongestFirst", fn := fun _ => fun
  | [d1, d2] => { results := [.lit (.bool true)], args := [d1, d2] }
  | _ => none }
def fnExactLongestFirstRow : OpenClaim := { program := "ytonokdbkjeoklab", sum := "268dad45ad7471ff45e736ded675b9d0dae26ffba067456b67ede0dc18ed3b86", func := "loop.example/g01389/laws.FnExactLongestFirst", spec := "fnExactLongestFirst", unfollowed := true, recurses := true, leaving := true, apart := false }
def FnExactLongestFirstSaid : Prop := fnExactLongestFirstRow.holds Try.pinned (OpenSpec.ofChange fnExactLongestFirstSpec)

/-- ITS FALSE NEIGHBOUR: 'it returns false'. Refute it at one input. -/
def fnExactLongestFirstWrong : ChangeSpec := { name := "fnExactLongestFirst", fn := fun _ => fun
  | [d1, d2] => { results := [.lit (.bool false)], args := [d1, d2] }
  | _ => none }
def FnExactLongestFirstWrongFalsely : Prop := fnExactLongestFirstRow.holds Try.pinned (OpenSpec.ofChange fnExactLongestFirstWrong)

/-- 'laws.FnExactRatioOf': WHATEVER THE INPUT: true; the input reads as it did. -/
def fnExactRatioOfSpec : ChangeSpec := { name := "fnExactRatioOf", fn := fun _ => fun
  | [d1, d2] => { results := [.lit (.bool true)], args := [d1, d2] }
  | _ => none }
def fnExactRatioOfRow : OpenClaim := { program := "ytonokdbkjeoklab", sum := "268dad45ad7471ff45e736ded675b9d0dae26ffba067456b67ede0dc18ed3b86", func := "loop.example/g01389/laws.FnExactRatioOf", spec := "fnExactRatioOf", unfollowed := true, recurses := true, leaving := true, apart := false }
def FnExactRatioOfSaid : Prop := fnExactRatioOfRow.holds Try.pinned (OpenSpec.ofChange fnExactRatioOfSpec)

/-- ITS FALSE NEIGHBOUR: 'it returns false'. Refute it at one input. -/
def fnExactRatioOfWrong : ChangeSpec := { name := "fnExactRatioOf", fn := fun _ => fun
  | [d1, d2] => { results := [.lit (.bool false)], args := [d1, d2] }
  | _ => none }
def FnExactRatioOfWrongFalsely : Prop := fnExactRatioOfRow.holds Try.pinned (OpenSpec.ofChange fnExactRatioOfWrong)

/-- 'laws.FnExactUnlikeList': WHATEVER THE INPUT: true; the input reads as it did. -/
def fnExactUnlikeListSpec : ChangeSpec := { name := "fnExactUnlikeList", fn := fun _ => fun
  | [d1, d2] => { results := [.lit (.bool true)], args := [d1, d2] }
  | _ => none }
def fnExactUnlikeListRow : OpenClaim := { program := "ytonokdbkjeoklab", sum := "268dad45ad7471ff45e736ded675b9d0dae26ffba067456b67ede0dc18ed3b86", func := "loop.example/g01389/laws.FnExactUnlikeList", spec := "fnExactUnlikeList", unfollowed := true, recurses := true, leaving := true, apart := false }
def FnExactUnlikeListSaid : Prop := fnExactUnlikeListRow.holds Try.pinned (OpenSpec.ofChange fnExactUnlikeListSpec)

/-- ITS FALSE NEIGHBOUR: 'it returns false'. Refute it at one input. -/
def fnExactUnlikeListWrong : ChangeSpec := { name := "fnExactUnlikeList", fn := fun _ => fun
  | [d1, d2] => { results := [.lit (.bool false)], args := [d1, d2] }
  | _ => none }
def FnExactUnlikeListWrongFalsely : Prop := fnExactUnlikeListRow.holds Try.pinned (OpenSpec.ofChange fnExactUnlikeListWrong)

/-- 'laws.FnExactUnlikeLeast': WHATEVER THE INPUT: true; the input reads as it did. -/
def fnExactUnlikeLeastSpec : ChangeSpec := { name := "fnExactUnlikeLeast", fn := fun _ => fun
  | [d1, d2] => { results := [.lit (.bool true)], args := [d1, d2] }
  | _ => none }
def fnExactUnlikeLeastRow : OpenClaim := { program := "ytonokdbkjeoklab", sum := "268dad45ad7471ff45e736ded675b9d0dae26ffba067456b67ede0dc18ed3b86", func := "loop.example/g01389/laws.FnExactUnlikeLeast", spec := "fnExactUnlikeLeast", unfollowed := true, recurses := true, leaving := true, apart := false }
def FnExactUnlikeLeastSaid : Prop := fnExactUnlikeLeastRow.holds Try.pinned (OpenSpec.ofChange fnExactUnlikeLeastSpec)

/-- ITS FALSE NEIGHBOUR: 'it returns false'. Refute it at one input. -/
def fnExactUnlikeLeastWrong : ChangeSpec := { name := "fnExactUnlikeLeast", fn := fun _ => fun
  | [d1, d2] => { results := [.lit (.bool false)], args := [d1, d2] }
  | _ => none }
def FnExactUnlikeLeastWrongFalsely : Prop := fnExactUnlikeLeastRow.holds Try.pinned (OpenSpec.ofChange fnExactUnlikeLeastWrong)

/-- 'laws.FnExactLeastLast': WHATEVER THE INPUT: true; the input reads as it did. -/
def fnExactLeastLastSpec : ChangeSpec := { name := "fnExactLeastLast", fn := fun _ => fun
  | [d1, d2] => { results := [.lit (.bool true)], args := [d1, d2] }
  | _ => none }
def fnExactLeastLastRow : OpenClaim := { program := "ytonokdbkjeoklab", sum := "268dad45ad7471ff45e736ded675b9d0dae26ffba067456b67ede0dc18ed3b86", func := "loop.example/g01389/laws.FnExactLeastLast", spec := "fnExactLeastLast", unfollowed := true, recurses := true, leaving := true, apart := false }
def FnExactLeastLastSaid : Prop := fnExactLeastLastRow.holds Try.pinned (OpenSpec.ofChange fnExactLeastLastSpec)

/-- ITS FALSE NEIGHBOUR: 'it returns false'. Refute it at one input. -/
def fnExactLeastLastWrong : ChangeSpec := { name := "fnExactLeastLast", fn := fun _ => fun
  | [d1, d2] => { results := [.lit (.bool false)], args := [d1, d2] }
  | _ => none }
def FnExactLeastLastWrongFalsely : Prop := fnExactLeastLastRow.holds Try.pinned (OpenSpec.ofChange fnExactLeastLastWrong)

/-- 'laws.FnExactLastsShared': WHATEVER THE INPUT: true; the input reads as it did. -/
def fnExactLastsSharedSpec : ChangeSpec := { name := "fnExactLastsShared", fn := fun _ => fun
  | [d1, d2, d3] => { results := [.lit (.bool true)], args := [d1, d2, d3] }
  | _ => none }
def fnExactLastsSharedRow : OpenClaim := { program := "ytonokdbkjeoklab", sum := "268dad45ad7471ff45e736ded675b9d0dae26ffba067456b67ede0dc18ed3b86", func := "loop.example/g01389/laws.FnExactLastsShared", spec := "fnExactLastsShared", inPlace := ["(*sync.WaitGroup).Add", "internal/race.ReleaseMerge", "internal/race.Disable", "internal/race.Enable", "internal/synctest.IsInBubble", "internal/synctest.Associate[sync.WaitGroup]", "sync.fatal", "sync/atomic.OrUint64", "sync/atomic.AddUint64", "internal/race.Read", "sync/atomic.LoadUint64", "sync/atomic.StoreUint64", "internal/synctest.Disassociate[sync.WaitGroup]", "sync.runtime_Semrelease", "(*sync.WaitGroup).Done", "(*sync.WaitGroup).Wait", "internal/race.Acquire", "internal/synctest.IsAssociated[sync.WaitGroup]", "sync/atomic.CompareAndSwapUint64", "internal/race.Write", "sync.runtime_SemacquireWaitGroup"], unfollowed := true, recurses := true, leaving := true, apart := false }
def FnExactLastsSharedSaid : Prop := fnExactLastsSharedRow.holds Try.pinned (OpenSpec.ofChange fnExactLastsSharedSpec)

/-- ITS FALSE NEIGHBOUR: 'it returns false'. Refute it at one input. -/
def fnExactLastsSharedWrong : ChangeSpec := { name := "fnExactLastsShared", fn := fun _ => fun
  | [d1, d2, d3] => { results := [.lit (.bool false)], args := [d1, d2, d3] }
  | _ => none }
def FnExactLastsSharedWrongFalsely : Prop := fnExactLastsSharedRow.holds Try.pinned (OpenSpec.ofChange fnExactLastsSharedWrong)

/-- 'laws.FnExactPieceEnds': WHATEVER THE INPUT: true; the input reads as it did. -/
def fnExactPieceEndsSpec : ChangeSpec := { name := "fnExactPieceEnds", fn := fun _ => fun
  | [d1, d2] => { results := [.lit (.bool true)], args := [d1, d2] }
  | _ => none }
def fnExactPieceEndsRow : OpenClaim := { program := "ytonokdbkjeoklab", sum := "268dad45ad7471ff45e736ded675b9d0dae26ffba067456b67ede0dc18ed3b86", func := "loop.example/g01389/laws.FnExactPieceEnds", spec := "fnExactPieceEnds", unfollowed := true, recurses := true, leaving := true, apart := false }
def FnExactPieceEndsSaid : Prop := fnExactPieceEndsRow.holds Try.pinned (OpenSpec.ofChange fnExactPieceEndsSpec)

/-- ITS FALSE NEIGHBOUR: 'it returns false'. Refute it at one input. -/
def fnExactPieceEndsWrong : ChangeSpec := { name := "fnExactPieceEnds", fn := fun _ => fun
  | [d1, d2] => { results := [.lit (.bool false)], args := [d1, d2] }
  | _ => none }
def FnExactPieceEndsWrongFalsely : Prop := fnExactPieceEndsRow.holds Try.pinned (OpenSpec.ofChange fnExactPieceEndsWrong)

/-- 'laws.FnExactFewestLate': WHATEVER THE INPUT: true; the input reads as it did. -/
def fnExactFewestLateSpec : ChangeSpec := { name := "fnExactFewestLate", fn := fun _ => fun
  | [d] => { results := [.lit (.bool true)], args := [d] }
  | _ => none }
def fnExactFewestLateRow : OpenClaim := { program := "ytonokdbkjeoklab", sum := "268dad45ad7471ff45e736ded675b9d0dae26ffba067456b67ede0dc18ed3b86", func := "loop.example/g01389/laws.FnExactFewestLate", spec := "fnExactFewestLate", unfollowed := true, recurses := true, leaving := true, apart := false }
def FnExactFewestLateSaid : Prop := fnExactFewestLateRow.holds Try.pinned (OpenSpec.ofChange fnExactFewestLateSpec)

/-- ITS FALSE NEIGHBOUR: 'it returns false'. Refute it at one input. -/
def fnExactFewestLateWrong : ChangeSpec := { name := "fnExactFewestLate", fn := fun _ => fun
  | [d] => { results := [.lit (.bool false)], args := [d] }
  | _ => none }
def FnExactFewestLateWrongFalsely : Prop := fnExactFewestLateRow.holds Try.pinned (OpenSpec.ofChange fnExactFewestLateWrong)

/-- 'laws.FnExactBatchPlan': WHATEVER THE INPUT: true; the input reads as it did. -/
def fnExactBatchPlanSpec : ChangeSpec := { name := "fnExactBatchPlan", fn := fun _ => fun
  | [d1, d2, d3] => { results := [.lit (.bool true)], args := [d1, d2, d3] }
  | _ => none }
def fnExactBatchPlanRow : OpenClaim := { program := "ytonokdbkjeoklab", sum := "268dad45ad7471ff45e736ded675b9d0dae26ffba067456b67ede0dc18ed3b86", func := "loop.example/g01389/laws.FnExactBatchPlan", spec := "fnExactBatchPlan", unfollowed := true, recurses := true, leaving := true, apart := false }
def FnExactBatchPlanSaid : Prop := fnExactBatchPlanRow.holds Try.pinned (OpenSpec.ofChange fnExactBatchPlanSpec)

/-- ITS FALSE NEIGHBOUR: 'it returns false'. Refute it at one input. -/
def fnExactBatchPlanWrong : ChangeSpec := { name := "fnExactBatchPlan", fn := fun _ => fun
  | [d1, d2, d3] => { results := [.lit (.bool false)], args := [d1, d2, d3] }
  | _ => none }
def FnExactBatchPlanWrongFalsely : Prop := fnExactBatchPlanRow.holds Try.pinned (OpenSpec.ofChange fnExactBatchPlanWrong)

/-- 'laws.FnExactBestOrder': WHATEVER THE INPUT: true; the input reads as it did. -/
def fnExactBestOrderSpec : ChangeSpec := { name := "fnExactBestOrder", fn := fun _ => fun
  | [d1, d2] => { results := [.lit (.bool true)], args := [d1, d2] }
  | _ => none }
def fnExactBestOrderRow : OpenClaim := { program := "ytonokdbkjeoklab", sum := "268dad45ad7471ff45e736ded675b9d0dae26ffba067456b67ede0dc18ed3b86", func := "loop.example/g01389/laws.FnExactBestOrder", spec := "fnExactBestOrder", unfollowed := true, recurses := true, leaving := true, apart := false }
def FnExactBestOrderSaid : Prop := fnExactBestOrderRow.holds Try.pinned (OpenSpec.ofChange fnExactBestOrderSpec)

/-- ITS FALSE NEIGHBOUR: 'it returns false'. Refute it at one input. -/
def fnExactBestOrderWrong : ChangeSpec := { name := "fnExactBestOrder", fn := fun _ => fun
  | [d1, d2] => { results := [.lit (.bool false)], args := [d1, d2] }
  | _ => none }
def FnExactBestOrderWrongFalsely : Prop := fnExactBestOrderRow.holds Try.pinned (OpenSpec.ofChange fnExactBestOrderWrong)

/-- 'laws.FnExactBestReleased': WHATEVER THE INPUT: true; the input reads as it did. -/
def fnExactBestReleasedSpec : ChangeSpec := { name := "fnExactBestReleased", fn := fun _ => fun
  | [d1, d2] => { results := [.lit (.bool true)], args := [d1, d2] }
  | _ => none }
def fnExactBestReleasedRow : OpenClaim := { program := "ytonokdbkjeoklab", sum := "268dad45ad7471ff45e736ded675b9d0dae26ffba067456b67ede0dc18ed3b86", func := "loop.example/g01389/laws.FnExactBestReleased", spec := "fnExactBestReleased", unfollowed := true, recurses := true, leaving := true, apart := false }
def FnExactBestReleasedSaid : Prop := fnExactBestReleasedRow.holds Try.pinned (OpenSpec.ofChange fnExactBestReleasedSpec)

/-- ITS FALSE NEIGHBOUR: 'it returns false'. Refute it at one input. -/
def fnExactBestReleasedWrong : ChangeSpec := { name := "fnExactBestReleased", fn := fun _ => fun
  | [d1, d2] => { results := [.lit (.bool false)], args := [d1, d2] }
  | _ => none }
def FnExactBestReleasedWrongFalsely : Prop := fnExactBestReleasedRow.holds Try.pinned (OpenSpec.ofChange fnExactBestReleasedWrong)

/- THE SECOND FORM. 'bulk': how many values and letters a reading holds, each counted each time it is reached (what is shared counts as often as it is met; a slice's spare places count too). A statement '..UptoSaid' is the law's where the arguments, and the package variables that the reading takes, are together of bulk at most 1048576: NARROWER than '..Said'. Prove '..Said' where nothing that the law and all that it calls make is longer than what came in: it says more and counts as full. Else prove '..UptoSaid'. A law counts once. -/
mutual
def uptoBulk {H : Type} : DataW H → Nat
  | .lit (.string bytes) => bytes.length + 1
  | .lit _ => 1
  | .nil => 1
  | .ptr d => uptoBulk d + 1
  | .slice elems spare => uptoBulkAll elems + uptoBulkAll spare + 1
  | .agg parts => uptoBulkAll parts + 1
  | .iface _ d => uptoBulk d + 1
  | .map entries => uptoBulkEntries entries + 1
  | .held _ => 1
def uptoBulkAll {H : Type} : List (DataW H) → Nat
  | [] => 0
  | d :: r => uptoBulk d + uptoBulkAll r
def uptoBulkEntries {H : Type} : List (Lit × DataW H) → Nat
  | [] => 0
  | x :: r => uptoBulkEntry x + uptoBulkEntries r
def uptoBulkEntry {H : Type} : Lit × DataW H → Nat
  | (.string bytes, d) => bytes.length + uptoBulk d + 1
  | (_, d) => uptoBulk d + 1
 end
def uptoSmall : (H : Type) → List (DataW H) → Bool := fun _ ds => decide (uptoBulkAll ds ≤ 1048576)
def OpenSpec.upto (s : _root_.Go.ChangeSpec) : _root_.Go.OpenSpec := { _root_.Go.OpenSpec.ofChange s with cond := some uptoSmall }

/-- 'laws.FnExactListPlan', WHERE WHAT IT READS IS OF BULK AT MOST 1048576: true; the input reads as it did. -/
def fnExactListPlanUptoRow : OpenClaim := { program := "ytonokdbkjeoklab", sum := "268dad45ad7471ff45e736ded675b9d0dae26ffba067456b67ede0dc18ed3b86", func := "loop.example/g01389/laws.FnExactListPlan", spec := "fnExactListPlan", apart := false, narrowed := true }
def FnExactListPlanUptoSaid : Prop := fnExactListPlanUptoRow.holds Try.pinned (OpenSpec.upto fnExactListPlanSpec)

/-- 'laws.FnExactLongestFirst', WHERE WHAT IT READS IS OF BULK AT MOST 1048576: true; the input reads as it did. -/
def fnExactLongestFirstUptoRow : OpenClaim := { program := "ytonokdbkjeoklab", sum := "268dad45ad7471ff45e736ded675b9d0dae26ffba067456b67ede0dc18ed3b86", func := "loop.example/g01389/laws.FnExactLongestFirst", spec := "fnExactLongestFirst", unfollowed := true, recurses := true, leaving := true, apart := false, narrowed := true }
def FnExactLongestFirstUptoSaid : Prop := fnExactLongestFirstUptoRow.holds Try.pinned (OpenSpec.upto fnExactLongestFirstSpec)

/-- 'laws.FnExactRatioOf', WHERE WHAT IT READS IS OF BULK AT MOST 1048576: true; the input reads as it did. -/
def fnExactRatioOfUptoRow : OpenClaim := { program := "ytonokdbkjeoklab", sum := "268dad45ad7471ff45e736ded675b9d0dae26ffba067456b67ede0dc18ed3b86", func := "loop.example/g01389/laws.FnExactRatioOf", spec := "fnExactRatioOf", unfollowed := true, recurses := true, leaving := true, apart := false, narrowed := true }
def FnExactRatioOfUptoSaid : Prop := fnExactRatioOfUptoRow.holds Try.pinned (OpenSpec.upto fnExactRatioOfSpec)

/-- 'laws.FnExactUnlikeList', WHERE WHAT IT READS IS OF BULK AT MOST 1048576: true; the input reads as it did. -/
def fnExactUnlikeListUptoRow : OpenClaim := { program := "ytonokdbkjeoklab", sum := "268dad45ad7471ff45e736ded675b9d0dae26ffba067456b67ede0dc18ed3b86", func := "loop.example/g01389/laws.FnExactUnlikeList", spec := "fnExactUnlikeList", unfollowed := true, recurses := true, leaving := true, apart := false, narrowed := true }
def FnExactUnlikeListUptoSaid : Prop := fnExactUnlikeListUptoRow.holds Try.pinned (OpenSpec.upto fnExactUnlikeListSpec)

/-- 'laws.FnExactUnlikeLeast', WHERE WHAT IT READS IS OF BULK AT MOST 1048576: true; the input reads as it did. -/
def fnExactUnlikeLeastUptoRow : OpenClaim := { program := "ytonokdbkjeoklab", sum := "268dad45ad7471ff45e736ded675b9d0dae26ffba067456b67ede0dc18ed3b86", func := "loop.example/g01389/laws.FnExactUnlikeLeast", spec := "fnExactUnlikeLeast", unfollowed := true, recurses := true, leaving := true, apart := false, narrowed := true }
def FnExactUnlikeLeastUptoSaid : Prop := fnExactUnlikeLeastUptoRow.holds Try.pinned (OpenSpec.upto fnExactUnlikeLeastSpec)

/-- 'laws.FnExactLeastLast', WHERE WHAT IT READS IS OF BULK AT MOST 1048576: true; the input reads as it did. -/
def fnExactLeastLastUptoRow : OpenClaim := { program := "ytonokdbkjeoklab", sum := "268dad45ad7471ff45e736ded675b9d0dae26ffba067456b67ede0dc18ed3b86", func := "loop.example/g01389/laws.FnExactLeastLast", spec := "fnExactLeastLast", unfollowed := true, recurses := true, leaving := true, apart := false, narrowed := true }
def FnExactLeastLastUptoSaid : Prop := fnExactLeastLastUptoRow.holds Try.pinned (OpenSpec.upto fnExactLeastLastSpec)

/-- 'laws.FnExactLastsShared', WHERE WHAT IT READS IS OF BULK AT MOST 1048576: true; the input reads as it did. -/
def fnExactLastsSharedUptoRow : OpenClaim := { program := "ytonokdbkjeoklab", sum := "268dad45ad7471ff45e736ded675b9d0dae26ffba067456b67ede0dc18ed3b86", func := "loop.example/g01389/laws.FnExactLastsShared", spec := "fnExactLastsShared", inPlace := ["(*sync.WaitGroup).Add", "internal/race.ReleaseMerge", "internal/race.Disable", "internal/race.Enable", "internal/synctest.IsInBubble", "internal/synctest.Associate[sync.WaitGroup]", "sync.fatal", "sync/atomic.OrUint64", "sync/atomic.AddUint64", "internal/race.Read", "sync/atomic.LoadUint64", "sync/atomic.StoreUint64", "internal/synctest.Disassociate[sync.WaitGroup]", "sync.runtime_Semrelease", "(*sync.WaitGroup).Done", "(*sync.WaitGroup).Wait", "internal/race.Acquire", "internal/synctest.IsAssociated[sync.WaitGroup]", "sync/atomic.CompareAndSwapUint64", "internal/race.Write", "sync.runtime_SemacquireWaitGroup"], unfollowed := true, recurses := true, leaving := true, apart := false, narrowed := true }
def FnExactLastsSharedUptoSaid : Prop := fnExactLastsSharedUptoRow.holds Try.pinned (OpenSpec.upto fnExactLastsSharedSpec)

/-- 'laws.FnExactPieceEnds', WHERE WHAT IT READS IS OF BULK AT MOST 1048576: true; the input reads as it did. -/
def fnExactPieceEndsUptoRow : OpenClaim := { program := "ytonokdbkjeoklab", sum := "268dad45ad7471ff45e736ded675b9d0dae26ffba067456b67ede0dc18ed3b86", func := "loop.example/g01389/laws.FnExactPieceEnds", spec := "fnExactPieceEnds", unfollowed := true, recurses := true, leaving := true, apart := false, narrowed := true }
def FnExactPieceEndsUptoSaid : Prop := fnExactPieceEndsUptoRow.holds Try.pinned (OpenSpec.upto fnExactPieceEndsSpec)

/-- 'laws.FnExactFewestLate', WHERE WHAT IT READS IS OF BULK AT MOST 1048576: true; the input reads as it did. -/
def fnExactFewestLateUptoRow : OpenClaim := { program := "ytonokdbkjeoklab", sum := "268dad45ad7471ff45e736ded675b9d0dae26ffba067456b67ede0dc18ed3b86", func := "loop.example/g01389/laws.FnExactFewestLate", spec := "fnExactFewestLate", unfollowed := true, recurses := true, leaving := true, apart := false, narrowed := true }
def FnExactFewestLateUptoSaid : Prop := fnExactFewestLateUptoRow.holds Try.pinned (OpenSpec.upto fnExactFewestLateSpec)

/-- 'laws.FnExactBatchPlan', WHERE WHAT IT READS IS OF BULK AT MOST 1048576: true; the input reads as it did. -/
def fnExactBatchPlanUptoRow : OpenClaim := { program := "ytonokdbkjeoklab", sum := "268dad45ad7471ff45e736ded675b9d0dae26ffba067456b67ede0dc18ed3b86", func := "loop.example/g01389/laws.FnExactBatchPlan", spec := "fnExactBatchPlan", unfollowed := true, recurses := true, leaving := true, apart := false, narrowed := true }
def FnExactBatchPlanUptoSaid : Prop := fnExactBatchPlanUptoRow.holds Try.pinned (OpenSpec.upto fnExactBatchPlanSpec)

/-- 'laws.FnExactBestOrder', WHERE WHAT IT READS IS OF BULK AT MOST 1048576: true; the input reads as it did. -/
def fnExactBestOrderUptoRow : OpenClaim := { program := "ytonokdbkjeoklab", sum := "268dad45ad7471ff45e736ded675b9d0dae26ffba067456b67ede0dc18ed3b86", func := "loop.example/g01389/laws.FnExactBestOrder", spec := "fnExactBestOrder", unfollowed := true, recurses := true, leaving := true, apart := false, narrowed := true }
def FnExactBestOrderUptoSaid : Prop := fnExactBestOrderUptoRow.holds Try.pinned (OpenSpec.upto fnExactBestOrderSpec)

/-- 'laws.FnExactBestReleased', WHERE WHAT IT READS IS OF BULK AT MOST 1048576: true; the input reads as it did. -/
def fnExactBestReleasedUptoRow : OpenClaim := { program := "ytonokdbkjeoklab", sum := "268dad45ad7471ff45e736ded675b9d0dae26ffba067456b67ede0dc18ed3b86", func := "loop.example/g01389/laws.FnExactBestReleased", spec := "fnExactBestReleased", unfollowed := true, recurses := true, leaving := true, apart := false, narrowed := true }
def FnExactBestReleasedUptoSaid : Prop := fnExactBestReleasedUptoRow.holds Try.pinned (OpenSpec.upto fnExactBestReleasedSpec)

end Rows
end Go.Proofs.Ytonokdbkjeoklab
