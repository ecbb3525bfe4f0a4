/-
  No cell of these rows narrows 'for every input' (looked for: loops, veiled, ifaces, maps, wideKeys, modest, calm, conditions, laid).
  DERIVED. THE GIVEN ROWS OF THIS SEAT. 12 by the template 'for every input the law returns true; each argument reads behind the call as it read before'; 0 by the template 'total and deterministic' (their statements: YtfigojmdklaljaaTotals.lean).
  GIVEN WITH THE SEED: the statements are not yours to turn. If you find one false, say at which input.
  Laid BY PROGRAM, IN A SANDBOX (cutbox-rows.mjs): the forced cells as the released guide's own fill.sh prints them over the translation 54b5210ea635b41c… (all of the seat's roots in one cut). By AI agents, Wed Nov 11 2026. No macro, syntax, notation, axiom, sorry.
-/
import Derived.Test.YtfigojmdklaljaaChecked
import GoSem.Claim
import GoSem.ClaimJoined
import GoSem.ClaimMapViews
import Derived.JoinedTies
import Derived.KernelRfl
namespace Go.Proofs.Ytfigojmdklaljaa
/- THE CELL 'sum', in the pinned program and in every row, IS THE sha256 OF THE DUMP (.gsa) THAT YtfigojmdklaljaaProg.lean LOADS. Nothing in Lean hashes anything: it is a label: what it is worth is what the hold of that sum in a sandbox is worth. -/
noncomputable def Try.pinned : Pinned := { name := "ytfigojmdklaljaa", sum := "54b5210ea635b41c0dba18eaeec378fa8fc67f4536470b264cb8721fc4aa1c76", checked := Try.checked }
namespace Rows
def none {H : Type} : Left H := { results := [], args := [] }

/-- 'laws.FnExactIsLine': WHATEVER THE INPUT: true; the input reads as it did. -/
def fnExactIsLineSpec : ChangeSpec := { name := "fnExactIsLine", fn := fun _ => fun
  | [d1, d2] => { results := [.lit (.bool true)], args := [d1, d2] }
  | _ => none }
def fnExactIsLineRow : OpenClaim := { program := "ytfigojmdklaljaa", sum := "54b5210ea635b41c0dba18eaeec378fa8fc67f4536470b264cb8721fc4aa1c76", func := "loop.example/g01389/laws.FnExactIsLine", spec := "fnExactIsLine", apart := false }
def FnExactIsLineSaid : Prop := fnExactIsLineRow.holds Try.pinned (OpenSpec.ofChange fnExactIsLineSpec)

/-- ITS FALSE NEIGHBOUR: 'it returns false'. Refute it at one input. -/
def fnExactIsLineWrong : ChangeSpec := { name := "fnExactIsLine", fn := fun _ => fun
  | [d1, d2] => { results := [.lit (.bool false)], args := [d1, d2] }
  | _ => none }
def FnExactIsLineWrongFalsely : Prop := fnExactIsLineRow.holds Try.pinned (OpenSpec.ofChange fnExactIsLineWrong)

/-- 'laws.FnExactLineBound': WHATEVER THE INPUT: true; the input reads as it did. -/
def fnExactLineBoundSpec : ChangeSpec := { name := "fnExactLineBound", fn := fun _ => fun
  | [d1, d2] => { results := [.lit (.bool true)], args := [d1, d2] }
  | _ => none }
def fnExactLineBoundRow : OpenClaim := { program := "ytfigojmdklaljaa", sum := "54b5210ea635b41c0dba18eaeec378fa8fc67f4536470b264cb8721fc4aa1c76", func := "loop.example/g01389/laws.FnExactLineBound", spec := "fnExactLineBound", apart := false }
def FnExactLineBoundSaid : Prop := fnExactLineBoundRow.holds Try.pinned (OpenSpec.ofChange fnExactLineBoundSpec)

/-- ITS FALSE NEIGHBOUR: 'it returns false'. Refute it at one input. -/
def fnExactLineBoundWrong : ChangeSpec := { name := "fnExactLineBound", fn := fun _ => fun
  | [d1, d2] => { results := [.lit (.bool false)], args := [d1, d2] }
  | _ => none }
def FnExactLineBoundWrongFalsely : Prop := fnExactLineBoundRow.holds Try.pinned (OpenSpec.ofChange fnExactLineBoundWrong)

/-- 'laws.FnExactLoadsOfLine': WHATEVER THE INPUT: true; the input reads as it did. -/
def fnExactLoadsOfLineSpec : ChangeSpec := { name := "fnExactLoadsOfLine", fn := fun _ => fun
  | [d1, d2] => { results := [.lit (.bool true)], args := [d1, d2] }
  | _ => none }
def fnExactLoadsOfLineRow : OpenClaim := { program := "ytfigojmdklaljaa", sum := "54b5210ea635b41c0dba18eaeec378fa8fc67f4536470b264cb8721fc4aa1c76", func := "loop.example/g01389/laws.FnExactLoadsOfLine", spec := "fnExactLoadsOfLine", apart := false }
def FnExactLoadsOfLineSaid : Prop := fnExactLoadsOfLineRow.holds Try.pinned (OpenSpec.ofChange fnExactLoadsOfLineSpec)

/-- ITS FALSE NEIGHBOUR: 'it returns false'. Refute it at one input. -/
def fnExactLoadsOfLineWrong : ChangeSpec := { name := "fnExactLoadsOfLine", fn := fun _ => fun
  | [d1, d2] => { results := [.lit (.bool false)], args := [d1, d2] }
  | _ => none }
def FnExactLoadsOfLineWrongFalsely : Prop := fnExactLoadsOfLineRow.holds Try.pinned (OpenSpec.ofChange fnExactLoadsOfLineWrong)

/-- 'laws.FnExactMixedGap': WHATEVER THE INPUT: true; the input reads as it did. -/
def fnExactMixedGapSpec : ChangeSpec := { name := "fnExactMixedGap", fn := fun _ => fun
  | [d1, d2] => { results := [.lit (.bool true)], args := [d1, d2] }
  | _ => none }
def fnExactMixedGapRow : OpenClaim := { program := "ytfigojmdklaljaa", sum := "54b5210ea635b41c0dba18eaeec378fa8fc67f4536470b264cb8721fc4aa1c76", func := "loop.example/g01389/laws.FnExactMixedGap", spec := "fnExactMixedGap", apart := false }
def FnExactMixedGapSaid : Prop := fnExactMixedGapRow.holds Try.pinned (OpenSpec.ofChange fnExactMixedGapSpec)

/-- ITS FALSE NEIGHBOUR: 'it returns false'. Refute it at one input. -/
def fnExactMixedGapWrong : ChangeSpec := { name := "fnExactMixedGap", fn := fun _ => fun
  | [d1, d2] => { results := [.lit (.bool false)], args := [d1, d2] }
  | _ => none }
def FnExactMixedGapWrongFalsely : Prop := fnExactMixedGapRow.holds Try.pinned (OpenSpec.ofChange fnExactMixedGapWrong)

/-- 'laws.FnExactMixedOrder': WHATEVER THE INPUT: true; the input reads as it did. -/
def fnExactMixedOrderSpec : ChangeSpec := { name := "fnExactMixedOrder", fn := fun _ => fun
  | [d] => { results := [.lit (.bool true)], args := [d] }
  | _ => none }
def fnExactMixedOrderRow : OpenClaim := { program := "ytfigojmdklaljaa", sum := "54b5210ea635b41c0dba18eaeec378fa8fc67f4536470b264cb8721fc4aa1c76", func := "loop.example/g01389/laws.FnExactMixedOrder", spec := "fnExactMixedOrder", apart := false }
def FnExactMixedOrderSaid : Prop := fnExactMixedOrderRow.holds Try.pinned (OpenSpec.ofChange fnExactMixedOrderSpec)

/-- ITS FALSE NEIGHBOUR: 'it returns false'. Refute it at one input. -/
def fnExactMixedOrderWrong : ChangeSpec := { name := "fnExactMixedOrder", fn := fun _ => fun
  | [d] => { results := [.lit (.bool false)], args := [d] }
  | _ => none }
def FnExactMixedOrderWrongFalsely : Prop := fnExactMixedOrderRow.holds Try.pinned (OpenSpec.ofChange fnExactMixedOrderWrong)

/-- 'laws.FnExactLineStations': WHATEVER THE INPUT: true; the input reads as it did. -/
def fnExactLineStationsSpec : ChangeSpec := { name := "fnExactLineStations", fn := fun _ => fun
  | [d1, d2, d3] => { results := [.lit (.bool true)], args := [d1, d2, d3] }
  | _ => none }
def fnExactLineStationsRow : OpenClaim := { program := "ytfigojmdklaljaa", sum := "54b5210ea635b41c0dba18eaeec378fa8fc67f4536470b264cb8721fc4aa1c76", func := "loop.example/g01389/laws.FnExactLineStations", spec := "fnExactLineStations", apart := false }
def FnExactLineStationsSaid : Prop := fnExactLineStationsRow.holds Try.pinned (OpenSpec.ofChange fnExactLineStationsSpec)

/-- ITS FALSE NEIGHBOUR: 'it returns false'. Refute it at one input. -/
def fnExactLineStationsWrong : ChangeSpec := { name := "fnExactLineStations", fn := fun _ => fun
  | [d1, d2, d3] => { results := [.lit (.bool false)], args := [d1, d2, d3] }
  | _ => none }
def FnExactLineStationsWrongFalsely : Prop := fnExactLineStationsRow.holds Try.pinned (OpenSpec.ofChange fnExactLineStationsWrong)

/-- 'laws.FnExactFlowEnds': WHATEVER THE INPUT: true; the input reads as it did. -/
def fnExactFlowEndsSpec : ChangeSpec := { name := "fnExactFlowEnds", fn := fun _ => fun
  | [d1, d2, d3] => { results := [.lit (.bool true)], args := [d1, d2, d3] }
  | _ => none }
def fnExactFlowEndsRow : OpenClaim := { program := "ytfigojmdklaljaa", sum := "54b5210ea635b41c0dba18eaeec378fa8fc67f4536470b264cb8721fc4aa1c76", func := "loop.example/g01389/laws.FnExactFlowEnds", spec := "fnExactFlowEnds", apart := false }
def FnExactFlowEndsSaid : Prop := fnExactFlowEndsRow.holds Try.pinned (OpenSpec.ofChange fnExactFlowEndsSpec)

/-- ITS FALSE NEIGHBOUR: 'it returns false'. Refute it at one input. -/
def fnExactFlowEndsWrong : ChangeSpec := { name := "fnExactFlowEnds", fn := fun _ => fun
  | [d1, d2, d3] => { results := [.lit (.bool false)], args := [d1, d2, d3] }
  | _ => none }
def FnExactFlowEndsWrongFalsely : Prop := fnExactFlowEndsRow.holds Try.pinned (OpenSpec.ofChange fnExactFlowEndsWrong)

/-- 'laws.FnExactFlowLast': WHATEVER THE INPUT: true; the input reads as it did. -/
def fnExactFlowLastSpec : ChangeSpec := { name := "fnExactFlowLast", fn := fun _ => fun
  | [d1, d2, d3] => { results := [.lit (.bool true)], args := [d1, d2, d3] }
  | _ => none }
def fnExactFlowLastRow : OpenClaim := { program := "ytfigojmdklaljaa", sum := "54b5210ea635b41c0dba18eaeec378fa8fc67f4536470b264cb8721fc4aa1c76", func := "loop.example/g01389/laws.FnExactFlowLast", spec := "fnExactFlowLast", apart := false }
def FnExactFlowLastSaid : Prop := fnExactFlowLastRow.holds Try.pinned (OpenSpec.ofChange fnExactFlowLastSpec)

/-- ITS FALSE NEIGHBOUR: 'it returns false'. Refute it at one input. -/
def fnExactFlowLastWrong : ChangeSpec := { name := "fnExactFlowLast", fn := fun _ => fun
  | [d1, d2, d3] => { results := [.lit (.bool false)], args := [d1, d2, d3] }
  | _ => none }
def FnExactFlowLastWrongFalsely : Prop := fnExactFlowLastRow.holds Try.pinned (OpenSpec.ofChange fnExactFlowLastWrong)

/-- 'laws.FnExactFlowBound': WHATEVER THE INPUT: true; the input reads as it did. -/
def fnExactFlowBoundSpec : ChangeSpec := { name := "fnExactFlowBound", fn := fun _ => fun
  | [d1, d2] => { results := [.lit (.bool true)], args := [d1, d2] }
  | _ => none }
def fnExactFlowBoundRow : OpenClaim := { program := "ytfigojmdklaljaa", sum := "54b5210ea635b41c0dba18eaeec378fa8fc67f4536470b264cb8721fc4aa1c76", func := "loop.example/g01389/laws.FnExactFlowBound", spec := "fnExactFlowBound", apart := false }
def FnExactFlowBoundSaid : Prop := fnExactFlowBoundRow.holds Try.pinned (OpenSpec.ofChange fnExactFlowBoundSpec)

/-- ITS FALSE NEIGHBOUR: 'it returns false'. Refute it at one input. -/
def fnExactFlowBoundWrong : ChangeSpec := { name := "fnExactFlowBound", fn := fun _ => fun
  | [d1, d2] => { results := [.lit (.bool false)], args := [d1, d2] }
  | _ => none }
def FnExactFlowBoundWrongFalsely : Prop := fnExactFlowBoundRow.holds Try.pinned (OpenSpec.ofChange fnExactFlowBoundWrong)

/-- 'laws.FnExactNoWaitGaps': WHATEVER THE INPUT: true; the input reads as it did. -/
def fnExactNoWaitGapsSpec : ChangeSpec := { name := "fnExactNoWaitGaps", fn := fun _ => fun
  | [d1, d2] => { results := [.lit (.bool true)], args := [d1, d2] }
  | _ => none }
def fnExactNoWaitGapsRow : OpenClaim := { program := "ytfigojmdklaljaa", sum := "54b5210ea635b41c0dba18eaeec378fa8fc67f4536470b264cb8721fc4aa1c76", func := "loop.example/g01389/laws.FnExactNoWaitGaps", spec := "fnExactNoWaitGaps", apart := false }
def FnExactNoWaitGapsSaid : Prop := fnExactNoWaitGapsRow.holds Try.pinned (OpenSpec.ofChange fnExactNoWaitGapsSpec)

/-- ITS FALSE NEIGHBOUR: 'it returns false'. Refute it at one input. -/
def fnExactNoWaitGapsWrong : ChangeSpec := { name := "fnExactNoWaitGaps", fn := fun _ => fun
  | [d1, d2] => { results := [.lit (.bool false)], args := [d1, d2] }
  | _ => none }
def FnExactNoWaitGapsWrongFalsely : Prop := fnExactNoWaitGapsRow.holds Try.pinned (OpenSpec.ofChange fnExactNoWaitGapsWrong)

/-- 'laws.FnExactNoWaitLast': WHATEVER THE INPUT: true; the input reads as it did. -/
def fnExactNoWaitLastSpec : ChangeSpec := { name := "fnExactNoWaitLast", fn := fun _ => fun
  | [d1, d2, d3] => { results := [.lit (.bool true)], args := [d1, d2, d3] }
  | _ => none }
def fnExactNoWaitLastRow : OpenClaim := { program := "ytfigojmdklaljaa", sum := "54b5210ea635b41c0dba18eaeec378fa8fc67f4536470b264cb8721fc4aa1c76", func := "loop.example/g01389/laws.FnExactNoWaitLast", spec := "fnExactNoWaitLast", apart := false }
def FnExactNoWaitLastSaid : Prop := fnExactNoWaitLastRow.holds Try.pinned (OpenSpec.ofChange fnExactNoWaitLastSpec)

/-- ITS FALSE NEIGHBOUR: 'it returns false'. Refute it at one input. -/
def fnExactNoWaitLastWrong : ChangeSpec := { name := "fnExactNoWaitLast", fn := fun _ => fun
  | [d1, d2, d3] => { results := [.lit (.bool false)], args := [d1, d2, d3] }
  | _ => none }
def FnExactNoWaitLastWrongFalsely : Prop := fnExactNoWaitLastRow.holds Try.pinned (OpenSpec.ofChange fnExactNoWaitLastWrong)

/-- 'laws.FnExactBlockLast': WHATEVER THE INPUT: true; the input reads as it did. -/
def fnExactBlockLastSpec : ChangeSpec := { name := "fnExactBlockLast", fn := fun _ => fun
  | [d1, d2, d3] => { results := [.lit (.bool true)], args := [d1, d2, d3] }
  | _ => none }
def fnExactBlockLastRow : OpenClaim := { program := "ytfigojmdklaljaa", sum := "54b5210ea635b41c0dba18eaeec378fa8fc67f4536470b264cb8721fc4aa1c76", func := "loop.example/g01389/laws.FnExactBlockLast", spec := "fnExactBlockLast", apart := false }
def FnExactBlockLastSaid : Prop := fnExactBlockLastRow.holds Try.pinned (OpenSpec.ofChange fnExactBlockLastSpec)

/-- ITS FALSE NEIGHBOUR: 'it returns false'. Refute it at one input. -/
def fnExactBlockLastWrong : ChangeSpec := { name := "fnExactBlockLast", fn := fun _ => fun
  | [d1, d2, d3] => { results := [.lit (.bool false)], args := [d1, d2, d3] }
  | _ => none }
def FnExactBlockLastWrongFalsely : Prop := fnExactBlockLastRow.holds Try.pinned (OpenSpec.ofChange fnExactBlockLastWrong)

/- THE SECOND FORM. 'bulk': how many values and letters a reading holds, each counted each time it is reached (what is shared counts as often as it is met; a slice's spare places count too). A statement '..UptoSaid' is the law's where the arguments, and the package variables that the reading takes, are together of bulk at most 1048576: NARROWER than '..Said'. Prove '..Said' where nothing that the law and all that it calls make is longer than what came in: it says more and counts as full. Else prove '..UptoSaid'. A law counts once. -/
mutual
def uptoBulk {H : Type} : DataW H → Nat
  | .lit (.string bytes) => bytes.length + 1
  | .lit _ => 1
  | .nil => 1
  | .ptr d => uptoBulk d + 1
  | .slice elems spare => uptoBulkAll elems + uptoBulkAll spare + 1
  | .agg parts => uptoBulkAll parts + 1
  | .iface _ d => uptoBulk d + 1
  | .map entries => uptoBulkEntries entries + 1
  | .held _ => 1
def uptoBulkAll {H : Type} : List (DataW H) → Nat
  | [] => 0
  | d :: r => uptoBulk d + uptoBulkAll r
def uptoBulkEntries {H : Type} : List (Lit × DataW H) → Nat
  | [] => 0
  | x :: r => uptoBulkEntry x + uptoBulkEntries r
def uptoBulkEntry {H : Type} : Lit × DataW H → Nat
  | (.string bytes, d) => bytes.length + uptoBulk d + 1
  | (_, d) => uptoBulk d + 1
 end
def uptoSmall : (H : Type) → List (DataW H) → Bool := fun _ ds => decide (uptoBulkAll ds ≤ 1048576)
def OpenSpec.upto (s : _root_.Go.ChangeSpec) : _root_.Go.OpenSpec := { _root_.Go.OpenSpec.ofChange s with cond := some uptoSmall }

/-- 'laws.FnExactIsLine', WHERE WHAT IT READS IS OF BULK AT MOST 1048576: true; the input reads as it did. -/
def fnExactIsLineUptoRow : OpenClaim := { program := "ytfigojmdklaljaa", sum := "54b5210ea635b41c0dba18eaeec378fa8fc67f4536470b264cb8721fc4aa1c76", func := "loop.example/g01389/laws.FnExactIsLine", spec := "fnExactIsLine", apart := false, narrowed := true }
def FnExactIsLineUptoSaid : Prop := fnExactIsLineUptoRow.holds Try.pinned (OpenSpec.upto fnExactIsLineSpec)

/-- 'laws.FnExactLineBound', WHERE WHAT IT READS IS OF BULK AT MOST 1048576: true; the input reads as it did. -/
def fnExactLineBoundUptoRow : OpenClaim := { program := "ytfigojmdklaljaa", sum := "54b5210ea635b41c0dba18eaeec378fa8fc67f4536470b264cb8721fc4aa1c76", func := "loop.example/g01389/laws.FnExactLineBound", spec := "fnExactLineBound", apart := false, narrowed := true }
def FnExactLineBoundUptoSaid : Prop := fnExactLineBoundUptoRow.holds Try.pinned (OpenSpec.upto fnExactLineBoundSpec)

/-- 'laws.FnExactLoadsOfLine', WHERE WHAT IT READS IS OF BULK AT MOST 1048576: true; the input reads as it did. -/
def fnExactLoadsOfLineUptoRow : OpenClaim := { program := "ytfigojmdklaljaa", sum := "54b5210ea635b41c0dba18eaeec378fa8fc67f4536470b264cb8721fc4aa1c76", func := "loop.example/g01389/laws.FnExactLoadsOfLine", spec := "fnExactLoadsOfLine", apart := false, narrowed := true }
def FnExactLoadsOfLineUptoSaid : Prop := fnExactLoadsOfLineUptoRow.holds Try.pinned (OpenSpec.upto fnExactLoadsOfLineSpec)

/-- 'laws.FnExactMixedGap', WHERE WHAT IT READS IS OF BULK AT MOST 1048576: true; the input reads as it did. -/
def fnExactMixedGapUptoRow : OpenClaim := { program := "ytfigojmdklaljaa", sum := "54b5210ea635b41c0dba18eaeec378fa8fc67f4536470b264cb8721fc4aa1c76", func := "loop.example/g01389/laws.FnExactMixedGap", spec := "fnExactMixedGap", apart := false, narrowed := true }
def FnExactMixedGapUptoSaid : Prop := fnExactMixedGapUptoRow.holds Try.pinned (OpenSpec.upto fnExactMixedGapSpec)

/-- 'laws.FnExactMixedOrder', WHERE WHAT IT READS IS OF BULK AT MOST 1048576: true; the input reads as it did. -/
def fnExactMixedOrderUptoRow : OpenClaim := { program := "ytfigojmdklaljaa", sum := "54b5210ea635b41c0dba18eaeec378fa8fc67f4536470b264cb8721fc4aa1c76", func := "loop.example/g01389/laws.FnExactMixedOrder", spec := "fnExactMixedOrder", apart := false, narrowed := true }
def FnExactMixedOrderUptoSaid : Prop := fnExactMixedOrderUptoRow.holds Try.pinned (OpenSpec.upto fnExactMixedOrderSpec)

/-- 'laws.FnExactLineStations', WHERE WHAT IT READS IS OF BULK AT MOST 1048576: true; the input reads as it did. -/
def fnExactLineStationsUptoRow : OpenClaim := { program := "ytfigojmdklaljaa", sum := "54b5210ea635b41c0dba18eaeec378fa8fc67f4536470b264cb8721fc4aa1c76", func := "loop.example/g01389/laws.FnExactLineStations", spec := "fnExactLineStations", apart := false, narrowed := true }
def FnExactLineStationsUptoSaid : Prop := fnExactLineStationsUptoRow.holds Try.pinned (OpenSpec.upto fnExactLineStationsSpec)

/-- 'laws.FnExactFlowEnds', WHERE WHAT IT READS IS OF BULK AT MOST 1048576: true; the input reads as it did. -/
def fnExactFlowEndsUptoRow : OpenClaim := { program := "ytfigojmdklaljaa", sum := "54b5210ea635b41c0dba18eaeec378fa8fc67f4536470b264cb8721fc4aa1c76", func := "loop.example/g01389/laws.FnExactFlowEnds", spec := "fnExactFlowEnds", apart := false, narrowed := true }
def FnExactFlowEndsUptoSaid : Prop := fnExactFlowEndsUptoRow.holds Try.pinned (OpenSpec.upto fnExactFlowEndsSpec)

/-- 'laws.FnExactFlowLast', WHERE WHAT IT READS IS OF BULK AT MOST 1048576: true; the input reads as it did. -/
def fnExactFlowLastUptoRow : OpenClaim := { program := "ytfigojmdklaljaa", sum := "54b5210ea635b41c0dba18eaeec378fa8fc67f4536470b264cb8721fc4aa1c76", func := "loop.example/g01389/laws.FnExactFlowLast", spec := "fnExactFlowLast", apart := false, narrowed := true }
def FnExactFlowLastUptoSaid : Prop := fnExactFlowLastUptoRow.holds Try.pinned (OpenSpec.upto fnExactFlowLastSpec)

/-- 'laws.FnExactFlowBound', WHERE WHAT IT READS IS OF BULK AT MOST 1048576: true; the input reads as it did. -/
def fnExactFlowBoundUptoRow : OpenClaim := { program := "ytfigojmdklaljaa", sum := "54b5210ea635b41c0dba18eaeec378fa8fc67f4536470b264cb8721fc4aa1c76", func := "loop.example/g01389/laws.FnExactFlowBound", spec := "fnExactFlowBound", apart := false, narrowed := true }
def FnExactFlowBoundUptoSaid : Prop := fnExactFlowBoundUptoRow.holds Try.pinned (OpenSpec.upto fnExactFlowBoundSpec)

/-- 'laws.FnExactNoWaitGaps', WHERE WHAT IT READS IS OF BULK AT MOST 1048576: true; the input reads as it did. -/
def fnExactNoWaitGapsUptoRow : OpenClaim := { program := "ytfigojmdklaljaa", sum := "54b5210ea635b41c0dba18eaeec378fa8fc67f4536470b264cb8721fc4aa1c76", func := "loop.example/g01389/laws.FnExactNoWaitGaps", spec := "fnExactNoWaitGaps", apart := false, narrowed := true }
def FnExactNoWaitGapsUptoSaid : Prop := fnExactNoWaitGapsUptoRow.holds Try.pinned (OpenSpec.upto fnExactNoWaitGapsSpec)

/-- 'laws.FnExactNoWaitLast', WHERE WHAT IT READS IS OF BULK AT MOST 1048576: true; the input reads as it did. -/
def fnExactNoWaitLastUptoRow : OpenClaim := { program := "ytfigojmdklaljaa", sum := "54b5210ea635b41c0dba18eaeec378fa8fc67f4536470b264cb8721fc4aa1c76", func := "loop.example/g01389/laws.FnExactNoWaitLast", spec := "fnExactNoWaitLast", apart := false, narrowed := true }
def FnExactNoWaitLastUptoSaid : Prop := fnExactNoWaitLastUptoRow.holds Try.pinned (OpenSpec.upto fnExactNoWaitLastSpec)

/-- 'laws.FnExactBlockLast', WHERE WHAT IT READS IS OF BULK AT MOST 1048576: true; the input reads as it did. -/
def fnExactBlockLastUptoRow : OpenClaim := { program := "ytfigojmdklaljaa", sum := "54b5210ea635b41c0dba18eaeec378fa8fc67f4536470b264cb8721fc4aa1c76", func := "loop.example/g01389/laws.FnExactBlockLast", spec := "fnExactBlockLast", apart := false, narrowed := true }
def FnExactBlockLastUptoSaid : Prop := fnExactBlockLastUptoRow.holds Try.pinned (OpenSpec.upto fnExactBlockLastSpec)

end Rows
end Go.Proofs.Ytfigojmdklaljaa
