/-
  No cell of these rows narrows 'for every input' (looked for: loops, veiled, ifaces, maps, wideKeys, modest, calm, conditions, laid).
  DERIVED. THE GIVEN ROWS OF THIS SEAT. 11 by the template 'for every input the law returns true; each argument reads behind the call as it read before'; 0 by the template 'total and deterministic' (their statements: YthliapjnfcahlabTotals.lean).
  GIVEN WITH THE SEED: the statements are not yours to turn. If you find one false, say at which input.
  Laid BY PROGRAM, IN A SANDBOX (cutbox-rows.mjs): the forced cells as the released guide's own fill.sh prints them over the translation 3d03827e0fb42cb8… (all of the seat's roots in one cut). By AI agents, Wed Nov 11 2026. No macro, syntax, notation, axiom, sorry.
-/
import Derived.Test.YthliapjnfcahlabChecked
import GoSem.Claim
import GoSem.ClaimJoined
import GoSem.ClaimMapViews
import Derived.JoinedTies
import Derived.KernelRfl
namespace Go.Proofs.Ythliapjnfcahlab
/- THE CELL 'sum', in the pinned program and in every row, IS THE sha256 OF THE DUMP (.gsa) THAT YthliapjnfcahlabProg.lean LOADS. Nothing in Lean hashes anything: it is a label: what it is worth is what the hold of that sum in a sandbox is worth. -/
noncomputable def Try.pinned : Pinned := { name := "ythliapjnfcahlab", sum := "3d03827e0fb42cb8a810558ff12441bd600d8541cafaea927fdc88e6687b24bf", checked := Try.checked }
namespace Rows
def none {H : Type} : Left H := { results := [], args := [] }

/-- 'laws.FnExactCycleOf': WHATEVER THE INPUT: true; the input reads as it did. -/
def fnExactCycleOfSpec : ChangeSpec := { name := "fnExactCycleOf", fn := fun _ => fun
  | [d1, d2] => { results := [.lit (.bool true)], args := [d1, d2] }
  | _ => none }
def fnExactCycleOfRow : OpenClaim := { program := "ythliapjnfcahlab", sum := "3d03827e0fb42cb8a810558ff12441bd600d8541cafaea927fdc88e6687b24bf", func := "loop.example/g01389/laws.FnExactCycleOf", spec := "fnExactCycleOf", inPlace := ["math.Float64bits", "math.Float64frombits"], unfollowed := true, recurses := true, apart := false }
def FnExactCycleOfSaid : Prop := fnExactCycleOfRow.holds Try.pinned (OpenSpec.ofChange fnExactCycleOfSpec)

/-- ITS FALSE NEIGHBOUR: 'it returns false'. Refute it at one input. -/
def fnExactCycleOfWrong : ChangeSpec := { name := "fnExactCycleOf", fn := fun _ => fun
  | [d1, d2] => { results := [.lit (.bool false)], args := [d1, d2] }
  | _ => none }
def FnExactCycleOfWrongFalsely : Prop := fnExactCycleOfRow.holds Try.pinned (OpenSpec.ofChange fnExactCycleOfWrong)

/-- 'laws.FnExactGreenShares': WHATEVER THE INPUT: true; the input reads as it did. -/
def fnExactGreenSharesSpec : ChangeSpec := { name := "fnExactGreenShares", fn := fun _ => fun
  | [d1, d2, d3] => { results := [.lit (.bool true)], args := [d1, d2, d3] }
  | _ => none }
def fnExactGreenSharesRow : OpenClaim := { program := "ythliapjnfcahlab", sum := "3d03827e0fb42cb8a810558ff12441bd600d8541cafaea927fdc88e6687b24bf", func := "loop.example/g01389/laws.FnExactGreenShares", spec := "fnExactGreenShares", inPlace := ["math.Float64bits", "math.Float64frombits"], unfollowed := true, recurses := true, apart := false }
def FnExactGreenSharesSaid : Prop := fnExactGreenSharesRow.holds Try.pinned (OpenSpec.ofChange fnExactGreenSharesSpec)

/-- ITS FALSE NEIGHBOUR: 'it returns false'. Refute it at one input. -/
def fnExactGreenSharesWrong : ChangeSpec := { name := "fnExactGreenShares", fn := fun _ => fun
  | [d1, d2, d3] => { results := [.lit (.bool false)], args := [d1, d2, d3] }
  | _ => none }
def FnExactGreenSharesWrongFalsely : Prop := fnExactGreenSharesRow.holds Try.pinned (OpenSpec.ofChange fnExactGreenSharesWrong)

/-- 'laws.FnExactBufferOf': WHATEVER THE INPUT: true; the input reads as it did. -/
def fnExactBufferOfSpec : ChangeSpec := { name := "fnExactBufferOf", fn := fun _ => fun
  | [d1, d2] => { results := [.lit (.bool true)], args := [d1, d2] }
  | _ => none }
def fnExactBufferOfRow : OpenClaim := { program := "ythliapjnfcahlab", sum := "3d03827e0fb42cb8a810558ff12441bd600d8541cafaea927fdc88e6687b24bf", func := "loop.example/g01389/laws.FnExactBufferOf", spec := "fnExactBufferOf", inPlace := ["math.sqrt", "math.Float64bits", "math.Float64frombits"], unfollowed := true, recurses := true, apart := false }
def FnExactBufferOfSaid : Prop := fnExactBufferOfRow.holds Try.pinned (OpenSpec.ofChange fnExactBufferOfSpec)

/-- ITS FALSE NEIGHBOUR: 'it returns false'. Refute it at one input. -/
def fnExactBufferOfWrong : ChangeSpec := { name := "fnExactBufferOf", fn := fun _ => fun
  | [d1, d2] => { results := [.lit (.bool false)], args := [d1, d2] }
  | _ => none }
def FnExactBufferOfWrongFalsely : Prop := fnExactBufferOfRow.holds Try.pinned (OpenSpec.ofChange fnExactBufferOfWrong)

/-- 'laws.FnExactGreenWave': WHATEVER THE INPUT: true; the input reads as it did. -/
def fnExactGreenWaveSpec : ChangeSpec := { name := "fnExactGreenWave", fn := fun _ => fun
  | [d1, d2, d3, d4, d5] => { results := [.lit (.bool true)], args := [d1, d2, d3, d4, d5] }
  | _ => none }
def fnExactGreenWaveRow : OpenClaim := { program := "ythliapjnfcahlab", sum := "3d03827e0fb42cb8a810558ff12441bd600d8541cafaea927fdc88e6687b24bf", func := "loop.example/g01389/laws.FnExactGreenWave", spec := "fnExactGreenWave", inPlace := ["math.Float64bits", "math.Float64frombits", "math.archFloor", "math.archTrunc"], unfollowed := true, recurses := true, apart := false }
def FnExactGreenWaveSaid : Prop := fnExactGreenWaveRow.holds Try.pinned (OpenSpec.ofChange fnExactGreenWaveSpec)

/-- ITS FALSE NEIGHBOUR: 'it returns false'. Refute it at one input. -/
def fnExactGreenWaveWrong : ChangeSpec := { name := "fnExactGreenWave", fn := fun _ => fun
  | [d1, d2, d3, d4, d5] => { results := [.lit (.bool false)], args := [d1, d2, d3, d4, d5] }
  | _ => none }
def FnExactGreenWaveWrongFalsely : Prop := fnExactGreenWaveRow.holds Try.pinned (OpenSpec.ofChange fnExactGreenWaveWrong)

/-- 'laws.FnExactIsPeriod': WHATEVER THE INPUT: true; the input reads as it did. -/
def fnExactIsPeriodSpec : ChangeSpec := { name := "fnExactIsPeriod", fn := fun _ => fun
  | [d1, d2, d3, d4] => { results := [.lit (.bool true)], args := [d1, d2, d3, d4] }
  | _ => none }
def fnExactIsPeriodRow : OpenClaim := { program := "ythliapjnfcahlab", sum := "3d03827e0fb42cb8a810558ff12441bd600d8541cafaea927fdc88e6687b24bf", func := "loop.example/g01389/laws.FnExactIsPeriod", spec := "fnExactIsPeriod", unfollowed := true, recurses := true, apart := false }
def FnExactIsPeriodSaid : Prop := fnExactIsPeriodRow.holds Try.pinned (OpenSpec.ofChange fnExactIsPeriodSpec)

/-- ITS FALSE NEIGHBOUR: 'it returns false'. Refute it at one input. -/
def fnExactIsPeriodWrong : ChangeSpec := { name := "fnExactIsPeriod", fn := fun _ => fun
  | [d1, d2, d3, d4] => { results := [.lit (.bool false)], args := [d1, d2, d3, d4] }
  | _ => none }
def FnExactIsPeriodWrongFalsely : Prop := fnExactIsPeriodRow.holds Try.pinned (OpenSpec.ofChange fnExactIsPeriodWrong)

/-- 'laws.FnExactPeriodOf': WHATEVER THE INPUT: true; the input reads as it did. -/
def fnExactPeriodOfSpec : ChangeSpec := { name := "fnExactPeriodOf", fn := fun _ => fun
  | [d1, d2] => { results := [.lit (.bool true)], args := [d1, d2] }
  | _ => none }
def fnExactPeriodOfRow : OpenClaim := { program := "ythliapjnfcahlab", sum := "3d03827e0fb42cb8a810558ff12441bd600d8541cafaea927fdc88e6687b24bf", func := "loop.example/g01389/laws.FnExactPeriodOf", spec := "fnExactPeriodOf", unfollowed := true, recurses := true, apart := false }
def FnExactPeriodOfSaid : Prop := fnExactPeriodOfRow.holds Try.pinned (OpenSpec.ofChange fnExactPeriodOfSpec)

/-- ITS FALSE NEIGHBOUR: 'it returns false'. Refute it at one input. -/
def fnExactPeriodOfWrong : ChangeSpec := { name := "fnExactPeriodOf", fn := fun _ => fun
  | [d1, d2] => { results := [.lit (.bool false)], args := [d1, d2] }
  | _ => none }
def FnExactPeriodOfWrongFalsely : Prop := fnExactPeriodOfRow.holds Try.pinned (OpenSpec.ofChange fnExactPeriodOfWrong)

/-- 'laws.FnExactSlowRing': WHATEVER THE INPUT: true; the input reads as it did. -/
def fnExactSlowRingSpec : ChangeSpec := { name := "fnExactSlowRing", fn := fun _ => fun
  | [d1, d2] => { results := [.lit (.bool true)], args := [d1, d2] }
  | _ => none }
def fnExactSlowRingRow : OpenClaim := { program := "ythliapjnfcahlab", sum := "3d03827e0fb42cb8a810558ff12441bd600d8541cafaea927fdc88e6687b24bf", func := "loop.example/g01389/laws.FnExactSlowRing", spec := "fnExactSlowRing", unfollowed := true, recurses := true, apart := false }
def FnExactSlowRingSaid : Prop := fnExactSlowRingRow.holds Try.pinned (OpenSpec.ofChange fnExactSlowRingSpec)

/-- ITS FALSE NEIGHBOUR: 'it returns false'. Refute it at one input. -/
def fnExactSlowRingWrong : ChangeSpec := { name := "fnExactSlowRing", fn := fun _ => fun
  | [d1, d2] => { results := [.lit (.bool false)], args := [d1, d2] }
  | _ => none }
def FnExactSlowRingWrongFalsely : Prop := fnExactSlowRingRow.holds Try.pinned (OpenSpec.ofChange fnExactSlowRingWrong)

/-- 'laws.FnExactRunArcs': WHATEVER THE INPUT: true; the input reads as it did. -/
def fnExactRunArcsSpec : ChangeSpec := { name := "fnExactRunArcs", fn := fun _ => fun
  | [d1, d2, d3] => { results := [.lit (.bool true)], args := [d1, d2, d3] }
  | _ => none }
def fnExactRunArcsRow : OpenClaim := { program := "ythliapjnfcahlab", sum := "3d03827e0fb42cb8a810558ff12441bd600d8541cafaea927fdc88e6687b24bf", func := "loop.example/g01389/laws.FnExactRunArcs", spec := "fnExactRunArcs", unfollowed := true, recurses := true, apart := false }
def FnExactRunArcsSaid : Prop := fnExactRunArcsRow.holds Try.pinned (OpenSpec.ofChange fnExactRunArcsSpec)

/-- ITS FALSE NEIGHBOUR: 'it returns false'. Refute it at one input. -/
def fnExactRunArcsWrong : ChangeSpec := { name := "fnExactRunArcs", fn := fun _ => fun
  | [d1, d2, d3] => { results := [.lit (.bool false)], args := [d1, d2, d3] }
  | _ => none }
def FnExactRunArcsWrongFalsely : Prop := fnExactRunArcsRow.holds Try.pinned (OpenSpec.ofChange fnExactRunArcsWrong)

/-- 'laws.FnExactFirstTable': WHATEVER THE INPUT: true; the input reads as it did. -/
def fnExactFirstTableSpec : ChangeSpec := { name := "fnExactFirstTable", fn := fun _ => fun
  | [d1, d2, d3] => { results := [.lit (.bool true)], args := [d1, d2, d3] }
  | _ => none }
def fnExactFirstTableRow : OpenClaim := { program := "ythliapjnfcahlab", sum := "3d03827e0fb42cb8a810558ff12441bd600d8541cafaea927fdc88e6687b24bf", func := "loop.example/g01389/laws.FnExactFirstTable", spec := "fnExactFirstTable", unfollowed := true, recurses := true, apart := false }
def FnExactFirstTableSaid : Prop := fnExactFirstTableRow.holds Try.pinned (OpenSpec.ofChange fnExactFirstTableSpec)

/-- ITS FALSE NEIGHBOUR: 'it returns false'. Refute it at one input. -/
def fnExactFirstTableWrong : ChangeSpec := { name := "fnExactFirstTable", fn := fun _ => fun
  | [d1, d2, d3] => { results := [.lit (.bool false)], args := [d1, d2, d3] }
  | _ => none }
def FnExactFirstTableWrongFalsely : Prop := fnExactFirstTableRow.holds Try.pinned (OpenSpec.ofChange fnExactFirstTableWrong)

/-- 'laws.FnExactCountTables': WHATEVER THE INPUT: true; the input reads as it did. -/
def fnExactCountTablesSpec : ChangeSpec := { name := "fnExactCountTables", fn := fun _ => fun
  | [d1, d2, d3] => { results := [.lit (.bool true)], args := [d1, d2, d3] }
  | _ => none }
def fnExactCountTablesRow : OpenClaim := { program := "ythliapjnfcahlab", sum := "3d03827e0fb42cb8a810558ff12441bd600d8541cafaea927fdc88e6687b24bf", func := "loop.example/g01389/laws.FnExactCountTables", spec := "fnExactCountTables", unfollowed := true, recurses := true, apart := false }
def FnExactCountTablesSaid : Prop := fnExactCountTablesRow.holds Try.pinned (OpenSpec.ofChange fnExactCountTablesSpec)

/-- ITS FALSE NEIGHBOUR: 'it returns false'. Refute it at one input. -/
def fnExactCountTablesWrong : ChangeSpec := { name := "fnExactCountTables", fn := fun _ => fun
  | [d1, d2, d3] => { results := [.lit (.bool false)], args := [d1, d2, d3] }
  | _ => none }
def FnExactCountTablesWrongFalsely : Prop := fnExactCountTablesRow.holds Try.pinned (OpenSpec.ofChange fnExactCountTablesWrong)

/-- 'laws.FnExactBestTable': WHATEVER THE INPUT: true; the input reads as it did. -/
def fnExactBestTableSpec : ChangeSpec := { name := "fnExactBestTable", fn := fun _ => fun
  | [d1, d2, d3] => { results := [.lit (.bool true)], args := [d1, d2, d3] }
  | _ => none }
def fnExactBestTableRow : OpenClaim := { program := "ythliapjnfcahlab", sum := "3d03827e0fb42cb8a810558ff12441bd600d8541cafaea927fdc88e6687b24bf", func := "loop.example/g01389/laws.FnExactBestTable", spec := "fnExactBestTable", unfollowed := true, recurses := true, apart := false }
def FnExactBestTableSaid : Prop := fnExactBestTableRow.holds Try.pinned (OpenSpec.ofChange fnExactBestTableSpec)

/-- ITS FALSE NEIGHBOUR: 'it returns false'. Refute it at one input. -/
def fnExactBestTableWrong : ChangeSpec := { name := "fnExactBestTable", fn := fun _ => fun
  | [d1, d2, d3] => { results := [.lit (.bool false)], args := [d1, d2, d3] }
  | _ => none }
def FnExactBestTableWrongFalsely : Prop := fnExactBestTableRow.holds Try.pinned (OpenSpec.ofChange fnExactBestTableWrong)

/- THE SECOND FORM. 'bulk': how many values and letters a reading holds, each counted each time it is reached (what is shared counts as often as it is met; a slice's spare places count too). A statement '..UptoSaid' is the law's where the arguments, and the package variables that the reading takes, are together of bulk at most 1048576: NARROWER than '..Said'. Prove '..Said' where nothing that the law and all that it calls make is longer than what came in: it says more and counts as full. Else prove '..UptoSaid'. A law counts once. -/
mutual
def uptoBulk {H : Type} : DataW H → Nat
  | .lit (.string bytes) => bytes.length + 1
  | .lit _ => 1
  | .nil => 1
  | .ptr d => uptoBulk d + 1
  | .slice elems spare => uptoBulkAll elems + uptoBulkAll spare + 1
  | .agg parts => uptoBulkAll parts + 1
  | .iface _ d => uptoBulk d + 1
  | .map entries => uptoBulkEntries entries + 1
  | .held _ => 1
def uptoBulkAll {H : Type} : List (DataW H) → Nat
  | [] => 0
  | d :: r => uptoBulk d + uptoBulkAll r
def uptoBulkEntries {H : Type} : List (Lit × DataW H) → Nat
  | [] => 0
  | x :: r => uptoBulkEntry x + uptoBulkEntries r
def uptoBulkEntry {H : Type} : Lit × DataW H → Nat
  | (.string bytes, d) => bytes.length + uptoBulk d + 1
  | (_, d) => uptoBulk d + 1
 end
def uptoSmall : (H : Type) → List (DataW H) → Bool := fun _ ds => decide (uptoBulkAll ds ≤ 1048576)
def OpenSpec.upto (s : _root_.Go.ChangeSpec) : _root_.Go.OpenSpec := { _root_.Go.OpenSpec.ofChange s with cond := some uptoSmall }

/-- 'laws.FnExactCycleOf', WHERE WHAT IT READS IS OF BULK AT MOST 1048576: true; the input reads as it did. -/
def fnExactCycleOfUptoRow : OpenClaim := { program := "ythliapjnfcahlab", sum := "3d03827e0fb42cb8a810558ff12441bd600d8541cafaea927fdc88e6687b24bf", func := "loop.example/g01389/laws.FnExactCycleOf", spec := "fnExactCycleOf", inPlace := ["math.Float64bits", "math.Float64frombits"], unfollowed := true, recurses := true, apart := false, narrowed := true }
def FnExactCycleOfUptoSaid : Prop := fnExactCycleOfUptoRow.holds Try.pinned (OpenSpec.upto fnExactCycleOfSpec)

/-- 'laws.FnExactGreenShares', WHERE WHAT IT READS IS OF BULK AT MOST 1048576: true; the input reads as it did. -/
def fnExactGreenSharesUptoRow : OpenClaim := { program := "ythliapjnfcahlab", sum := "3d03827e0fb42cb8a810558ff12441bd600d8541cafaea927fdc88e6687b24bf", func := "loop.example/g01389/laws.FnExactGreenShares", spec := "fnExactGreenShares", inPlace := ["math.Float64bits", "math.Float64frombits"], unfollowed := true, recurses := true, apart := false, narrowed := true }
def FnExactGreenSharesUptoSaid : Prop := fnExactGreenSharesUptoRow.holds Try.pinned (OpenSpec.upto fnExactGreenSharesSpec)

/-- 'laws.FnExactBufferOf', WHERE WHAT IT READS IS OF BULK AT MOST 1048576: true; the input reads as it did. -/
def fnExactBufferOfUptoRow : OpenClaim := { program := "ythliapjnfcahlab", sum := "3d03827e0fb42cb8a810558ff12441bd600d8541cafaea927fdc88e6687b24bf", func := "loop.example/g01389/laws.FnExactBufferOf", spec := "fnExactBufferOf", inPlace := ["math.sqrt", "math.Float64bits", "math.Float64frombits"], unfollowed := true, recurses := true, apart := false, narrowed := true }
def FnExactBufferOfUptoSaid : Prop := fnExactBufferOfUptoRow.holds Try.pinned (OpenSpec.upto fnExactBufferOfSpec)

/-- 'laws.FnExactGreenWave', WHERE WHAT IT READS IS OF BULK AT MOST 1048576: true; the input reads as it did. -/
def fnExactGreenWaveUptoRow : OpenClaim := { program := "ythliapjnfcahlab", sum := "3d03827e0fb42cb8a810558ff12441bd600d8541cafaea927fdc88e6687b24bf", func := "loop.example/g01389/laws.FnExactGreenWave", spec := "fnExactGreenWave", inPlace := ["math.Float64bits", "math.Float64frombits", "math.archFloor", "math.archTrunc"], unfollowed := true, recurses := true, apart := false, narrowed := true }
def FnExactGreenWaveUptoSaid : Prop := fnExactGreenWaveUptoRow.holds Try.pinned (OpenSpec.upto fnExactGreenWaveSpec)

/-- 'laws.FnExactIsPeriod', WHERE WHAT IT READS IS OF BULK AT MOST 1048576: true; the input reads as it did. -/
def fnExactIsPeriodUptoRow : OpenClaim := { program := "ythliapjnfcahlab", sum := "3d03827e0fb42cb8a810558ff12441bd600d8541cafaea927fdc88e6687b24bf", func := "loop.example/g01389/laws.FnExactIsPeriod", spec := "fnExactIsPeriod", unfollowed := true, recurses := true, apart := false, narrowed := true }
def FnExactIsPeriodUptoSaid : Prop := fnExactIsPeriodUptoRow.holds Try.pinned (OpenSpec.upto fnExactIsPeriodSpec)

/-- 'laws.FnExactPeriodOf', WHERE WHAT IT READS IS OF BULK AT MOST 1048576: true; the input reads as it did. -/
def fnExactPeriodOfUptoRow : OpenClaim := { program := "ythliapjnfcahlab", sum := "3d03827e0fb42cb8a810558ff12441bd600d8541cafaea927fdc88e6687b24bf", func := "loop.example/g01389/laws.FnExactPeriodOf", spec := "fnExactPeriodOf", unfollowed := true, recurses := true, apart := false, narrowed := true }
def FnExactPeriodOfUptoSaid : Prop := fnExactPeriodOfUptoRow.holds Try.pinned (OpenSpec.upto fnExactPeriodOfSpec)

/-- 'laws.FnExactSlowRing', WHERE WHAT IT READS IS OF BULK AT MOST 1048576: true; the input reads as it did. -/
def fnExactSlowRingUptoRow : OpenClaim := { program := "ythliapjnfcahlab", sum := "3d03827e0fb42cb8a810558ff12441bd600d8541cafaea927fdc88e6687b24bf", func := "loop.example/g01389/laws.FnExactSlowRing", spec := "fnExactSlowRing", unfollowed := true, recurses := true, apart := false, narrowed := true }
def FnExactSlowRingUptoSaid : Prop := fnExactSlowRingUptoRow.holds Try.pinned (OpenSpec.upto fnExactSlowRingSpec)

/-- 'laws.FnExactRunArcs', WHERE WHAT IT READS IS OF BULK AT MOST 1048576: true; the input reads as it did. -/
def fnExactRunArcsUptoRow : OpenClaim := { program := "ythliapjnfcahlab", sum := "3d03827e0fb42cb8a810558ff12441bd600d8541cafaea927fdc88e6687b24bf", func := "loop.example/g01389/laws.FnExactRunArcs", spec := "fnExactRunArcs", unfollowed := true, recurses := true, apart := false, narrowed := true }
def FnExactRunArcsUptoSaid : Prop := fnExactRunArcsUptoRow.holds Try.pinned (OpenSpec.upto fnExactRunArcsSpec)

/-- 'laws.FnExactFirstTable', WHERE WHAT IT READS IS OF BULK AT MOST 1048576: true; the input reads as it did. -/
def fnExactFirstTableUptoRow : OpenClaim := { program := "ythliapjnfcahlab", sum := "3d03827e0fb42cb8a810558ff12441bd600d8541cafaea927fdc88e6687b24bf", func := "loop.example/g01389/laws.FnExactFirstTable", spec := "fnExactFirstTable", unfollowed := true, recurses := true, apart := false, narrowed := true }
def FnExactFirstTableUptoSaid : Prop := fnExactFirstTableUptoRow.holds Try.pinned (OpenSpec.upto fnExactFirstTableSpec)

/-- 'laws.FnExactCountTables', WHERE WHAT IT READS IS OF BULK AT MOST 1048576: true; the input reads as it did. -/
def fnExactCountTablesUptoRow : OpenClaim := { program := "ythliapjnfcahlab", sum := "3d03827e0fb42cb8a810558ff12441bd600d8541cafaea927fdc88e6687b24bf", func := "loop.example/g01389/laws.FnExactCountTables", spec := "fnExactCountTables", unfollowed := true, recurses := true, apart := false, narrowed := true }
def FnExactCountTablesUptoSaid : Prop := fnExactCountTablesUptoRow.holds Try.pinned (OpenSpec.upto fnExactCountTablesSpec)

/-- 'laws.FnExactBestTable', WHERE WHAT IT READS IS OF BULK AT MOST 1048576: true; the input reads as it did. -/
def fnExactBestTableUptoRow : OpenClaim := { program := "ythliapjnfcahlab", sum := "3d03827e0fb42cb8a810558ff12441bd600d8541cafaea927fdc88e6687b24bf", func := "loop.example/g01389/laws.FnExactBestTable", spec := "fnExactBestTable", unfollowed := true, recurses := true, apart := false, narrowed := true }
def FnExactBestTableUptoSaid : Prop := fnExactBestTableUptoRow.holds Try.pinned (OpenSpec.upto fnExactBestTableSpec)

end Rows
end Go.Proofs.Ythliapjnfcahlab
