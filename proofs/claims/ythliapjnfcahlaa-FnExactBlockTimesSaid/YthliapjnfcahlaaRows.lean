/-
  No cell of these rows narrows 'for every input' (looked for: loops, veiled, ifaces, maps, wideKeys, modest, calm, conditions, laid).
  DERIVED. THE GIVEN ROWS OF THIS SEAT. 12 by the template 'for every input the law returns true; each argument reads behind the call as it read before'; 0 by the template 'total and deterministic' (their statements: YthliapjnfcahlaaTotals.lean).
  GIVEN WITH THE SEED: the statements are not yours to turn. If you find one false, say at which input.
  Laid BY PROGRAM, IN A SANDBOX (cutbox-rows.mjs): the forced cells as the released guide's own fill.sh prints them over the translation 2f7b25a899788f14… (all of the seat's roots in one cut). By AI agents, Wed Nov 11 2026. No macro, syntax, notation, axiom, sorry.
-/
import Derived.Test.YthliapjnfcahlaaChecked
import GoSem.Claim
import GoSem.ClaimJoined
import GoSem.ClaimMapViews
import Derived.JoinedTies
import Derived.KernelRfl
namespace Go.Proofs.Ythliapjnfcahlaa
/- THE CELL 'sum', in the pinned program and in every row, IS THE sha256 OF THE DUMP (.gsa) THAT YthliapjnfcahlaaProg.lean LOADS. Nothing in Lean hashes anything: it is a label: what it is worth is what the hold of that sum in a sandbox is worth. -/
noncomputable def Try.pinned : Pinned := { name := "ythliapjnfcahlaa", sum := "2f7b25a899788f14d5494e4210e191ea90379fc4f8868fb9ad380edeab4446d1", checked := Try.checked }
namespace Rows
def none {H : Type} : Left H := { results := [], args := [] }

/-- 'laws.FnExactAreArcs': WHATEVER THE INPUT: true; the input reads as it did. -/
def fnExactAreArcsSpec : ChangeSpec := { name := "fnExactAreArcs", fn := fun _ => fun
  | [d1, d2] => { results := [.lit (.bool true)], args := [d1, d2] }
  | _ => none }
def fnExactAreArcsRow : OpenClaim := { program := "ythliapjnfcahlaa", sum := "2f7b25a899788f14d5494e4210e191ea90379fc4f8868fb9ad380edeab4446d1", func := "loop.example/g01389/laws.FnExactAreArcs", spec := "fnExactAreArcs", unfollowed := true, recurses := true, apart := false }
def FnExactAreArcsSaid : Prop := fnExactAreArcsRow.holds Try.pinned (OpenSpec.ofChange fnExactAreArcsSpec)

/-- ITS FALSE NEIGHBOUR: 'it returns false'. Refute it at one input. -/
def fnExactAreArcsWrong : ChangeSpec := { name := "fnExactAreArcs", fn := fun _ => fun
  | [d1, d2] => { results := [.lit (.bool false)], args := [d1, d2] }
  | _ => none }
def FnExactAreArcsWrongFalsely : Prop := fnExactAreArcsRow.holds Try.pinned (OpenSpec.ofChange fnExactAreArcsWrong)

/-- 'laws.FnExactSameArcs': WHATEVER THE INPUT: true; the input reads as it did. -/
def fnExactSameArcsSpec : ChangeSpec := { name := "fnExactSameArcs", fn := fun _ => fun
  | [d1, d2] => { results := [.lit (.bool true)], args := [d1, d2] }
  | _ => none }
def fnExactSameArcsRow : OpenClaim := { program := "ythliapjnfcahlaa", sum := "2f7b25a899788f14d5494e4210e191ea90379fc4f8868fb9ad380edeab4446d1", func := "loop.example/g01389/laws.FnExactSameArcs", spec := "fnExactSameArcs", apart := false }
def FnExactSameArcsSaid : Prop := fnExactSameArcsRow.holds Try.pinned (OpenSpec.ofChange fnExactSameArcsSpec)

/-- ITS FALSE NEIGHBOUR: 'it returns false'. Refute it at one input. -/
def fnExactSameArcsWrong : ChangeSpec := { name := "fnExactSameArcs", fn := fun _ => fun
  | [d1, d2] => { results := [.lit (.bool false)], args := [d1, d2] }
  | _ => none }
def FnExactSameArcsWrongFalsely : Prop := fnExactSameArcsRow.holds Try.pinned (OpenSpec.ofChange fnExactSameArcsWrong)

/-- 'laws.FnExactAreRules': WHATEVER THE INPUT: true; the input reads as it did. -/
def fnExactAreRulesSpec : ChangeSpec := { name := "fnExactAreRules", fn := fun _ => fun
  | [d1, d2, d3] => { results := [.lit (.bool true)], args := [d1, d2, d3] }
  | _ => none }
def fnExactAreRulesRow : OpenClaim := { program := "ythliapjnfcahlaa", sum := "2f7b25a899788f14d5494e4210e191ea90379fc4f8868fb9ad380edeab4446d1", func := "loop.example/g01389/laws.FnExactAreRules", spec := "fnExactAreRules", unfollowed := true, recurses := true, apart := false }
def FnExactAreRulesSaid : Prop := fnExactAreRulesRow.holds Try.pinned (OpenSpec.ofChange fnExactAreRulesSpec)

/-- ITS FALSE NEIGHBOUR: 'it returns false'. Refute it at one input. -/
def fnExactAreRulesWrong : ChangeSpec := { name := "fnExactAreRules", fn := fun _ => fun
  | [d1, d2, d3] => { results := [.lit (.bool false)], args := [d1, d2, d3] }
  | _ => none }
def FnExactAreRulesWrongFalsely : Prop := fnExactAreRulesRow.holds Try.pinned (OpenSpec.ofChange fnExactAreRulesWrong)

/-- 'laws.FnExactSameRules': WHATEVER THE INPUT: true; the input reads as it did. -/
def fnExactSameRulesSpec : ChangeSpec := { name := "fnExactSameRules", fn := fun _ => fun
  | [d1, d2] => { results := [.lit (.bool true)], args := [d1, d2] }
  | _ => none }
def fnExactSameRulesRow : OpenClaim := { program := "ythliapjnfcahlaa", sum := "2f7b25a899788f14d5494e4210e191ea90379fc4f8868fb9ad380edeab4446d1", func := "loop.example/g01389/laws.FnExactSameRules", spec := "fnExactSameRules", apart := false }
def FnExactSameRulesSaid : Prop := fnExactSameRulesRow.holds Try.pinned (OpenSpec.ofChange fnExactSameRulesSpec)

/-- ITS FALSE NEIGHBOUR: 'it returns false'. Refute it at one input. -/
def fnExactSameRulesWrong : ChangeSpec := { name := "fnExactSameRules", fn := fun _ => fun
  | [d1, d2] => { results := [.lit (.bool false)], args := [d1, d2] }
  | _ => none }
def FnExactSameRulesWrongFalsely : Prop := fnExactSameRulesRow.holds Try.pinned (OpenSpec.ofChange fnExactSameRulesWrong)

/-- 'laws.FnExactKeepsRules': WHATEVER THE INPUT: true; the input reads as it did. -/
def fnExactKeepsRulesSpec : ChangeSpec := { name := "fnExactKeepsRules", fn := fun _ => fun
  | [d1, d2, d3, d4] => { results := [.lit (.bool true)], args := [d1, d2, d3, d4] }
  | _ => none }
def fnExactKeepsRulesRow : OpenClaim := { program := "ythliapjnfcahlaa", sum := "2f7b25a899788f14d5494e4210e191ea90379fc4f8868fb9ad380edeab4446d1", func := "loop.example/g01389/laws.FnExactKeepsRules", spec := "fnExactKeepsRules", unfollowed := true, recurses := true, apart := false }
def FnExactKeepsRulesSaid : Prop := fnExactKeepsRulesRow.holds Try.pinned (OpenSpec.ofChange fnExactKeepsRulesSpec)

/-- ITS FALSE NEIGHBOUR: 'it returns false'. Refute it at one input. -/
def fnExactKeepsRulesWrong : ChangeSpec := { name := "fnExactKeepsRules", fn := fun _ => fun
  | [d1, d2, d3, d4] => { results := [.lit (.bool false)], args := [d1, d2, d3, d4] }
  | _ => none }
def FnExactKeepsRulesWrongFalsely : Prop := fnExactKeepsRulesRow.holds Try.pinned (OpenSpec.ofChange fnExactKeepsRulesWrong)

/-- 'laws.FnExactRingGap': WHATEVER THE INPUT: true; the input reads as it did. -/
def fnExactRingGapSpec : ChangeSpec := { name := "fnExactRingGap", fn := fun _ => fun
  | [d1, d2, d3, d4] => { results := [.lit (.bool true)], args := [d1, d2, d3, d4] }
  | _ => none }
def fnExactRingGapRow : OpenClaim := { program := "ythliapjnfcahlaa", sum := "2f7b25a899788f14d5494e4210e191ea90379fc4f8868fb9ad380edeab4446d1", func := "loop.example/g01389/laws.FnExactRingGap", spec := "fnExactRingGap", unfollowed := true, recurses := true, apart := false }
def FnExactRingGapSaid : Prop := fnExactRingGapRow.holds Try.pinned (OpenSpec.ofChange fnExactRingGapSpec)

/-- ITS FALSE NEIGHBOUR: 'it returns false'. Refute it at one input. -/
def fnExactRingGapWrong : ChangeSpec := { name := "fnExactRingGap", fn := fun _ => fun
  | [d1, d2, d3, d4] => { results := [.lit (.bool false)], args := [d1, d2, d3, d4] }
  | _ => none }
def FnExactRingGapWrongFalsely : Prop := fnExactRingGapRow.holds Try.pinned (OpenSpec.ofChange fnExactRingGapWrong)

/-- 'laws.FnExactTurnTable': WHATEVER THE INPUT: true; the input reads as it did. -/
def fnExactTurnTableSpec : ChangeSpec := { name := "fnExactTurnTable", fn := fun _ => fun
  | [d1, d2, d3] => { results := [.lit (.bool true)], args := [d1, d2, d3] }
  | _ => none }
def fnExactTurnTableRow : OpenClaim := { program := "ythliapjnfcahlaa", sum := "2f7b25a899788f14d5494e4210e191ea90379fc4f8868fb9ad380edeab4446d1", func := "loop.example/g01389/laws.FnExactTurnTable", spec := "fnExactTurnTable", apart := false }
def FnExactTurnTableSaid : Prop := fnExactTurnTableRow.holds Try.pinned (OpenSpec.ofChange fnExactTurnTableSpec)

/-- ITS FALSE NEIGHBOUR: 'it returns false'. Refute it at one input. -/
def fnExactTurnTableWrong : ChangeSpec := { name := "fnExactTurnTable", fn := fun _ => fun
  | [d1, d2, d3] => { results := [.lit (.bool false)], args := [d1, d2, d3] }
  | _ => none }
def FnExactTurnTableWrongFalsely : Prop := fnExactTurnTableRow.holds Try.pinned (OpenSpec.ofChange fnExactTurnTableWrong)

/-- 'laws.FnExactSpreadDelays': WHATEVER THE INPUT: true; the input reads as it did. -/
def fnExactSpreadDelaysSpec : ChangeSpec := { name := "fnExactSpreadDelays", fn := fun _ => fun
  | [d1, d2, d3] => { results := [.lit (.bool true)], args := [d1, d2, d3] }
  | _ => none }
def fnExactSpreadDelaysRow : OpenClaim := { program := "ythliapjnfcahlaa", sum := "2f7b25a899788f14d5494e4210e191ea90379fc4f8868fb9ad380edeab4446d1", func := "loop.example/g01389/laws.FnExactSpreadDelays", spec := "fnExactSpreadDelays", unfollowed := true, recurses := true, apart := false }
def FnExactSpreadDelaysSaid : Prop := fnExactSpreadDelaysRow.holds Try.pinned (OpenSpec.ofChange fnExactSpreadDelaysSpec)

/-- ITS FALSE NEIGHBOUR: 'it returns false'. Refute it at one input. -/
def fnExactSpreadDelaysWrong : ChangeSpec := { name := "fnExactSpreadDelays", fn := fun _ => fun
  | [d1, d2, d3] => { results := [.lit (.bool false)], args := [d1, d2, d3] }
  | _ => none }
def FnExactSpreadDelaysWrongFalsely : Prop := fnExactSpreadDelaysRow.holds Try.pinned (OpenSpec.ofChange fnExactSpreadDelaysWrong)

/-- 'laws.FnExactBlockTimes': WHATEVER THE INPUT: true; the input reads as it did. -/
def fnExactBlockTimesSpec : ChangeSpec := { name := "fnExactBlockTimes", fn := fun _ => fun
  | [d1, d2] => { results := [.lit (.bool true)], args := [d1, d2] }
  | _ => none }
def fnExactBlockTimesRow : OpenClaim := { program := "ythliapjnfcahlaa", sum := "2f7b25a899788f14d5494e4210e191ea90379fc4f8868fb9ad380edeab4446d1", func := "loop.example/g01389/laws.FnExactBlockTimes", spec := "fnExactBlockTimes", apart := false }
def FnExactBlockTimesSaid : Prop := fnExactBlockTimesRow.holds Try.pinned (OpenSpec.ofChange fnExactBlockTimesSpec)

/-- ITS FALSE NEIGHBOUR: 'it returns false'. Refute it at one input. -/
def fnExactBlockTimesWrong : ChangeSpec := { name := "fnExactBlockTimes", fn := fun _ => fun
  | [d1, d2] => { results := [.lit (.bool false)], args := [d1, d2] }
  | _ => none }
def FnExactBlockTimesWrongFalsely : Prop := fnExactBlockTimesRow.holds Try.pinned (OpenSpec.ofChange fnExactBlockTimesWrong)

/-- 'laws.FnExactLeastHead': WHATEVER THE INPUT: true; the input reads as it did. -/
def fnExactLeastHeadSpec : ChangeSpec := { name := "fnExactLeastHead", fn := fun _ => fun
  | [d1, d2] => { results := [.lit (.bool true)], args := [d1, d2] }
  | _ => none }
def fnExactLeastHeadRow : OpenClaim := { program := "ythliapjnfcahlaa", sum := "2f7b25a899788f14d5494e4210e191ea90379fc4f8868fb9ad380edeab4446d1", func := "loop.example/g01389/laws.FnExactLeastHead", spec := "fnExactLeastHead", apart := false }
def FnExactLeastHeadSaid : Prop := fnExactLeastHeadRow.holds Try.pinned (OpenSpec.ofChange fnExactLeastHeadSpec)

/-- ITS FALSE NEIGHBOUR: 'it returns false'. Refute it at one input. -/
def fnExactLeastHeadWrong : ChangeSpec := { name := "fnExactLeastHead", fn := fun _ => fun
  | [d1, d2] => { results := [.lit (.bool false)], args := [d1, d2] }
  | _ => none }
def FnExactLeastHeadWrongFalsely : Prop := fnExactLeastHeadRow.holds Try.pinned (OpenSpec.ofChange fnExactLeastHeadWrong)

/-- 'laws.FnExactHoistPeriod': WHATEVER THE INPUT: true; the input reads as it did. -/
def fnExactHoistPeriodSpec : ChangeSpec := { name := "fnExactHoistPeriod", fn := fun _ => fun
  | [d1, d2, d3] => { results := [.lit (.bool true)], args := [d1, d2, d3] }
  | _ => none }
def fnExactHoistPeriodRow : OpenClaim := { program := "ythliapjnfcahlaa", sum := "2f7b25a899788f14d5494e4210e191ea90379fc4f8868fb9ad380edeab4446d1", func := "loop.example/g01389/laws.FnExactHoistPeriod", spec := "fnExactHoistPeriod", apart := false }
def FnExactHoistPeriodSaid : Prop := fnExactHoistPeriodRow.holds Try.pinned (OpenSpec.ofChange fnExactHoistPeriodSpec)

/-- ITS FALSE NEIGHBOUR: 'it returns false'. Refute it at one input. -/
def fnExactHoistPeriodWrong : ChangeSpec := { name := "fnExactHoistPeriod", fn := fun _ => fun
  | [d1, d2, d3] => { results := [.lit (.bool false)], args := [d1, d2, d3] }
  | _ => none }
def FnExactHoistPeriodWrongFalsely : Prop := fnExactHoistPeriodRow.holds Try.pinned (OpenSpec.ofChange fnExactHoistPeriodWrong)

/-- 'laws.FnExactTimesOf': WHATEVER THE INPUT: true; the input reads as it did. -/
def fnExactTimesOfSpec : ChangeSpec := { name := "fnExactTimesOf", fn := fun _ => fun
  | [d1, d2, d3, d4] => { results := [.lit (.bool true)], args := [d1, d2, d3, d4] }
  | _ => none }
def fnExactTimesOfRow : OpenClaim := { program := "ythliapjnfcahlaa", sum := "2f7b25a899788f14d5494e4210e191ea90379fc4f8868fb9ad380edeab4446d1", func := "loop.example/g01389/laws.FnExactTimesOf", spec := "fnExactTimesOf", unfollowed := true, recurses := true, apart := false }
def FnExactTimesOfSaid : Prop := fnExactTimesOfRow.holds Try.pinned (OpenSpec.ofChange fnExactTimesOfSpec)

/-- ITS FALSE NEIGHBOUR: 'it returns false'. Refute it at one input. -/
def fnExactTimesOfWrong : ChangeSpec := { name := "fnExactTimesOf", fn := fun _ => fun
  | [d1, d2, d3, d4] => { results := [.lit (.bool false)], args := [d1, d2, d3, d4] }
  | _ => none }
def FnExactTimesOfWrongFalsely : Prop := fnExactTimesOfRow.holds Try.pinned (OpenSpec.ofChange fnExactTimesOfWrong)

/- THE SECOND FORM. 'bulk': how many values and letters a reading holds, each counted each time it is reached (what is shared counts as often as it is met; a slice's spare places count too). A statement '..UptoSaid' is the law's where the arguments, and the package variables that the reading takes, are together of bulk at most 1048576: NARROWER than '..Said'. Prove '..Said' where nothing that the law and all that it calls make is longer than what came in: it says more and counts as full. Else prove '..UptoSaid'. A law counts once. -/
mutual
def uptoBulk {H : Type} : DataW H → Nat
  | .lit (.string bytes) => bytes.length + 1
  | .lit _ => 1
  | .nil => 1
  | .ptr d => uptoBulk d + 1
  | .slice elems spare => uptoBulkAll elems + uptoBulkAll spare + 1
  | .agg parts => uptoBulkAll parts + 1
  | .iface _ d => uptoBulk d + 1
  | .map entries => uptoBulkEntries entries + 1
  | .held _ => 1
def uptoBulkAll {H : Type} : List (DataW H) → Nat
  | [] => 0
  | d :: r => uptoBulk d + uptoBulkAll r
def uptoBulkEntries {H : Type} : List (Lit × DataW H) → Nat
  | [] => 0
  | x :: r => uptoBulkEntry x + uptoBulkEntries r
def uptoBulkEntry {H : Type} : Lit × DataW H → Nat
  | (.string bytes, d) => bytes.length + uptoBulk d + 1
  | (_, d) => uptoBulk d + 1
 end
def uptoSmall : (H : Type) → List (DataW H) → Bool := fun _ ds => decide (uptoBulkAll ds ≤ 1048576)
def OpenSpec.upto (s : _root_.Go.ChangeSpec) : _root_.Go.OpenSpec := { _root_.Go.OpenSpec.ofChange s with cond := some uptoSmall }

/-- 'laws.FnExactAreArcs', WHERE WHAT IT READS IS OF BULK AT MOST 1048576: true; the input reads as it did. -/
def fnExactAreArcsUptoRow : OpenClaim := { program := "ythliapjnfcahlaa", sum := "2f7b25a899788f14d5494e4210e191ea90379fc4f8868fb9ad380edeab4446d1", func := "loop.example/g01389/laws.FnExactAreArcs", spec := "fnExactAreArcs", unfollowed := true, recurses := true, apart := false, narrowed := true }
def FnExactAreArcsUptoSaid : Prop := fnExactAreArcsUptoRow.holds Try.pinned (OpenSpec.upto fnExactAreArcsSpec)

/-- 'laws.FnExactSameArcs', WHERE WHAT IT READS IS OF BULK AT MOST 1048576: true; the input reads as it did. -/
def fnExactSameArcsUptoRow : OpenClaim := { program := "ythliapjnfcahlaa", sum := "2f7b25a899788f14d5494e4210e191ea90379fc4f8868fb9ad380edeab4446d1", func := "loop.example/g01389/laws.FnExactSameArcs", spec := "fnExactSameArcs", apart := false, narrowed := true }
def FnExactSameArcsUptoSaid : Prop := fnExactSameArcsUptoRow.holds Try.pinned (OpenSpec.upto fnExactSameArcsSpec)

/-- 'laws.FnExactAreRules', WHERE WHAT IT READS IS OF BULK AT MOST 1048576: true; the input reads as it did. -/
def fnExactAreRulesUptoRow : OpenClaim := { program := "ythliapjnfcahlaa", sum := "2f7b25a899788f14d5494e4210e191ea90379fc4f8868fb9ad380edeab4446d1", func := "loop.example/g01389/laws.FnExactAreRules", spec := "fnExactAreRules", unfollowed := true, recurses := true, apart := false, narrowed := true }
def FnExactAreRulesUptoSaid : Prop := fnExactAreRulesUptoRow.holds Try.pinned (OpenSpec.upto fnExactAreRulesSpec)

/-- 'laws.FnExactSameRules', WHERE WHAT IT READS IS OF BULK AT MOST 1048576: true; the input reads as it did. -/
def fnExactSameRulesUptoRow : OpenClaim := { program := "ythliapjnfcahlaa", sum := "2f7b25a899788f14d5494e4210e191ea90379fc4f8868fb9ad380edeab4446d1", func := "loop.example/g01389/laws.FnExactSameRules", spec := "fnExactSameRules", apart := false, narrowed := true }
def FnExactSameRulesUptoSaid : Prop := fnExactSameRulesUptoRow.holds Try.pinned (OpenSpec.upto fnExactSameRulesSpec)

/-- 'laws.FnExactKeepsRules', WHERE WHAT IT READS IS OF BULK AT MOST 1048576: true; the input reads as it did. -/
def fnExactKeepsRulesUptoRow : OpenClaim := { program := "ythliapjnfcahlaa", sum := "2f7b25a899788f14d5494e4210e191ea90379fc4f8868fb9ad380edeab4446d1", func := "loop.example/g01389/laws.FnExactKeepsRules", spec := "fnExactKeepsRules", unfollowed := true, recurses := true, apart := false, narrowed := true }
def FnExactKeepsRulesUptoSaid : Prop := fnExactKeepsRulesUptoRow.holds Try.pinned (OpenSpec.upto fnExactKeepsRulesSpec)

/-- 'laws.FnExactRingGap', WHERE WHAT IT READS IS OF BULK AT MOST 1048576: true; the input reads as it did. -/
def fnExactRingGapUptoRow : OpenClaim := { program := "ythliapjnfcahlaa", sum := "2f7b25a899788f14d5494e4210e191ea90379fc4f8868fb9ad380edeab4446d1", func := "loop.example/g01389/laws.FnExactRingGap", spec := "fnExactRingGap", unfollowed := true, recurses := true, apart := false, narrowed := true }
def FnExactRingGapUptoSaid : Prop := fnExactRingGapUptoRow.holds Try.pinned (OpenSpec.upto fnExactRingGapSpec)

/-- 'laws.FnExactTurnTable', WHERE WHAT IT READS IS OF BULK AT MOST 1048576: true; the input reads as it did. -/
def fnExactTurnTableUptoRow : OpenClaim := { program := "ythliapjnfcahlaa", sum := "2f7b25a899788f14d5494e4210e191ea90379fc4f8868fb9ad380edeab4446d1", func := "loop.example/g01389/laws.FnExactTurnTable", spec := "fnExactTurnTable", apart := false, narrowed := true }
def FnExactTurnTableUptoSaid : Prop := fnExactTurnTableUptoRow.holds Try.pinned (OpenSpec.upto fnExactTurnTableSpec)

/-- 'laws.FnExactSpreadDelays', WHERE WHAT IT READS IS OF BULK AT MOST 1048576: true; the input reads as it did. -/
def fnExactSpreadDelaysUptoRow : OpenClaim := { program := "ythliapjnfcahlaa", sum := "2f7b25a899788f14d5494e4210e191ea90379fc4f8868fb9ad380edeab4446d1", func := "loop.example/g01389/laws.FnExactSpreadDelays", spec := "fnExactSpreadDelays", unfollowed := true, recurses := true, apart := false, narrowed := true }
def FnExactSpreadDelaysUptoSaid : Prop := fnExactSpreadDelaysUptoRow.holds Try.pinned (OpenSpec.upto fnExactSpreadDelaysSpec)

/-- 'laws.FnExactBlockTimes', WHERE WHAT IT READS IS OF BULK AT MOST 1048576: true; the input reads as it did. -/
def fnExactBlockTimesUptoRow : OpenClaim := { program := "ythliapjnfcahlaa", sum := "2f7b25a899788f14d5494e4210e191ea90379fc4f8868fb9ad380edeab4446d1", func := "loop.example/g01389/laws.FnExactBlockTimes", spec := "fnExactBlockTimes", apart := false, narrowed := true }
def FnExactBlockTimesUptoSaid : Prop := fnExactBlockTimesUptoRow.holds Try.pinned (OpenSpec.upto fnExactBlockTimesSpec)

/-- 'laws.FnExactLeastHead', WHERE WHAT IT READS IS OF BULK AT MOST 1048576: true; the input reads as it did. -/
def fnExactLeastHeadUptoRow : OpenClaim := { program := "ythliapjnfcahlaa", sum := "2f7b25a899788f14d5494e4210e191ea90379fc4f8868fb9ad380edeab4446d1", func := "loop.example/g01389/laws.FnExactLeastHead", spec := "fnExactLeastHead", apart := false, narrowed := true }
def FnExactLeastHeadUptoSaid : Prop := fnExactLeastHeadUptoRow.holds Try.pinned (OpenSpec.upto fnExactLeastHeadSpec)

/-- 'laws.FnExactHoistPeriod', WHERE WHAT IT READS IS OF BULK AT MOST 1048576: true; the input reads as it did. -/
def fnExactHoistPeriodUptoRow : OpenClaim := { program := "ythliapjnfcahlaa", sum := "2f7b25a899788f14d5494e4210e191ea90379fc4f8868fb9ad380edeab4446d1", func := "loop.example/g01389/laws.FnExactHoistPeriod", spec := "fnExactHoistPeriod", apart := false, narrowed := true }
def FnExactHoistPeriodUptoSaid : Prop := fnExactHoistPeriodUptoRow.holds Try.pinned (OpenSpec.upto fnExactHoistPeriodSpec)

/-- 'laws.FnExactTimesOf', WHERE WHAT IT READS IS OF BULK AT MOST 1048576: true; the input reads as it did. -/
def fnExactTimesOfUptoRow : OpenClaim := { program := "ythliapjnfcahlaa", sum := "2f7b25a899788f14d5494e4210e191ea90379fc4f8868fb9ad380edeab4446d1", func := "loop.example/g01389/laws.FnExactTimesOf", spec := "fnExactTimesOf", unfollowed := true, recurses := true, apart := false, narrowed := true }
def FnExactTimesOfUptoSaid : Prop := fnExactTimesOfUptoRow.holds Try.pinned (OpenSpec.upto fnExactTimesOfSpec)

end Rows
end Go.Proofs.Ythliapjnfcahlaa
