/-
  No cell of these rows narrows 'for every input' (looked for: loops, veiled, ifaces, maps, wideKeys, modest, calm, conditions, laid).
  DERIVED. THE GIVEN ROWS OF THIS SEAT. 11 by the template 'for every input the law returns true; each argument reads behind the call as it read before'; 0 by the template 'total and deterministic' (their statements: YtcpfiledegnlpaaTotals.lean).
  GIVEN WITH THE SEED: the statements are not yours to turn. If you find one false, say at which input.
  Laid BY PROGRAM, IN A SANDBOX (cutbox-rows.mjs): the forced cells as the released guide's own fill.sh prints them over the translation 2c1a4969ae12631f… (all of the seat's roots in one cut). By AI agents, Wed Nov 11 2026. No macro, syntax, notation, axiom, sorry.
-/
import Derived.Test.YtcpfiledegnlpaaChecked
import GoSem.Claim
import GoSem.ClaimJoined
import GoSem.ClaimMapViews
import Derived.JoinedTies
import Derived.KernelRfl
namespace Go.Proofs.Ytcpfiledegnlpaa
/- THE CELL 'sum', in the pinned program and in every row, IS THE sha256 OF THE DUMP (.gsa) THAT YtcpfiledegnlpaaProg.lean LOADS. Nothing in Lean hashes anything: it is a label: what it is worth is what the hold of that sum in a sandbox is worth. -/
noncomputable def Try.pinned : Pinned := { name := "ytcpfiledegnlpaa", sum := "2c1a4969ae12631fc551c98e007f7483226a209afd1979c36fb7d6988ebf5653", checked := Try.checked }
namespace Rows
def none {H : Type} : Left H := { results := [], args := [] }

/-- 'laws.FnExactAreTrips': WHATEVER THE INPUT: true; the input reads as it did. -/
def fnExactAreTripsSpec : ChangeSpec := { name := "fnExactAreTrips", fn := fun _ => fun
  | [d] => { results := [.lit (.bool true)], args := [d] }
  | _ => none }
def fnExactAreTripsRow : OpenClaim := { program := "ytcpfiledegnlpaa", sum := "2c1a4969ae12631fc551c98e007f7483226a209afd1979c36fb7d6988ebf5653", func := "loop.example/g01389/laws.FnExactAreTrips", spec := "fnExactAreTrips", unfollowed := true, recurses := true, apart := false }
def FnExactAreTripsSaid : Prop := fnExactAreTripsRow.holds Try.pinned (OpenSpec.ofChange fnExactAreTripsSpec)

/-- ITS FALSE NEIGHBOUR: 'it returns false'. Refute it at one input. -/
def fnExactAreTripsWrong : ChangeSpec := { name := "fnExactAreTrips", fn := fun _ => fun
  | [d] => { results := [.lit (.bool false)], args := [d] }
  | _ => none }
def FnExactAreTripsWrongFalsely : Prop := fnExactAreTripsRow.holds Try.pinned (OpenSpec.ofChange fnExactAreTripsWrong)

/-- 'laws.FnExactSameTrips': WHATEVER THE INPUT: true; the input reads as it did. -/
def fnExactSameTripsSpec : ChangeSpec := { name := "fnExactSameTrips", fn := fun _ => fun
  | [d1, d2] => { results := [.lit (.bool true)], args := [d1, d2] }
  | _ => none }
def fnExactSameTripsRow : OpenClaim := { program := "ytcpfiledegnlpaa", sum := "2c1a4969ae12631fc551c98e007f7483226a209afd1979c36fb7d6988ebf5653", func := "loop.example/g01389/laws.FnExactSameTrips", spec := "fnExactSameTrips", apart := false }
def FnExactSameTripsSaid : Prop := fnExactSameTripsRow.holds Try.pinned (OpenSpec.ofChange fnExactSameTripsSpec)

/-- ITS FALSE NEIGHBOUR: 'it returns false'. Refute it at one input. -/
def fnExactSameTripsWrong : ChangeSpec := { name := "fnExactSameTrips", fn := fun _ => fun
  | [d1, d2] => { results := [.lit (.bool false)], args := [d1, d2] }
  | _ => none }
def FnExactSameTripsWrongFalsely : Prop := fnExactSameTripsRow.holds Try.pinned (OpenSpec.ofChange fnExactSameTripsWrong)

/-- 'laws.FnExactAreMoves': WHATEVER THE INPUT: true; the input reads as it did. -/
def fnExactAreMovesSpec : ChangeSpec := { name := "fnExactAreMoves", fn := fun _ => fun
  | [d] => { results := [.lit (.bool true)], args := [d] }
  | _ => none }
def fnExactAreMovesRow : OpenClaim := { program := "ytcpfiledegnlpaa", sum := "2c1a4969ae12631fc551c98e007f7483226a209afd1979c36fb7d6988ebf5653", func := "loop.example/g01389/laws.FnExactAreMoves", spec := "fnExactAreMoves", apart := false }
def FnExactAreMovesSaid : Prop := fnExactAreMovesRow.holds Try.pinned (OpenSpec.ofChange fnExactAreMovesSpec)

/-- ITS FALSE NEIGHBOUR: 'it returns false'. Refute it at one input. -/
def fnExactAreMovesWrong : ChangeSpec := { name := "fnExactAreMoves", fn := fun _ => fun
  | [d] => { results := [.lit (.bool false)], args := [d] }
  | _ => none }
def FnExactAreMovesWrongFalsely : Prop := fnExactAreMovesRow.holds Try.pinned (OpenSpec.ofChange fnExactAreMovesWrong)

/-- 'laws.FnExactCanFollow': WHATEVER THE INPUT: true; the input reads as it did. -/
def fnExactCanFollowSpec : ChangeSpec := { name := "fnExactCanFollow", fn := fun _ => fun
  | [d1, d2] => { results := [.lit (.bool true)], args := [d1, d2] }
  | _ => none }
def fnExactCanFollowRow : OpenClaim := { program := "ytcpfiledegnlpaa", sum := "2c1a4969ae12631fc551c98e007f7483226a209afd1979c36fb7d6988ebf5653", func := "loop.example/g01389/laws.FnExactCanFollow", spec := "fnExactCanFollow", unfollowed := true, recurses := true, apart := false }
def FnExactCanFollowSaid : Prop := fnExactCanFollowRow.holds Try.pinned (OpenSpec.ofChange fnExactCanFollowSpec)

/-- ITS FALSE NEIGHBOUR: 'it returns false'. Refute it at one input. -/
def fnExactCanFollowWrong : ChangeSpec := { name := "fnExactCanFollow", fn := fun _ => fun
  | [d1, d2] => { results := [.lit (.bool false)], args := [d1, d2] }
  | _ => none }
def FnExactCanFollowWrongFalsely : Prop := fnExactCanFollowRow.holds Try.pinned (OpenSpec.ofChange fnExactCanFollowWrong)

/-- 'laws.FnExactVehicleBound': WHATEVER THE INPUT: true; the input reads as it did. -/
def fnExactVehicleBoundSpec : ChangeSpec := { name := "fnExactVehicleBound", fn := fun _ => fun
  | [d] => { results := [.lit (.bool true)], args := [d] }
  | _ => none }
def fnExactVehicleBoundRow : OpenClaim := { program := "ytcpfiledegnlpaa", sum := "2c1a4969ae12631fc551c98e007f7483226a209afd1979c36fb7d6988ebf5653", func := "loop.example/g01389/laws.FnExactVehicleBound", spec := "fnExactVehicleBound", unfollowed := true, recurses := true, apart := false }
def FnExactVehicleBoundSaid : Prop := fnExactVehicleBoundRow.holds Try.pinned (OpenSpec.ofChange fnExactVehicleBoundSpec)

/-- ITS FALSE NEIGHBOUR: 'it returns false'. Refute it at one input. -/
def fnExactVehicleBoundWrong : ChangeSpec := { name := "fnExactVehicleBound", fn := fun _ => fun
  | [d] => { results := [.lit (.bool false)], args := [d] }
  | _ => none }
def FnExactVehicleBoundWrongFalsely : Prop := fnExactVehicleBoundRow.holds Try.pinned (OpenSpec.ofChange fnExactVehicleBoundWrong)

/-- 'laws.FnExactValidRule': WHATEVER THE INPUT: true; the input reads as it did. -/
def fnExactValidRuleSpec : ChangeSpec := { name := "fnExactValidRule", fn := fun _ => fun
  | [d] => { results := [.lit (.bool true)], args := [d] }
  | _ => none }
def fnExactValidRuleRow : OpenClaim := { program := "ytcpfiledegnlpaa", sum := "2c1a4969ae12631fc551c98e007f7483226a209afd1979c36fb7d6988ebf5653", func := "loop.example/g01389/laws.FnExactValidRule", spec := "fnExactValidRule", apart := false }
def FnExactValidRuleSaid : Prop := fnExactValidRuleRow.holds Try.pinned (OpenSpec.ofChange fnExactValidRuleSpec)

/-- ITS FALSE NEIGHBOUR: 'it returns false'. Refute it at one input. -/
def fnExactValidRuleWrong : ChangeSpec := { name := "fnExactValidRule", fn := fun _ => fun
  | [d] => { results := [.lit (.bool false)], args := [d] }
  | _ => none }
def FnExactValidRuleWrongFalsely : Prop := fnExactValidRuleRow.holds Try.pinned (OpenSpec.ofChange fnExactValidRuleWrong)

/-- 'laws.FnExactSameRule': WHATEVER THE INPUT: true; the input reads as it did. -/
def fnExactSameRuleSpec : ChangeSpec := { name := "fnExactSameRule", fn := fun _ => fun
  | [d1, d2] => { results := [.lit (.bool true)], args := [d1, d2] }
  | _ => none }
def fnExactSameRuleRow : OpenClaim := { program := "ytcpfiledegnlpaa", sum := "2c1a4969ae12631fc551c98e007f7483226a209afd1979c36fb7d6988ebf5653", func := "loop.example/g01389/laws.FnExactSameRule", spec := "fnExactSameRule", apart := false }
def FnExactSameRuleSaid : Prop := fnExactSameRuleRow.holds Try.pinned (OpenSpec.ofChange fnExactSameRuleSpec)

/-- ITS FALSE NEIGHBOUR: 'it returns false'. Refute it at one input. -/
def fnExactSameRuleWrong : ChangeSpec := { name := "fnExactSameRule", fn := fun _ => fun
  | [d1, d2] => { results := [.lit (.bool false)], args := [d1, d2] }
  | _ => none }
def FnExactSameRuleWrongFalsely : Prop := fnExactSameRuleRow.holds Try.pinned (OpenSpec.ofChange fnExactSameRuleWrong)

/-- 'laws.FnExactIsShift': WHATEVER THE INPUT: true; the input reads as it did. -/
def fnExactIsShiftSpec : ChangeSpec := { name := "fnExactIsShift", fn := fun _ => fun
  | [d1, d2] => { results := [.lit (.bool true)], args := [d1, d2] }
  | _ => none }
def fnExactIsShiftRow : OpenClaim := { program := "ytcpfiledegnlpaa", sum := "2c1a4969ae12631fc551c98e007f7483226a209afd1979c36fb7d6988ebf5653", func := "loop.example/g01389/laws.FnExactIsShift", spec := "fnExactIsShift", unfollowed := true, recurses := true, apart := false }
def FnExactIsShiftSaid : Prop := fnExactIsShiftRow.holds Try.pinned (OpenSpec.ofChange fnExactIsShiftSpec)

/-- ITS FALSE NEIGHBOUR: 'it returns false'. Refute it at one input. -/
def fnExactIsShiftWrong : ChangeSpec := { name := "fnExactIsShift", fn := fun _ => fun
  | [d1, d2] => { results := [.lit (.bool false)], args := [d1, d2] }
  | _ => none }
def FnExactIsShiftWrongFalsely : Prop := fnExactIsShiftRow.holds Try.pinned (OpenSpec.ofChange fnExactIsShiftWrong)

/-- 'laws.FnExactCoverOf': WHATEVER THE INPUT: true; the input reads as it did. -/
def fnExactCoverOfSpec : ChangeSpec := { name := "fnExactCoverOf", fn := fun _ => fun
  | [d1, d2] => { results := [.lit (.bool true)], args := [d1, d2] }
  | _ => none }
def fnExactCoverOfRow : OpenClaim := { program := "ytcpfiledegnlpaa", sum := "2c1a4969ae12631fc551c98e007f7483226a209afd1979c36fb7d6988ebf5653", func := "loop.example/g01389/laws.FnExactCoverOf", spec := "fnExactCoverOf", unfollowed := true, recurses := true, apart := false }
def FnExactCoverOfSaid : Prop := fnExactCoverOfRow.holds Try.pinned (OpenSpec.ofChange fnExactCoverOfSpec)

/-- ITS FALSE NEIGHBOUR: 'it returns false'. Refute it at one input. -/
def fnExactCoverOfWrong : ChangeSpec := { name := "fnExactCoverOf", fn := fun _ => fun
  | [d1, d2] => { results := [.lit (.bool false)], args := [d1, d2] }
  | _ => none }
def FnExactCoverOfWrongFalsely : Prop := fnExactCoverOfRow.holds Try.pinned (OpenSpec.ofChange fnExactCoverOfWrong)

/-- 'laws.FnExactOnCalls': WHATEVER THE INPUT: true; the input reads as it did. -/
def fnExactOnCallsSpec : ChangeSpec := { name := "fnExactOnCalls", fn := fun _ => fun
  | [d1, d2, d3] => { results := [.lit (.bool true)], args := [d1, d2, d3] }
  | _ => none }
def fnExactOnCallsRow : OpenClaim := { program := "ytcpfiledegnlpaa", sum := "2c1a4969ae12631fc551c98e007f7483226a209afd1979c36fb7d6988ebf5653", func := "loop.example/g01389/laws.FnExactOnCalls", spec := "fnExactOnCalls", apart := false }
def FnExactOnCallsSaid : Prop := fnExactOnCallsRow.holds Try.pinned (OpenSpec.ofChange fnExactOnCallsSpec)

/-- ITS FALSE NEIGHBOUR: 'it returns false'. Refute it at one input. -/
def fnExactOnCallsWrong : ChangeSpec := { name := "fnExactOnCalls", fn := fun _ => fun
  | [d1, d2, d3] => { results := [.lit (.bool false)], args := [d1, d2, d3] }
  | _ => none }
def FnExactOnCallsWrongFalsely : Prop := fnExactOnCallsRow.holds Try.pinned (OpenSpec.ofChange fnExactOnCallsWrong)

/-- 'laws.FnExactRosterRuns': WHATEVER THE INPUT: true; the input reads as it did. -/
def fnExactRosterRunsSpec : ChangeSpec := { name := "fnExactRosterRuns", fn := fun _ => fun
  | [d] => { results := [.lit (.bool true)], args := [d] }
  | _ => none }
def fnExactRosterRunsRow : OpenClaim := { program := "ytcpfiledegnlpaa", sum := "2c1a4969ae12631fc551c98e007f7483226a209afd1979c36fb7d6988ebf5653", func := "loop.example/g01389/laws.FnExactRosterRuns", spec := "fnExactRosterRuns", unfollowed := true, recurses := true, apart := false }
def FnExactRosterRunsSaid : Prop := fnExactRosterRunsRow.holds Try.pinned (OpenSpec.ofChange fnExactRosterRunsSpec)

/-- ITS FALSE NEIGHBOUR: 'it returns false'. Refute it at one input. -/
def fnExactRosterRunsWrong : ChangeSpec := { name := "fnExactRosterRuns", fn := fun _ => fun
  | [d] => { results := [.lit (.bool false)], args := [d] }
  | _ => none }
def FnExactRosterRunsWrongFalsely : Prop := fnExactRosterRunsRow.holds Try.pinned (OpenSpec.ofChange fnExactRosterRunsWrong)

/- THE SECOND FORM. 'bulk': how many values and letters a reading holds, each counted each time it is reached (what is shared counts as often as it is met; a slice's spare places count too). A statement '..UptoSaid' is the law's where the arguments, and the package variables that the reading takes, are together of bulk at most 1048576: NARROWER than '..Said'. Prove '..Said' where nothing that the law and all that it calls make is longer than what came in: it says more and counts as full. Else prove '..UptoSaid'. A law counts once. -/
mutual
def uptoBulk {H : Type} : DataW H → Nat
  | .lit (.string bytes) => bytes.length + 1
  | .lit _ => 1
  | .nil => 1
  | .ptr d => uptoBulk d + 1
  | .slice elems spare => uptoBulkAll elems + uptoBulkAll spare + 1
  | .agg parts => uptoBulkAll parts + 1
  | .iface _ d => uptoBulk d + 1
  | .map entries => uptoBulkEntries entries + 1
  | .held _ => 1
def uptoBulkAll {H : Type} : List (DataW H) → Nat
  | [] => 0
  | d :: r => uptoBulk d + uptoBulkAll r
def uptoBulkEntries {H : Type} : List (Lit × DataW H) → Nat
  | [] => 0
  | x :: r => uptoBulkEntry x + uptoBulkEntries r
def uptoBulkEntry {H : Type} : Lit × DataW H → Nat
  | (.string bytes, d) => bytes.length + uptoBulk d + 1
  | (_, d) => uptoBulk d + 1
 end
def uptoSmall : (H : Type) → List (DataW H) → Bool := fun _ ds => decide (uptoBulkAll ds ≤ 1048576)
def OpenSpec.upto (s : _root_.Go.ChangeSpec) : _root_.Go.OpenSpec := { _root_.Go.OpenSpec.ofChange s with cond := some uptoSmall }

/-- 'laws.FnExactAreTrips', WHERE WHAT IT READS IS OF BULK AT MOST 1048576: true; the input reads as it did. -/
def fnExactAreTripsUptoRow : OpenClaim := { program := "ytcpfiledegnlpaa", sum := "2c1a4969ae12631fc551c98e007f7483226a209afd1979c36fb7d6988ebf5653", func := "loop.example/g01389/laws.FnExactAreTrips", spec := "fnExactAreTrips", unfollowed := true, recurses := true, apart := false, narrowed := true }
def FnExactAreTripsUptoSaid : Prop := fnExactAreTripsUptoRow.holds Try.pinned (OpenSpec.upto fnExactAreTripsSpec)

/-- 'laws.FnExactSameTrips', WHERE WHAT IT READS IS OF BULK AT MOST 1048576: true; the input reads as it did. -/
def fnExactSameTripsUptoRow : OpenClaim := { program := "ytcpfiledegnlpaa", sum := "2c1a4969ae12631fc551c98e007f7483226a209afd1979c36fb7d6988ebf5653", func := "loop.example/g01389/laws.FnExactSameTrips", spec := "fnExactSameTrips", apart := false, narrowed := true }
def FnExactSameTripsUptoSaid : Prop := fnExactSameTripsUptoRow.holds Try.pinned (OpenSpec.upto fnExactSameTripsSpec)

/-- 'laws.FnExactAreMoves', WHERE WHAT IT READS IS OF BULK AT MOST 1048576: true; the input reads as it did. -/
def fnExactAreMovesUptoRow : OpenClaim := { program := "ytcpfiledegnlpaa", sum := "2c1a4969ae12631fc551c98e007f7483226a209afd1979c36fb7d6988ebf5653", func := "loop.example/g01389/laws.FnExactAreMoves", spec := "fnExactAreMoves", apart := false, narrowed := true }
def FnExactAreMovesUptoSaid : Prop := fnExactAreMovesUptoRow.holds Try.pinned (OpenSpec.upto fnExactAreMovesSpec)

/-- 'laws.FnExactCanFollow', WHERE WHAT IT READS IS OF BULK AT MOST 1048576: true; the input reads as it did. -/
def fnExactCanFollowUptoRow : OpenClaim := { program := "ytcpfiledegnlpaa", sum := "2c1a4969ae12631fc551c98e007f7483226a209afd1979c36fb7d6988ebf5653", func := "loop.example/g01389/laws.FnExactCanFollow", spec := "fnExactCanFollow", unfollowed := true, recurses := true, apart := false, narrowed := true }
def FnExactCanFollowUptoSaid : Prop := fnExactCanFollowUptoRow.holds Try.pinned (OpenSpec.upto fnExactCanFollowSpec)

/-- 'laws.FnExactVehicleBound', WHERE WHAT IT READS IS OF BULK AT MOST 1048576: true; the input reads as it did. -/
def fnExactVehicleBoundUptoRow : OpenClaim := { program := "ytcpfiledegnlpaa", sum := "2c1a4969ae12631fc551c98e007f7483226a209afd1979c36fb7d6988ebf5653", func := "loop.example/g01389/laws.FnExactVehicleBound", spec := "fnExactVehicleBound", unfollowed := true, recurses := true, apart := false, narrowed := true }
def FnExactVehicleBoundUptoSaid : Prop := fnExactVehicleBoundUptoRow.holds Try.pinned (OpenSpec.upto fnExactVehicleBoundSpec)

/-- 'laws.FnExactValidRule', WHERE WHAT IT READS IS OF BULK AT MOST 1048576: true; the input reads as it did. -/
def fnExactValidRuleUptoRow : OpenClaim := { program := "ytcpfiledegnlpaa", sum := "2c1a4969ae12631fc551c98e007f7483226a209afd1979c36fb7d6988ebf5653", func := "loop.example/g01389/laws.FnExactValidRule", spec := "fnExactValidRule", apart := false, narrowed := true }
def FnExactValidRuleUptoSaid : Prop := fnExactValidRuleUptoRow.holds Try.pinned (OpenSpec.upto fnExactValidRuleSpec)

/-- 'laws.FnExactSameRule', WHERE WHAT IT READS IS OF BULK AT MOST 1048576: true; the input reads as it did. -/
def fnExactSameRuleUptoRow : OpenClaim := { program := "ytcpfiledegnlpaa", sum := "2c1a4969ae12631fc551c98e007f7483226a209afd1979c36fb7d6988ebf5653", func := "loop.example/g01389/laws.FnExactSameRule", spec := "fnExactSameRule", apart := false, narrowed := true }
def FnExactSameRuleUptoSaid : Prop := fnExactSameRuleUptoRow.holds Try.pinned (OpenSpec.upto fnExactSameRuleSpec)

/-- 'laws.FnExactIsShift', WHERE WHAT IT READS IS OF BULK AT MOST 1048576: true; the input reads as it did. -/
def fnExactIsShiftUptoRow : OpenClaim := { program := "ytcpfiledegnlpaa", sum := "2c1a4969ae12631fc551c98e007f7483226a209afd1979c36fb7d6988ebf5653", func := "loop.example/g01389/laws.FnExactIsShift", spec := "fnExactIsShift", unfollowed := true, recurses := true, apart := false, narrowed := true }
def FnExactIsShiftUptoSaid : Prop := fnExactIsShiftUptoRow.holds Try.pinned (OpenSpec.upto fnExactIsShiftSpec)

/-- 'laws.FnExactCoverOf', WHERE WHAT IT READS IS OF BULK AT MOST 1048576: true; the input reads as it did. -/
def fnExactCoverOfUptoRow : OpenClaim := { program := "ytcpfiledegnlpaa", sum := "2c1a4969ae12631fc551c98e007f7483226a209afd1979c36fb7d6988ebf5653", func := "loop.example/g01389/laws.FnExactCoverOf", spec := "fnExactCoverOf", unfollowed := true, recurses := true, apart := false, narrowed := true }
def FnExactCoverOfUptoSaid : Prop := fnExactCoverOfUptoRow.holds Try.pinned (OpenSpec.upto fnExactCoverOfSpec)

/-- 'laws.FnExactOnCalls', WHERE WHAT IT READS IS OF BULK AT MOST 1048576: true; the input reads as it did. -/
def fnExactOnCallsUptoRow : OpenClaim := { program := "ytcpfiledegnlpaa", sum := "2c1a4969ae12631fc551c98e007f7483226a209afd1979c36fb7d6988ebf5653", func := "loop.example/g01389/laws.FnExactOnCalls", spec := "fnExactOnCalls", apart := false, narrowed := true }
def FnExactOnCallsUptoSaid : Prop := fnExactOnCallsUptoRow.holds Try.pinned (OpenSpec.upto fnExactOnCallsSpec)

/-- 'laws.FnExactRosterRuns', WHERE WHAT IT READS IS OF BULK AT MOST 1048576: true; the input reads as it did. -/
def fnExactRosterRunsUptoRow : OpenClaim := { program := "ytcpfiledegnlpaa", sum := "2c1a4969ae12631fc551c98e007f7483226a209afd1979c36fb7d6988ebf5653", func := "loop.example/g01389/laws.FnExactRosterRuns", spec := "fnExactRosterRuns", unfollowed := true, recurses := true, apart := false, narrowed := true }
def FnExactRosterRunsUptoSaid : Prop := fnExactRosterRunsUptoRow.holds Try.pinned (OpenSpec.upto fnExactRosterRunsSpec)

end Rows
end Go.Proofs.Ytcpfiledegnlpaa
