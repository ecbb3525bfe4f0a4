/-
  No cell of these rows narrows 'for every input' (looked for: loops, veiled, ifaces, maps, wideKeys, modest, calm, conditions, laid).
  DERIVED. THE GIVEN ROWS OF THIS SEAT. 12 by the template 'for every input the law returns true; each argument reads behind the call as it read before'; 0 by the template 'total and deterministic' (their statements: YtpnndajfaghaaaaTotals.lean).
  GIVEN WITH THE SEED: the statements are not yours to turn. If you find one false, say at which input.
  Laid BY PROGRAM, IN A SANDBOX (cutbox-rows.mjs): the forced cells as the released guide's own fill.sh prints them over the translation ed75efb0b656631d… (all of the seat's roots in one cut). By AI agents, Wed Nov 11 2026. No macro, syntax, notation, axiom, sorry.
-/
import Derived.Test.YtpnndajfaghaaaaChecked
import GoSem.Claim
import GoSem.ClaimJoined
import GoSem.ClaimMapViews
import Derived.JoinedTies
import Derived.KernelRfl
namespace Go.Proofs.Ytpnndajfaghaaaa
/- THE CELL 'sum', in the pinned program and in every row, IS THE sha256 OF THE DUMP (.gsa) THAT YtpnndajfaghaaaaProg.lean LOADS. Nothing in Lean hashes anything: it is a label: what it is worth is what the hold of that sum in a sandbox is worth. -/
noncomputable def Try.pinned : Pinned := { name := "ytpnndajfaghaaaa", sum := "ed75efb0b656631d4f8ec61a1d645c4182a438c7b61bae8b85eee1593a28081c", checked := Try.checked }
namespace Rows
def none {H : Type} : Left H := { results := [], args := [] }

/-- 'laws.FnExactUnlikeList': WHATEVER THE INPUT: true; the input reads as it did. -/
def fnExactUnlikeListSpec : ChangeSpec := { name := "fnExactUnlikeList", fn := fun _ => fun
  | [d1, d2] => { results := [.lit (.bool true)], args := [d1, d2] }
  | _ => none }
def fnExactUnlikeListRow : OpenClaim := { program := "ytpnndajfaghaaaa", sum := "ed75efb0b656631d4f8ec61a1d645c4182a438c7b61bae8b85eee1593a28081c", func := "loop.example/g01389/laws.FnExactUnlikeList", spec := "fnExactUnlikeList", unfollowed := true, recurses := true, plainKeys := false, apart := false }
def FnExactUnlikeListSaid : Prop := fnExactUnlikeListRow.holds Try.pinned (OpenSpec.ofChange fnExactUnlikeListSpec)

/-- ITS FALSE NEIGHBOUR: 'it returns false'. Refute it at one input. -/
def fnExactUnlikeListWrong : ChangeSpec := { name := "fnExactUnlikeList", fn := fun _ => fun
  | [d1, d2] => { results := [.lit (.bool false)], args := [d1, d2] }
  | _ => none }
def FnExactUnlikeListWrongFalsely : Prop := fnExactUnlikeListRow.holds Try.pinned (OpenSpec.ofChange fnExactUnlikeListWrong)

/-- 'laws.FnExactLongestWay': WHATEVER THE INPUT: true; the input reads as it did. -/
def fnExactLongestWaySpec : ChangeSpec := { name := "fnExactLongestWay", fn := fun _ => fun
  | [d] => { results := [.lit (.bool true)], args := [d] }
  | _ => none }
def fnExactLongestWayRow : OpenClaim := { program := "ytpnndajfaghaaaa", sum := "ed75efb0b656631d4f8ec61a1d645c4182a438c7b61bae8b85eee1593a28081c", func := "loop.example/g01389/laws.FnExactLongestWay", spec := "fnExactLongestWay", unfollowed := true, recurses := true, plainKeys := false, apart := false }
def FnExactLongestWaySaid : Prop := fnExactLongestWayRow.holds Try.pinned (OpenSpec.ofChange fnExactLongestWaySpec)

/-- ITS FALSE NEIGHBOUR: 'it returns false'. Refute it at one input. -/
def fnExactLongestWayWrong : ChangeSpec := { name := "fnExactLongestWay", fn := fun _ => fun
  | [d] => { results := [.lit (.bool false)], args := [d] }
  | _ => none }
def FnExactLongestWayWrongFalsely : Prop := fnExactLongestWayRow.holds Try.pinned (OpenSpec.ofChange fnExactLongestWayWrong)

/-- 'laws.FnExactOrderPlan': WHATEVER THE INPUT: true; the input reads as it did. -/
def fnExactOrderPlanSpec : ChangeSpec := { name := "fnExactOrderPlan", fn := fun _ => fun
  | [d1, d2, d3] => { results := [.lit (.bool true)], args := [d1, d2, d3] }
  | _ => none }
def fnExactOrderPlanRow : OpenClaim := { program := "ytpnndajfaghaaaa", sum := "ed75efb0b656631d4f8ec61a1d645c4182a438c7b61bae8b85eee1593a28081c", func := "loop.example/g01389/laws.FnExactOrderPlan", spec := "fnExactOrderPlan", unfollowed := true, recurses := true, plainKeys := false, apart := false }
def FnExactOrderPlanSaid : Prop := fnExactOrderPlanRow.holds Try.pinned (OpenSpec.ofChange fnExactOrderPlanSpec)

/-- ITS FALSE NEIGHBOUR: 'it returns false'. Refute it at one input. -/
def fnExactOrderPlanWrong : ChangeSpec := { name := "fnExactOrderPlan", fn := fun _ => fun
  | [d1, d2, d3] => { results := [.lit (.bool false)], args := [d1, d2, d3] }
  | _ => none }
def FnExactOrderPlanWrongFalsely : Prop := fnExactOrderPlanRow.holds Try.pinned (OpenSpec.ofChange fnExactOrderPlanWrong)

/-- 'laws.FnExactShopStarts': WHATEVER THE INPUT: true; the input reads as it did. -/
def fnExactShopStartsSpec : ChangeSpec := { name := "fnExactShopStarts", fn := fun _ => fun
  | [d1, d2, d3, d4] => { results := [.lit (.bool true)], args := [d1, d2, d3, d4] }
  | _ => none }
def fnExactShopStartsRow : OpenClaim := { program := "ytpnndajfaghaaaa", sum := "ed75efb0b656631d4f8ec61a1d645c4182a438c7b61bae8b85eee1593a28081c", func := "loop.example/g01389/laws.FnExactShopStarts", spec := "fnExactShopStarts", unfollowed := true, recurses := true, plainKeys := false, apart := false }
def FnExactShopStartsSaid : Prop := fnExactShopStartsRow.holds Try.pinned (OpenSpec.ofChange fnExactShopStartsSpec)

/-- ITS FALSE NEIGHBOUR: 'it returns false'. Refute it at one input. -/
def fnExactShopStartsWrong : ChangeSpec := { name := "fnExactShopStarts", fn := fun _ => fun
  | [d1, d2, d3, d4] => { results := [.lit (.bool false)], args := [d1, d2, d3, d4] }
  | _ => none }
def FnExactShopStartsWrongFalsely : Prop := fnExactShopStartsRow.holds Try.pinned (OpenSpec.ofChange fnExactShopStartsWrong)

/-- 'laws.FnExactRingGap': WHATEVER THE INPUT: true; the input reads as it did. -/
def fnExactRingGapSpec : ChangeSpec := { name := "fnExactRingGap", fn := fun _ => fun
  | [d1, d2, d3, d4] => { results := [.lit (.bool true)], args := [d1, d2, d3, d4] }
  | _ => none }
def fnExactRingGapRow : OpenClaim := { program := "ytpnndajfaghaaaa", sum := "ed75efb0b656631d4f8ec61a1d645c4182a438c7b61bae8b85eee1593a28081c", func := "loop.example/g01389/laws.FnExactRingGap", spec := "fnExactRingGap", unfollowed := true, recurses := true, plainKeys := false, apart := false }
def FnExactRingGapSaid : Prop := fnExactRingGapRow.holds Try.pinned (OpenSpec.ofChange fnExactRingGapSpec)

/-- ITS FALSE NEIGHBOUR: 'it returns false'. Refute it at one input. -/
def fnExactRingGapWrong : ChangeSpec := { name := "fnExactRingGap", fn := fun _ => fun
  | [d1, d2, d3, d4] => { results := [.lit (.bool false)], args := [d1, d2, d3, d4] }
  | _ => none }
def FnExactRingGapWrongFalsely : Prop := fnExactRingGapRow.holds Try.pinned (OpenSpec.ofChange fnExactRingGapWrong)

/-- 'laws.FnExactTwoOrder': WHATEVER THE INPUT: true; the input reads as it did. -/
def fnExactTwoOrderSpec : ChangeSpec := { name := "fnExactTwoOrder", fn := fun _ => fun
  | [d] => { results := [.lit (.bool true)], args := [d] }
  | _ => none }
def fnExactTwoOrderRow : OpenClaim := { program := "ytpnndajfaghaaaa", sum := "ed75efb0b656631d4f8ec61a1d645c4182a438c7b61bae8b85eee1593a28081c", func := "loop.example/g01389/laws.FnExactTwoOrder", spec := "fnExactTwoOrder", unfollowed := true, recurses := true, plainKeys := false, apart := false }
def FnExactTwoOrderSaid : Prop := fnExactTwoOrderRow.holds Try.pinned (OpenSpec.ofChange fnExactTwoOrderSpec)

/-- ITS FALSE NEIGHBOUR: 'it returns false'. Refute it at one input. -/
def fnExactTwoOrderWrong : ChangeSpec := { name := "fnExactTwoOrder", fn := fun _ => fun
  | [d] => { results := [.lit (.bool false)], args := [d] }
  | _ => none }
def FnExactTwoOrderWrongFalsely : Prop := fnExactTwoOrderRow.holds Try.pinned (OpenSpec.ofChange fnExactTwoOrderWrong)

/-- 'laws.FnExactInsertOrder': WHATEVER THE INPUT: true; the input reads as it did. -/
def fnExactInsertOrderSpec : ChangeSpec := { name := "fnExactInsertOrder", fn := fun _ => fun
  | [d1, d2] => { results := [.lit (.bool true)], args := [d1, d2] }
  | _ => none }
def fnExactInsertOrderRow : OpenClaim := { program := "ytpnndajfaghaaaa", sum := "ed75efb0b656631d4f8ec61a1d645c4182a438c7b61bae8b85eee1593a28081c", func := "loop.example/g01389/laws.FnExactInsertOrder", spec := "fnExactInsertOrder", inPlace := ["slices.overlaps[int64]"], unfollowed := true, recurses := true, plainKeys := false, apart := false }
def FnExactInsertOrderSaid : Prop := fnExactInsertOrderRow.holds Try.pinned (OpenSpec.ofChange fnExactInsertOrderSpec)

/-- ITS FALSE NEIGHBOUR: 'it returns false'. Refute it at one input. -/
def fnExactInsertOrderWrong : ChangeSpec := { name := "fnExactInsertOrder", fn := fun _ => fun
  | [d1, d2] => { results := [.lit (.bool false)], args := [d1, d2] }
  | _ => none }
def FnExactInsertOrderWrongFalsely : Prop := fnExactInsertOrderRow.holds Try.pinned (OpenSpec.ofChange fnExactInsertOrderWrong)

/-- 'laws.FnExactIdleMoves': WHATEVER THE INPUT: true; the input reads as it did. -/
def fnExactIdleMovesSpec : ChangeSpec := { name := "fnExactIdleMoves", fn := fun _ => fun
  | [d1, d2, d3] => { results := [.lit (.bool true)], args := [d1, d2, d3] }
  | _ => none }
def fnExactIdleMovesRow : OpenClaim := { program := "ytpnndajfaghaaaa", sum := "ed75efb0b656631d4f8ec61a1d645c4182a438c7b61bae8b85eee1593a28081c", func := "loop.example/g01389/laws.FnExactIdleMoves", spec := "fnExactIdleMoves", unfollowed := true, recurses := true, plainKeys := false, apart := false }
def FnExactIdleMovesSaid : Prop := fnExactIdleMovesRow.holds Try.pinned (OpenSpec.ofChange fnExactIdleMovesSpec)

/-- ITS FALSE NEIGHBOUR: 'it returns false'. Refute it at one input. -/
def fnExactIdleMovesWrong : ChangeSpec := { name := "fnExactIdleMoves", fn := fun _ => fun
  | [d1, d2, d3] => { results := [.lit (.bool false)], args := [d1, d2, d3] }
  | _ => none }
def FnExactIdleMovesWrongFalsely : Prop := fnExactIdleMovesRow.holds Try.pinned (OpenSpec.ofChange fnExactIdleMovesWrong)

/-- 'laws.FnExactMatchSkills': WHATEVER THE INPUT: true; the input reads as it did. -/
def fnExactMatchSkillsSpec : ChangeSpec := { name := "fnExactMatchSkills", fn := fun _ => fun
  | [d1, d2] => { results := [.lit (.bool true)], args := [d1, d2] }
  | _ => none }
def fnExactMatchSkillsRow : OpenClaim := { program := "ytpnndajfaghaaaa", sum := "ed75efb0b656631d4f8ec61a1d645c4182a438c7b61bae8b85eee1593a28081c", func := "loop.example/g01389/laws.FnExactMatchSkills", spec := "fnExactMatchSkills", unfollowed := true, recurses := true, plainKeys := false, apart := false }
def FnExactMatchSkillsSaid : Prop := fnExactMatchSkillsRow.holds Try.pinned (OpenSpec.ofChange fnExactMatchSkillsSpec)

/-- ITS FALSE NEIGHBOUR: 'it returns false'. Refute it at one input. -/
def fnExactMatchSkillsWrong : ChangeSpec := { name := "fnExactMatchSkills", fn := fun _ => fun
  | [d1, d2] => { results := [.lit (.bool false)], args := [d1, d2] }
  | _ => none }
def FnExactMatchSkillsWrongFalsely : Prop := fnExactMatchSkillsRow.holds Try.pinned (OpenSpec.ofChange fnExactMatchSkillsWrong)

/-- 'laws.FnExactFewestVehicles': WHATEVER THE INPUT: true; the input reads as it did. -/
def fnExactFewestVehiclesSpec : ChangeSpec := { name := "fnExactFewestVehicles", fn := fun _ => fun
  | [d1, d2] => { results := [.lit (.bool true)], args := [d1, d2] }
  | _ => none }
def fnExactFewestVehiclesRow : OpenClaim := { program := "ytpnndajfaghaaaa", sum := "ed75efb0b656631d4f8ec61a1d645c4182a438c7b61bae8b85eee1593a28081c", func := "loop.example/g01389/laws.FnExactFewestVehicles", spec := "fnExactFewestVehicles", unfollowed := true, recurses := true, plainKeys := false, apart := false }
def FnExactFewestVehiclesSaid : Prop := fnExactFewestVehiclesRow.holds Try.pinned (OpenSpec.ofChange fnExactFewestVehiclesSpec)

/-- ITS FALSE NEIGHBOUR: 'it returns false'. Refute it at one input. -/
def fnExactFewestVehiclesWrong : ChangeSpec := { name := "fnExactFewestVehicles", fn := fun _ => fun
  | [d1, d2] => { results := [.lit (.bool false)], args := [d1, d2] }
  | _ => none }
def FnExactFewestVehiclesWrongFalsely : Prop := fnExactFewestVehiclesRow.holds Try.pinned (OpenSpec.ofChange fnExactFewestVehiclesWrong)

/-- 'laws.FnExactCountShifts': WHATEVER THE INPUT: true; the input reads as it did. -/
def fnExactCountShiftsSpec : ChangeSpec := { name := "fnExactCountShifts", fn := fun _ => fun
  | [d] => { results := [.lit (.bool true)], args := [d] }
  | _ => none }
def fnExactCountShiftsRow : OpenClaim := { program := "ytpnndajfaghaaaa", sum := "ed75efb0b656631d4f8ec61a1d645c4182a438c7b61bae8b85eee1593a28081c", func := "loop.example/g01389/laws.FnExactCountShifts", spec := "fnExactCountShifts", unfollowed := true, recurses := true, plainKeys := false, apart := false }
def FnExactCountShiftsSaid : Prop := fnExactCountShiftsRow.holds Try.pinned (OpenSpec.ofChange fnExactCountShiftsSpec)

/-- ITS FALSE NEIGHBOUR: 'it returns false'. Refute it at one input. -/
def fnExactCountShiftsWrong : ChangeSpec := { name := "fnExactCountShifts", fn := fun _ => fun
  | [d] => { results := [.lit (.bool false)], args := [d] }
  | _ => none }
def FnExactCountShiftsWrongFalsely : Prop := fnExactCountShiftsRow.holds Try.pinned (OpenSpec.ofChange fnExactCountShiftsWrong)

/-- 'laws.FnExactTripsOf': WHATEVER THE INPUT: true; the input reads as it did. -/
def fnExactTripsOfSpec : ChangeSpec := { name := "fnExactTripsOf", fn := fun _ => fun
  | [d1, d2, d3] => { results := [.lit (.bool true)], args := [d1, d2, d3] }
  | _ => none }
def fnExactTripsOfRow : OpenClaim := { program := "ytpnndajfaghaaaa", sum := "ed75efb0b656631d4f8ec61a1d645c4182a438c7b61bae8b85eee1593a28081c", func := "loop.example/g01389/laws.FnExactTripsOf", spec := "fnExactTripsOf", unfollowed := true, recurses := true, plainKeys := false, apart := false }
def FnExactTripsOfSaid : Prop := fnExactTripsOfRow.holds Try.pinned (OpenSpec.ofChange fnExactTripsOfSpec)

/-- ITS FALSE NEIGHBOUR: 'it returns false'. Refute it at one input. -/
def fnExactTripsOfWrong : ChangeSpec := { name := "fnExactTripsOf", fn := fun _ => fun
  | [d1, d2, d3] => { results := [.lit (.bool false)], args := [d1, d2, d3] }
  | _ => none }
def FnExactTripsOfWrongFalsely : Prop := fnExactTripsOfRow.holds Try.pinned (OpenSpec.ofChange fnExactTripsOfWrong)

/- THE SECOND FORM. 'bulk': how many values and letters a reading holds, each counted each time it is reached (what is shared counts as often as it is met; a slice's spare places count too). A statement '..UptoSaid' is the law's where the arguments, and the package variables that the reading takes, are together of bulk at most 1048576: NARROWER than '..Said'. Prove '..Said' where nothing that the law and all that it calls make is longer than what came in: it says more and counts as full. Else prove '..UptoSaid'. A law counts once. -/
mutual
def uptoBulk {H : Type} : DataW H → Nat
  | .lit (.string bytes) => bytes.length + 1
  | .lit _ => 1
  | .nil => 1
  | .ptr d => uptoBulk d + 1
  | .slice elems spare => uptoBulkAll elems + uptoBulkAll spare + 1
  | .agg parts => uptoBulkAll parts + 1
  | .iface _ d => uptoBulk d + 1
  | .map entries => uptoBulkEntries entries + 1
  | .held _ => 1
def uptoBulkAll {H : Type} : List (DataW H) → Nat
  | [] => 0
  | d :: r => uptoBulk d + uptoBulkAll r
def uptoBulkEntries {H : Type} : List (Lit × DataW H) → Nat
  | [] => 0
  | x :: r => uptoBulkEntry x + uptoBulkEntries r
def uptoBulkEntry {H : Type} : Lit × DataW H → Nat
  | (.string bytes, d) => bytes.length + uptoBulk d + 1
  | (_, d) => uptoBulk d + 1
 end
def uptoSmall : (H : Type) → List (DataW H) → Bool := fun _ ds => decide (uptoBulkAll ds ≤ 1048576)
def OpenSpec.upto (s : _root_.Go.ChangeSpec) : _root_.Go.OpenSpec := { _root_.Go.OpenSpec.ofChange s with cond := some uptoSmall }

/-- 'laws.FnExactUnlikeList', WHERE WHAT IT READS IS OF BULK AT MOST 1048576: true; the input reads as it did. -/
def fnExactUnlikeListUptoRow : OpenClaim := { program := "ytpnndajfaghaaaa", sum := "ed75efb0b656631d4f8ec61a1d645c4182a438c7b61bae8b85eee1593a28081c", func := "loop.example/g01389/laws.FnExactUnlikeList", spec := "fnExactUnlikeList", unfollowed := true, recurses := true, plainKeys := false, apart := false, narrowed := true }
def FnExactUnlikeListUptoSaid : Prop := fnExactUnlikeListUptoRow.holds Try.pinned (OpenSpec.upto fnExactUnlikeListSpec)

/-- 'laws.FnExactLongestWay', WHERE WHAT IT READS IS OF BULK AT MOST 1048576: true; the input reads as it did. -/
def fnExactLongestWayUptoRow : OpenClaim := { program := "ytpnndajfaghaaaa", sum := "ed75efb0b656631d4f8ec61a1d645c4182a438c7b61bae8b85eee1593a28081c", func := "loop.example/g01389/laws.FnExactLongestWay", spec := "fnExactLongestWay", unfollowed := true, recurses := true, plainKeys := false, apart := false, narrowed := true }
def FnExactLongestWayUptoSaid : Prop := fnExactLongestWayUptoRow.holds Try.pinned (OpenSpec.upto fnExactLongestWaySpec)

/-- 'laws.FnExactOrderPlan', WHERE WHAT IT READS IS OF BULK AT MOST 1048576: true; the input reads as it did. -/
def fnExactOrderPlanUptoRow : OpenClaim := { program := "ytpnndajfaghaaaa", sum := "ed75efb0b656631d4f8ec61a1d645c4182a438c7b61bae8b85eee1593a28081c", func := "loop.example/g01389/laws.FnExactOrderPlan", spec := "fnExactOrderPlan", unfollowed := true, recurses := true, plainKeys := false, apart := false, narrowed := true }
def FnExactOrderPlanUptoSaid : Prop := fnExactOrderPlanUptoRow.holds Try.pinned (OpenSpec.upto fnExactOrderPlanSpec)

/-- 'laws.FnExactShopStarts', WHERE WHAT IT READS IS OF BULK AT MOST 1048576: true; the input reads as it did. -/
def fnExactShopStartsUptoRow : OpenClaim := { program := "ytpnndajfaghaaaa", sum := "ed75efb0b656631d4f8ec61a1d645c4182a438c7b61bae8b85eee1593a28081c", func := "loop.example/g01389/laws.FnExactShopStarts", spec := "fnExactShopStarts", unfollowed := true, recurses := true, plainKeys := false, apart := false, narrowed := true }
def FnExactShopStartsUptoSaid : Prop := fnExactShopStartsUptoRow.holds Try.pinned (OpenSpec.upto fnExactShopStartsSpec)

/-- 'laws.FnExactRingGap', WHERE WHAT IT READS IS OF BULK AT MOST 1048576: true; the input reads as it did. -/
def fnExactRingGapUptoRow : OpenClaim := { program := "ytpnndajfaghaaaa", sum := "ed75efb0b656631d4f8ec61a1d645c4182a438c7b61bae8b85eee1593a28081c", func := "loop.example/g01389/laws.FnExactRingGap", spec := "fnExactRingGap", unfollowed := true, recurses := true, plainKeys := false, apart := false, narrowed := true }
def FnExactRingGapUptoSaid : Prop := fnExactRingGapUptoRow.holds Try.pinned (OpenSpec.upto fnExactRingGapSpec)

/-- 'laws.FnExactTwoOrder', WHERE WHAT IT READS IS OF BULK AT MOST 1048576: true; the input reads as it did. -/
def fnExactTwoOrderUptoRow : OpenClaim := { program := "ytpnndajfaghaaaa", sum := "ed75efb0b656631d4f8ec61a1d645c4182a438c7b61bae8b85eee1593a28081c", func := "loop.example/g01389/laws.FnExactTwoOrder", spec := "fnExactTwoOrder", unfollowed := true, recurses := true, plainKeys := false, apart := false, narrowed := true }
def FnExactTwoOrderUptoSaid : Prop := fnExactTwoOrderUptoRow.holds Try.pinned (OpenSpec.upto fnExactTwoOrderSpec)

/-- 'laws.FnExactInsertOrder', WHERE WHAT IT READS IS OF BULK AT MOST 1048576: true; the input reads as it did. -/
def fnExactInsertOrderUptoRow : OpenClaim := { program := "ytpnndajfaghaaaa", sum := "ed75efb0b656631d4f8ec61a1d645c4182a438c7b61bae8b85eee1593a28081c", func := "loop.example/g01389/laws.FnExactInsertOrder", spec := "fnExactInsertOrder", inPlace := ["slices.overlaps[int64]"], unfollowed := true, recurses := true, plainKeys := false, apart := false, narrowed := true }
def FnExactInsertOrderUptoSaid : Prop := fnExactInsertOrderUptoRow.holds Try.pinned (OpenSpec.upto fnExactInsertOrderSpec)

/-- 'laws.FnExactIdleMoves', WHERE WHAT IT READS IS OF BULK AT MOST 1048576: true; the input reads as it did. -/
def fnExactIdleMovesUptoRow : OpenClaim := { program := "ytpnndajfaghaaaa", sum := "ed75efb0b656631d4f8ec61a1d645c4182a438c7b61bae8b85eee1593a28081c", func := "loop.example/g01389/laws.FnExactIdleMoves", spec := "fnExactIdleMoves", unfollowed := true, recurses := true, plainKeys := false, apart := false, narrowed := true }
def FnExactIdleMovesUptoSaid : Prop := fnExactIdleMovesUptoRow.holds Try.pinned (OpenSpec.upto fnExactIdleMovesSpec)

/-- 'laws.FnExactMatchSkills', WHERE WHAT IT READS IS OF BULK AT MOST 1048576: true; the input reads as it did. -/
def fnExactMatchSkillsUptoRow : OpenClaim := { program := "ytpnndajfaghaaaa", sum := "ed75efb0b656631d4f8ec61a1d645c4182a438c7b61bae8b85eee1593a28081c", func := "loop.example/g01389/laws.FnExactMatchSkills", spec := "fnExactMatchSkills", unfollowed := true, recurses := true, plainKeys := false, apart := false, narrowed := true }
def FnExactMatchSkillsUptoSaid : Prop := fnExactMatchSkillsUptoRow.holds Try.pinned (OpenSpec.upto fnExactMatchSkillsSpec)

/-- 'laws.FnExactFewestVehicles', WHERE WHAT IT READS IS OF BULK AT MOST 1048576: true; the input reads as it did. -/
def fnExactFewestVehiclesUptoRow : OpenClaim := { program := "ytpnndajfaghaaaa", sum := "ed75efb0b656631d4f8ec61a1d645c4182a438c7b61bae8b85eee1593a28081c", func := "loop.example/g01389/laws.FnExactFewestVehicles", spec := "fnExactFewestVehicles", unfollowed := true, recurses := true, plainKeys := false, apart := false, narrowed := true }
def FnExactFewestVehiclesUptoSaid : Prop := fnExactFewestVehiclesUptoRow.holds Try.pinned (OpenSpec.upto fnExactFewestVehiclesSpec)

/-- 'laws.FnExactCountShifts', WHERE WHAT IT READS IS OF BULK AT MOST 1048576: true; the input reads as it did. -/
def fnExactCountShiftsUptoRow : OpenClaim := { program := "ytpnndajfaghaaaa", sum := "ed75efb0b656631d4f8ec61a1d645c4182a438c7b61bae8b85eee1593a28081c", func := "loop.example/g01389/laws.FnExactCountShifts", spec := "fnExactCountShifts", unfollowed := true, recurses := true, plainKeys := false, apart := false, narrowed := true }
def FnExactCountShiftsUptoSaid : Prop := fnExactCountShiftsUptoRow.holds Try.pinned (OpenSpec.upto fnExactCountShiftsSpec)

/-- 'laws.FnExactTripsOf', WHERE WHAT IT READS IS OF BULK AT MOST 1048576: true; the input reads as it did. -/
def fnExactTripsOfUptoRow : OpenClaim := { program := "ytpnndajfaghaaaa", sum := "ed75efb0b656631d4f8ec61a1d645c4182a438c7b61bae8b85eee1593a28081c", func := "loop.example/g01389/laws.FnExactTripsOf", spec := "fnExactTripsOf", unfollowed := true, recurses := true, plainKeys := false, apart := false, narrowed := true }
def FnExactTripsOfUptoSaid : Prop := fnExactTripsOfUptoRow.holds Try.pinned (OpenSpec.upto fnExactTripsOfSpec)

end Rows
end Go.Proofs.Ytpnndajfaghaaaa
