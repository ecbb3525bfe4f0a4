/-
  No cell of these rows narrows 'for every input' (looked for: loops, veiled, ifaces, maps, wideKeys, modest, calm, conditions, laid).
  DERIVED. THE GIVEN ROWS OF THIS SEAT. 7 by the template 'for every input the law returns true; each argument reads behind the call as it read before'; 0 by the template 'total and deterministic' (their statements: YtfidppepchobeaaTotals.lean).
  GIVEN WITH THE SEED: the statements are not yours to turn. If you find one false, say at which input.
  Laid BY PROGRAM, IN A SANDBOX (cutbox-rows.mjs): the forced cells as the released guide's own fill.sh prints them over the translation d116ca85a165e25f… (all of the seat's roots in one cut). By AI agents, Wed Nov 11 2026. No macro, syntax, notation, axiom, sorry.
-/
import Derived.Test.YtfidppepchobeaaChecked
import GoSem.Claim
import GoSem.ClaimJoined
import GoSem.ClaimMapViews
import Derived.JoinedTies
import Derived.KernelRfl
namespace Go.Proofs.Ytfidppepchobeaa
/- THE CELL 'sum', in the pinned program and in every row, IS THE sha256 OF THE DUMP (.gsa) THAT YtfidppepchobeaaProg.lean LOADS. Nothing in Lean hashes anything: it is a label: what it is worth is what the hold of that sum in a sandbox is worth. -/
noncomputable def Try.pinned : Pinned := { name := "ytfidppepchobeaa", sum := "d116ca85a165e25fc905a622142ed7f3d2175240cdf536da774c96b4667afcce", checked := Try.checked }
namespace Rows
def none {H : Type} : Left H := { results := [], args := [] }

/-- 'laws.FnExactLineStations': WHATEVER THE INPUT: true; the input reads as it did. -/
def fnExactLineStationsSpec : ChangeSpec := { name := "fnExactLineStations", fn := fun _ => fun
  | [d1, d2, d3] => { results := [.lit (.bool true)], args := [d1, d2, d3] }
  | _ => none }
def fnExactLineStationsRow : OpenClaim := { program := "ytfidppepchobeaa", sum := "d116ca85a165e25fc905a622142ed7f3d2175240cdf536da774c96b4667afcce", func := "loop.example/g01389/laws.FnExactLineStations", spec := "fnExactLineStations", apart := false }
def FnExactLineStationsSaid : Prop := fnExactLineStationsRow.holds Try.pinned (OpenSpec.ofChange fnExactLineStationsSpec)

/-- ITS FALSE NEIGHBOUR: 'it returns false'. Refute it at one input. -/
def fnExactLineStationsWrong : ChangeSpec := { name := "fnExactLineStations", fn := fun _ => fun
  | [d1, d2, d3] => { results := [.lit (.bool false)], args := [d1, d2, d3] }
  | _ => none }
def FnExactLineStationsWrongFalsely : Prop := fnExactLineStationsRow.holds Try.pinned (OpenSpec.ofChange fnExactLineStationsWrong)

/-- 'laws.FnExactShopStarts': WHATEVER THE INPUT: true; the input reads as it did. -/
def fnExactShopStartsSpec : ChangeSpec := { name := "fnExactShopStarts", fn := fun _ => fun
  | [d1, d2, d3, d4] => { results := [.lit (.bool true)], args := [d1, d2, d3, d4] }
  | _ => none }
def fnExactShopStartsRow : OpenClaim := { program := "ytfidppepchobeaa", sum := "d116ca85a165e25fc905a622142ed7f3d2175240cdf536da774c96b4667afcce", func := "loop.example/g01389/laws.FnExactShopStarts", spec := "fnExactShopStarts", unfollowed := true, recurses := true, apart := false }
def FnExactShopStartsSaid : Prop := fnExactShopStartsRow.holds Try.pinned (OpenSpec.ofChange fnExactShopStartsSpec)

/-- ITS FALSE NEIGHBOUR: 'it returns false'. Refute it at one input. -/
def fnExactShopStartsWrong : ChangeSpec := { name := "fnExactShopStarts", fn := fun _ => fun
  | [d1, d2, d3, d4] => { results := [.lit (.bool false)], args := [d1, d2, d3, d4] }
  | _ => none }
def FnExactShopStartsWrongFalsely : Prop := fnExactShopStartsRow.holds Try.pinned (OpenSpec.ofChange fnExactShopStartsWrong)

/-- 'laws.FnExactColourBy': WHATEVER THE INPUT: true; the input reads as it did. -/
def fnExactColourBySpec : ChangeSpec := { name := "fnExactColourBy", fn := fun _ => fun
  | [d1, d2, d3] => { results := [.lit (.bool true)], args := [d1, d2, d3] }
  | _ => none }
def fnExactColourByRow : OpenClaim := { program := "ytfidppepchobeaa", sum := "d116ca85a165e25fc905a622142ed7f3d2175240cdf536da774c96b4667afcce", func := "loop.example/g01389/laws.FnExactColourBy", spec := "fnExactColourBy", unfollowed := true, recurses := true, apart := false }
def FnExactColourBySaid : Prop := fnExactColourByRow.holds Try.pinned (OpenSpec.ofChange fnExactColourBySpec)

/-- ITS FALSE NEIGHBOUR: 'it returns false'. Refute it at one input. -/
def fnExactColourByWrong : ChangeSpec := { name := "fnExactColourBy", fn := fun _ => fun
  | [d1, d2, d3] => { results := [.lit (.bool false)], args := [d1, d2, d3] }
  | _ => none }
def FnExactColourByWrongFalsely : Prop := fnExactColourByRow.holds Try.pinned (OpenSpec.ofChange fnExactColourByWrong)

/-- 'laws.FnExactLongestWay': WHATEVER THE INPUT: true; the input reads as it did. -/
def fnExactLongestWaySpec : ChangeSpec := { name := "fnExactLongestWay", fn := fun _ => fun
  | [d] => { results := [.lit (.bool true)], args := [d] }
  | _ => none }
def fnExactLongestWayRow : OpenClaim := { program := "ytfidppepchobeaa", sum := "d116ca85a165e25fc905a622142ed7f3d2175240cdf536da774c96b4667afcce", func := "loop.example/g01389/laws.FnExactLongestWay", spec := "fnExactLongestWay", unfollowed := true, recurses := true, apart := false }
def FnExactLongestWaySaid : Prop := fnExactLongestWayRow.holds Try.pinned (OpenSpec.ofChange fnExactLongestWaySpec)

/-- ITS FALSE NEIGHBOUR: 'it returns false'. Refute it at one input. -/
def fnExactLongestWayWrong : ChangeSpec := { name := "fnExactLongestWay", fn := fun _ => fun
  | [d] => { results := [.lit (.bool false)], args := [d] }
  | _ => none }
def FnExactLongestWayWrongFalsely : Prop := fnExactLongestWayRow.holds Try.pinned (OpenSpec.ofChange fnExactLongestWayWrong)

/-- 'laws.FnExactOrderPlan': WHATEVER THE INPUT: true; the input reads as it did. -/
def fnExactOrderPlanSpec : ChangeSpec := { name := "fnExactOrderPlan", fn := fun _ => fun
  | [d1, d2, d3] => { results := [.lit (.bool true)], args := [d1, d2, d3] }
  | _ => none }
def fnExactOrderPlanRow : OpenClaim := { program := "ytfidppepchobeaa", sum := "d116ca85a165e25fc905a622142ed7f3d2175240cdf536da774c96b4667afcce", func := "loop.example/g01389/laws.FnExactOrderPlan", spec := "fnExactOrderPlan", unfollowed := true, recurses := true, apart := false }
def FnExactOrderPlanSaid : Prop := fnExactOrderPlanRow.holds Try.pinned (OpenSpec.ofChange fnExactOrderPlanSpec)

/-- ITS FALSE NEIGHBOUR: 'it returns false'. Refute it at one input. -/
def fnExactOrderPlanWrong : ChangeSpec := { name := "fnExactOrderPlan", fn := fun _ => fun
  | [d1, d2, d3] => { results := [.lit (.bool false)], args := [d1, d2, d3] }
  | _ => none }
def FnExactOrderPlanWrongFalsely : Prop := fnExactOrderPlanRow.holds Try.pinned (OpenSpec.ofChange fnExactOrderPlanWrong)

/-- 'laws.FnExactUnlikeList': WHATEVER THE INPUT: true; the input reads as it did. -/
def fnExactUnlikeListSpec : ChangeSpec := { name := "fnExactUnlikeList", fn := fun _ => fun
  | [d1, d2] => { results := [.lit (.bool true)], args := [d1, d2] }
  | _ => none }
def fnExactUnlikeListRow : OpenClaim := { program := "ytfidppepchobeaa", sum := "d116ca85a165e25fc905a622142ed7f3d2175240cdf536da774c96b4667afcce", func := "loop.example/g01389/laws.FnExactUnlikeList", spec := "fnExactUnlikeList", unfollowed := true, recurses := true, apart := false }
def FnExactUnlikeListSaid : Prop := fnExactUnlikeListRow.holds Try.pinned (OpenSpec.ofChange fnExactUnlikeListSpec)

/-- ITS FALSE NEIGHBOUR: 'it returns false'. Refute it at one input. -/
def fnExactUnlikeListWrong : ChangeSpec := { name := "fnExactUnlikeList", fn := fun _ => fun
  | [d1, d2] => { results := [.lit (.bool false)], args := [d1, d2] }
  | _ => none }
def FnExactUnlikeListWrongFalsely : Prop := fnExactUnlikeListRow.holds Try.pinned (OpenSpec.ofChange fnExactUnlikeListWrong)

/-- 'laws.FnExactRingGap': WHATEVER THE INPUT: true; the input reads as it did. -/
def fnExactRingGapSpec : ChangeSpec := { name := "fnExactRingGap", fn := fun _ => fun
  | [d1, d2, d3, d4] => { results := [.lit (.bool true)], args := [d1, d2, d3, d4] }
  | _ => none }
def fnExactRingGapRow : OpenClaim := { program := "ytfidppepchobeaa", sum := "d116ca85a165e25fc905a622142ed7f3d2175240cdf536da774c96b4667afcce", func := "loop.example/g01389/laws.FnExactRingGap", spec := "fnExactRingGap", unfollowed := true, recurses := true, apart := false }
def FnExactRingGapSaid : Prop := fnExactRingGapRow.holds Try.pinned (OpenSpec.ofChange fnExactRingGapSpec)

/-- ITS FALSE NEIGHBOUR: 'it returns false'. Refute it at one input. -/
def fnExactRingGapWrong : ChangeSpec := { name := "fnExactRingGap", fn := fun _ => fun
  | [d1, d2, d3, d4] => { results := [.lit (.bool false)], args := [d1, d2, d3, d4] }
  | _ => none }
def FnExactRingGapWrongFalsely : Prop := fnExactRingGapRow.holds Try.pinned (OpenSpec.ofChange fnExactRingGapWrong)

/- THE SECOND FORM. 'bulk': how many values and letters a reading holds, each counted each time it is reached (what is shared counts as often as it is met; a slice's spare places count too). A statement '..UptoSaid' is the law's where the arguments, and the package variables that the reading takes, are together of bulk at most 1048576: NARROWER than '..Said'. Prove '..Said' where nothing that the law and all that it calls make is longer than what came in: it says more and counts as full. Else prove '..UptoSaid'. A law counts once. -/
mutual
def uptoBulk {H : Type} : DataW H → Nat
  | .lit (.string bytes) => bytes.length + 1
  | .lit _ => 1
  | .nil => 1
  | .ptr d => uptoBulk d + 1
  | .slice elems spare => uptoBulkAll elems + uptoBulkAll spare + 1
  | .agg parts => uptoBulkAll parts + 1
  | .iface _ d => uptoBulk d + 1
  | .map entries => uptoBulkEntries entries + 1
  | .held _ => 1
def uptoBulkAll {H : Type} : List (DataW H) → Nat
  | [] => 0
  | d :: r => uptoBulk d + uptoBulkAll r
def uptoBulkEntries {H : Type} : List (Lit × DataW H) → Nat
  | [] => 0
  | x :: r => uptoBulkEntry x + uptoBulkEntries r
def uptoBulkEntry {H : Type} : Lit × DataW H → Nat
  | (.string bytes, d) => bytes.length + uptoBulk d + 1
  | (_, d) => uptoBulk d + 1
 end
def uptoSmall : (H : Type) → List (DataW H) → Bool := fun _ ds => decide (uptoBulkAll ds ≤ 1048576)
def OpenSpec.upto (s : _root_.Go.ChangeSpec) : _root_.Go.OpenSpec := { _root_.Go.OpenSpec.ofChange s with cond := some uptoSmall }

/-- 'laws.FnExactLineStations', WHERE WHAT IT READS IS OF BULK AT MOST 1048576: true; the input reads as it did. -/
def fnExactLineStationsUptoRow : OpenClaim := { program := "ytfidppepchobeaa", sum := "d116ca85a165e25fc905a622142ed7f3d2175240cdf536da774c96b4667afcce", func := "loop.example/g01389/laws.FnExactLineStations", spec := "fnExactLineStations", apart := false, narrowed := true }
def FnExactLineStationsUptoSaid : Prop := fnExactLineStationsUptoRow.holds Try.pinned (OpenSpec.upto fnExactLineStationsSpec)

/-- 'laws.FnExactShopStarts', WHERE WHAT IT READS IS OF BULK AT MOST 1048576: true; the input reads as it did. -/
def fnExactShopStartsUptoRow : OpenClaim := { program := "ytfidppepchobeaa", sum := "d116ca85a165e25fc905a622142ed7f3d2175240cdf536da774c96b4667afcce", func := "loop.example/g01389/laws.FnExactShopStarts", spec := "fnExactShopStarts", unfollowed := true, recurses := true, apart := false, narrowed := true }
def FnExactShopStartsUptoSaid : Prop := fnExactShopStartsUptoRow.holds Try.pinned (OpenSpec.upto fnExactShopStartsSpec)

/-- 'laws.FnExactColourBy', WHERE WHAT IT READS IS OF BULK AT MOST 1048576: true; the input reads as it did. -/
def fnExactColourByUptoRow : OpenClaim := { program := "ytfidppepchobeaa", sum := "d116ca85a165e25fc905a622142ed7f3d2175240cdf536da774c96b4667afcce", func := "loop.example/g01389/laws.FnExactColourBy", spec := "fnExactColourBy", unfollowed := true, recurses := true, apart := false, narrowed := true }
def FnExactColourByUptoSaid : Prop := fnExactColourByUptoRow.holds Try.pinned (OpenSpec.upto fnExactColourBySpec)

/-- 'laws.FnExactLongestWay', WHERE WHAT IT READS IS OF BULK AT MOST 1048576: true; the input reads as it did. -/
def fnExactLongestWayUptoRow : OpenClaim := { program := "ytfidppepchobeaa", sum := "d116ca85a165e25fc905a622142ed7f3d2175240cdf536da774c96b4667afcce", func := "loop.example/g01389/laws.FnExactLongestWay", spec := "fnExactLongestWay", unfollowed := true, recurses := true, apart := false, narrowed := true }
def FnExactLongestWayUptoSaid : Prop := fnExactLongestWayUptoRow.holds Try.pinned (OpenSpec.upto fnExactLongestWaySpec)

/-- 'laws.FnExactOrderPlan', WHERE WHAT IT READS IS OF BULK AT MOST 1048576: true; the input reads as it did. -/
def fnExactOrderPlanUptoRow : OpenClaim := { program := "ytfidppepchobeaa", sum := "d116ca85a165e25fc905a622142ed7f3d2175240cdf536da774c96b4667afcce", func := "loop.example/g01389/laws.FnExactOrderPlan", spec := "fnExactOrderPlan", unfollowed := true, recurses := true, apart := false, narrowed := true }
def FnExactOrderPlanUptoSaid : Prop := fnExactOrderPlanUptoRow.holds Try.pinned (OpenSpec.upto fnExactOrderPlanSpec)

/-- 'laws.FnExactUnlikeList', WHERE WHAT IT READS IS OF BULK AT MOST 1048576: true; the input reads as it did. -/
def fnExactUnlikeListUptoRow : OpenClaim := { program := "ytfidppepchobeaa", sum := "d116ca85a165e25fc905a622142ed7f3d2175240cdf536da774c96b4667afcce", func := "loop.example/g01389/laws.FnExactUnlikeList", spec := "fnExactUnlikeList", unfollowed := true, recurses := true, apart := false, narrowed := true }
def FnExactUnlikeListUptoSaid : Prop := fnExactUnlikeListUptoRow.holds Try.pinned (OpenSpec.upto fnExactUnlikeListSpec)

/-- 'laws.FnExactRingGap', WHERE WHAT IT READS IS OF BULK AT MOST 1048576: true; the input reads as it did. -/
def fnExactRingGapUptoRow : OpenClaim := { program := "ytfidppepchobeaa", sum := "d116ca85a165e25fc905a622142ed7f3d2175240cdf536da774c96b4667afcce", func := "loop.example/g01389/laws.FnExactRingGap", spec := "fnExactRingGap", unfollowed := true, recurses := true, apart := false, narrowed := true }
def FnExactRingGapUptoSaid : Prop := fnExactRingGapUptoRow.holds Try.pinned (OpenSpec.upto fnExactRingGapSpec)

end Rows
end Go.Proofs.Ytfidppepchobeaa
