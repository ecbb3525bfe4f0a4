/-
  No cell of these rows narrows 'for every input' (looked for: loops, veiled, ifaces, maps, wideKeys, modest, calm, conditions, laid).
  DERIVED. THE GIVEN ROWS OF THIS SEAT. 12 by the template 'for every input the law returns true; each argument reads behind the call as it read before'; 0 by the template 'total and deterministic' (their statements: YtfigojmdklaljabTotals.lean).
  GIVEN WITH THE SEED: the statements are not yours to turn. If you find one false, say at which input.
  Laid BY PROGRAM, IN A SANDBOX (cutbox-rows.mjs): the forced cells as the released guide's own fill.sh prints them over the translation 9658ba0782069e77… (all of the seat's roots in one cut). By AI agents, Wed Nov 11 2026. No macro, syntax, notation, axiom, sorry.
-/
import Derived.Test.YtfigojmdklaljabChecked
import GoSem.Claim
import GoSem.ClaimJoined
import GoSem.ClaimMapViews
import Derived.JoinedTies
import Derived.KernelRfl
namespace Go.Proofs.Ytfigojmdklaljab
/- THE CELL 'sum', in the pinned program and in every row, IS THE sha256 OF THE DUMP (.gsa) THAT YtfigojmdklaljabProg.lean LOADS. Nothing in Lean hashes anything: it is a label: what it is worth is what the hold of that sum in a sandbox is worth. -/
noncomputable def Try.pinned : Pinned := { name := "ytfigojmdklaljab", sum := "9658ba0782069e777c87a0612311c0b4bfa2049595f3e672ee574ed5db33f10b", checked := Try.checked }
namespace Rows
def none {H : Type} : Left H := { results := [], args := [] }

/-- 'laws.FnExactOpenBound': WHATEVER THE INPUT: true; the input reads as it did. -/
def fnExactOpenBoundSpec : ChangeSpec := { name := "fnExactOpenBound", fn := fun _ => fun
  | [d1, d2] => { results := [.lit (.bool true)], args := [d1, d2] }
  | _ => none }
def fnExactOpenBoundRow : OpenClaim := { program := "ytfigojmdklaljab", sum := "9658ba0782069e777c87a0612311c0b4bfa2049595f3e672ee574ed5db33f10b", func := "loop.example/g01389/laws.FnExactOpenBound", spec := "fnExactOpenBound", apart := false }
def FnExactOpenBoundSaid : Prop := fnExactOpenBoundRow.holds Try.pinned (OpenSpec.ofChange fnExactOpenBoundSpec)

/-- ITS FALSE NEIGHBOUR: 'it returns false'. Refute it at one input. -/
def fnExactOpenBoundWrong : ChangeSpec := { name := "fnExactOpenBound", fn := fun _ => fun
  | [d1, d2] => { results := [.lit (.bool false)], args := [d1, d2] }
  | _ => none }
def FnExactOpenBoundWrongFalsely : Prop := fnExactOpenBoundRow.holds Try.pinned (OpenSpec.ofChange fnExactOpenBoundWrong)

/-- 'laws.FnExactIsOpenPlan': WHATEVER THE INPUT: true; the input reads as it did. -/
def fnExactIsOpenPlanSpec : ChangeSpec := { name := "fnExactIsOpenPlan", fn := fun _ => fun
  | [d1, d2, d3] => { results := [.lit (.bool true)], args := [d1, d2, d3] }
  | _ => none }
def fnExactIsOpenPlanRow : OpenClaim := { program := "ytfigojmdklaljab", sum := "9658ba0782069e777c87a0612311c0b4bfa2049595f3e672ee574ed5db33f10b", func := "loop.example/g01389/laws.FnExactIsOpenPlan", spec := "fnExactIsOpenPlan", apart := false }
def FnExactIsOpenPlanSaid : Prop := fnExactIsOpenPlanRow.holds Try.pinned (OpenSpec.ofChange fnExactIsOpenPlanSpec)

/-- ITS FALSE NEIGHBOUR: 'it returns false'. Refute it at one input. -/
def fnExactIsOpenPlanWrong : ChangeSpec := { name := "fnExactIsOpenPlan", fn := fun _ => fun
  | [d1, d2, d3] => { results := [.lit (.bool false)], args := [d1, d2, d3] }
  | _ => none }
def FnExactIsOpenPlanWrongFalsely : Prop := fnExactIsOpenPlanRow.holds Try.pinned (OpenSpec.ofChange fnExactIsOpenPlanWrong)

/-- 'laws.FnExactAreRoutes': WHATEVER THE INPUT: true; the input reads as it did. -/
def fnExactAreRoutesSpec : ChangeSpec := { name := "fnExactAreRoutes", fn := fun _ => fun
  | [d1, d2] => { results := [.lit (.bool true)], args := [d1, d2] }
  | _ => none }
def fnExactAreRoutesRow : OpenClaim := { program := "ytfigojmdklaljab", sum := "9658ba0782069e777c87a0612311c0b4bfa2049595f3e672ee574ed5db33f10b", func := "loop.example/g01389/laws.FnExactAreRoutes", spec := "fnExactAreRoutes", unfollowed := true, recurses := true, apart := false }
def FnExactAreRoutesSaid : Prop := fnExactAreRoutesRow.holds Try.pinned (OpenSpec.ofChange fnExactAreRoutesSpec)

/-- ITS FALSE NEIGHBOUR: 'it returns false'. Refute it at one input. -/
def fnExactAreRoutesWrong : ChangeSpec := { name := "fnExactAreRoutes", fn := fun _ => fun
  | [d1, d2] => { results := [.lit (.bool false)], args := [d1, d2] }
  | _ => none }
def FnExactAreRoutesWrongFalsely : Prop := fnExactAreRoutesRow.holds Try.pinned (OpenSpec.ofChange fnExactAreRoutesWrong)

/-- 'laws.FnExactShopBound': WHATEVER THE INPUT: true; the input reads as it did. -/
def fnExactShopBoundSpec : ChangeSpec := { name := "fnExactShopBound", fn := fun _ => fun
  | [d1, d2, d3] => { results := [.lit (.bool true)], args := [d1, d2, d3] }
  | _ => none }
def fnExactShopBoundRow : OpenClaim := { program := "ytfigojmdklaljab", sum := "9658ba0782069e777c87a0612311c0b4bfa2049595f3e672ee574ed5db33f10b", func := "loop.example/g01389/laws.FnExactShopBound", spec := "fnExactShopBound", unfollowed := true, recurses := true, apart := false }
def FnExactShopBoundSaid : Prop := fnExactShopBoundRow.holds Try.pinned (OpenSpec.ofChange fnExactShopBoundSpec)

/-- ITS FALSE NEIGHBOUR: 'it returns false'. Refute it at one input. -/
def fnExactShopBoundWrong : ChangeSpec := { name := "fnExactShopBound", fn := fun _ => fun
  | [d1, d2, d3] => { results := [.lit (.bool false)], args := [d1, d2, d3] }
  | _ => none }
def FnExactShopBoundWrongFalsely : Prop := fnExactShopBoundRow.holds Try.pinned (OpenSpec.ofChange fnExactShopBoundWrong)

/-- 'laws.FnExactShopStarts': WHATEVER THE INPUT: true; the input reads as it did. -/
def fnExactShopStartsSpec : ChangeSpec := { name := "fnExactShopStarts", fn := fun _ => fun
  | [d1, d2, d3, d4] => { results := [.lit (.bool true)], args := [d1, d2, d3, d4] }
  | _ => none }
def fnExactShopStartsRow : OpenClaim := { program := "ytfigojmdklaljab", sum := "9658ba0782069e777c87a0612311c0b4bfa2049595f3e672ee574ed5db33f10b", func := "loop.example/g01389/laws.FnExactShopStarts", spec := "fnExactShopStarts", unfollowed := true, recurses := true, apart := false }
def FnExactShopStartsSaid : Prop := fnExactShopStartsRow.holds Try.pinned (OpenSpec.ofChange fnExactShopStartsSpec)

/-- ITS FALSE NEIGHBOUR: 'it returns false'. Refute it at one input. -/
def fnExactShopStartsWrong : ChangeSpec := { name := "fnExactShopStarts", fn := fun _ => fun
  | [d1, d2, d3, d4] => { results := [.lit (.bool false)], args := [d1, d2, d3, d4] }
  | _ => none }
def FnExactShopStartsWrongFalsely : Prop := fnExactShopStartsRow.holds Try.pinned (OpenSpec.ofChange fnExactShopStartsWrong)

/-- 'laws.FnExactIsShopPlan': WHATEVER THE INPUT: true; the input reads as it did. -/
def fnExactIsShopPlanSpec : ChangeSpec := { name := "fnExactIsShopPlan", fn := fun _ => fun
  | [d1, d2, d3, d4] => { results := [.lit (.bool true)], args := [d1, d2, d3, d4] }
  | _ => none }
def fnExactIsShopPlanRow : OpenClaim := { program := "ytfigojmdklaljab", sum := "9658ba0782069e777c87a0612311c0b4bfa2049595f3e672ee574ed5db33f10b", func := "loop.example/g01389/laws.FnExactIsShopPlan", spec := "fnExactIsShopPlan", unfollowed := true, recurses := true, apart := false }
def FnExactIsShopPlanSaid : Prop := fnExactIsShopPlanRow.holds Try.pinned (OpenSpec.ofChange fnExactIsShopPlanSpec)

/-- ITS FALSE NEIGHBOUR: 'it returns false'. Refute it at one input. -/
def fnExactIsShopPlanWrong : ChangeSpec := { name := "fnExactIsShopPlan", fn := fun _ => fun
  | [d1, d2, d3, d4] => { results := [.lit (.bool false)], args := [d1, d2, d3, d4] }
  | _ => none }
def FnExactIsShopPlanWrongFalsely : Prop := fnExactIsShopPlanRow.holds Try.pinned (OpenSpec.ofChange fnExactIsShopPlanWrong)

/-- 'laws.FnExactTwoOrder': WHATEVER THE INPUT: true; the input reads as it did. -/
def fnExactTwoOrderSpec : ChangeSpec := { name := "fnExactTwoOrder", fn := fun _ => fun
  | [d] => { results := [.lit (.bool true)], args := [d] }
  | _ => none }
def fnExactTwoOrderRow : OpenClaim := { program := "ytfigojmdklaljab", sum := "9658ba0782069e777c87a0612311c0b4bfa2049595f3e672ee574ed5db33f10b", func := "loop.example/g01389/laws.FnExactTwoOrder", spec := "fnExactTwoOrder", unfollowed := true, recurses := true, apart := false }
def FnExactTwoOrderSaid : Prop := fnExactTwoOrderRow.holds Try.pinned (OpenSpec.ofChange fnExactTwoOrderSpec)

/-- ITS FALSE NEIGHBOUR: 'it returns false'. Refute it at one input. -/
def fnExactTwoOrderWrong : ChangeSpec := { name := "fnExactTwoOrder", fn := fun _ => fun
  | [d] => { results := [.lit (.bool false)], args := [d] }
  | _ => none }
def FnExactTwoOrderWrongFalsely : Prop := fnExactTwoOrderRow.holds Try.pinned (OpenSpec.ofChange fnExactTwoOrderWrong)

/-- 'laws.FnExactInsertOrder': WHATEVER THE INPUT: true; the input reads as it did. -/
def fnExactInsertOrderSpec : ChangeSpec := { name := "fnExactInsertOrder", fn := fun _ => fun
  | [d1, d2] => { results := [.lit (.bool true)], args := [d1, d2] }
  | _ => none }
def fnExactInsertOrderRow : OpenClaim := { program := "ytfigojmdklaljab", sum := "9658ba0782069e777c87a0612311c0b4bfa2049595f3e672ee574ed5db33f10b", func := "loop.example/g01389/laws.FnExactInsertOrder", spec := "fnExactInsertOrder", inPlace := ["slices.overlaps[int64]"], unfollowed := true, recurses := true, apart := false }
def FnExactInsertOrderSaid : Prop := fnExactInsertOrderRow.holds Try.pinned (OpenSpec.ofChange fnExactInsertOrderSpec)

/-- ITS FALSE NEIGHBOUR: 'it returns false'. Refute it at one input. -/
def fnExactInsertOrderWrong : ChangeSpec := { name := "fnExactInsertOrder", fn := fun _ => fun
  | [d1, d2] => { results := [.lit (.bool false)], args := [d1, d2] }
  | _ => none }
def FnExactInsertOrderWrongFalsely : Prop := fnExactInsertOrderRow.holds Try.pinned (OpenSpec.ofChange fnExactInsertOrderWrong)

/-- 'laws.FnExactOpenPlan': WHATEVER THE INPUT: true; the input reads as it did. -/
def fnExactOpenPlanSpec : ChangeSpec := { name := "fnExactOpenPlan", fn := fun _ => fun
  | [d1, d2] => { results := [.lit (.bool true)], args := [d1, d2] }
  | _ => none }
def fnExactOpenPlanRow : OpenClaim := { program := "ytfigojmdklaljab", sum := "9658ba0782069e777c87a0612311c0b4bfa2049595f3e672ee574ed5db33f10b", func := "loop.example/g01389/laws.FnExactOpenPlan", spec := "fnExactOpenPlan", unfollowed := true, recurses := true, apart := false }
def FnExactOpenPlanSaid : Prop := fnExactOpenPlanRow.holds Try.pinned (OpenSpec.ofChange fnExactOpenPlanSpec)

/-- ITS FALSE NEIGHBOUR: 'it returns false'. Refute it at one input. -/
def fnExactOpenPlanWrong : ChangeSpec := { name := "fnExactOpenPlan", fn := fun _ => fun
  | [d1, d2] => { results := [.lit (.bool false)], args := [d1, d2] }
  | _ => none }
def FnExactOpenPlanWrongFalsely : Prop := fnExactOpenPlanRow.holds Try.pinned (OpenSpec.ofChange fnExactOpenPlanWrong)

/-- 'laws.FnExactBestFlow': WHATEVER THE INPUT: true; the input reads as it did. -/
def fnExactBestFlowSpec : ChangeSpec := { name := "fnExactBestFlow", fn := fun _ => fun
  | [d1, d2] => { results := [.lit (.bool true)], args := [d1, d2] }
  | _ => none }
def fnExactBestFlowRow : OpenClaim := { program := "ytfigojmdklaljab", sum := "9658ba0782069e777c87a0612311c0b4bfa2049595f3e672ee574ed5db33f10b", func := "loop.example/g01389/laws.FnExactBestFlow", spec := "fnExactBestFlow", unfollowed := true, recurses := true, apart := false }
def FnExactBestFlowSaid : Prop := fnExactBestFlowRow.holds Try.pinned (OpenSpec.ofChange fnExactBestFlowSpec)

/-- ITS FALSE NEIGHBOUR: 'it returns false'. Refute it at one input. -/
def fnExactBestFlowWrong : ChangeSpec := { name := "fnExactBestFlow", fn := fun _ => fun
  | [d1, d2] => { results := [.lit (.bool false)], args := [d1, d2] }
  | _ => none }
def FnExactBestFlowWrongFalsely : Prop := fnExactBestFlowRow.holds Try.pinned (OpenSpec.ofChange fnExactBestFlowWrong)

/-- 'laws.FnExactLeastStations': WHATEVER THE INPUT: true; the input reads as it did. -/
def fnExactLeastStationsSpec : ChangeSpec := { name := "fnExactLeastStations", fn := fun _ => fun
  | [d1, d2, d3] => { results := [.lit (.bool true)], args := [d1, d2, d3] }
  | _ => none }
def fnExactLeastStationsRow : OpenClaim := { program := "ytfigojmdklaljab", sum := "9658ba0782069e777c87a0612311c0b4bfa2049595f3e672ee574ed5db33f10b", func := "loop.example/g01389/laws.FnExactLeastStations", spec := "fnExactLeastStations", recurses := true, apart := false }
def FnExactLeastStationsSaid : Prop := fnExactLeastStationsRow.holds Try.pinned (OpenSpec.ofChange fnExactLeastStationsSpec)

/-- ITS FALSE NEIGHBOUR: 'it returns false'. Refute it at one input. -/
def fnExactLeastStationsWrong : ChangeSpec := { name := "fnExactLeastStations", fn := fun _ => fun
  | [d1, d2, d3] => { results := [.lit (.bool false)], args := [d1, d2, d3] }
  | _ => none }
def FnExactLeastStationsWrongFalsely : Prop := fnExactLeastStationsRow.holds Try.pinned (OpenSpec.ofChange fnExactLeastStationsWrong)

/-- 'laws.FnExactBestShop': WHATEVER THE INPUT: true; the input reads as it did. -/
def fnExactBestShopSpec : ChangeSpec := { name := "fnExactBestShop", fn := fun _ => fun
  | [d1, d2, d3] => { results := [.lit (.bool true)], args := [d1, d2, d3] }
  | _ => none }
def fnExactBestShopRow : OpenClaim := { program := "ytfigojmdklaljab", sum := "9658ba0782069e777c87a0612311c0b4bfa2049595f3e672ee574ed5db33f10b", func := "loop.example/g01389/laws.FnExactBestShop", spec := "fnExactBestShop", unfollowed := true, recurses := true, apart := false }
def FnExactBestShopSaid : Prop := fnExactBestShopRow.holds Try.pinned (OpenSpec.ofChange fnExactBestShopSpec)

/-- ITS FALSE NEIGHBOUR: 'it returns false'. Refute it at one input. -/
def fnExactBestShopWrong : ChangeSpec := { name := "fnExactBestShop", fn := fun _ => fun
  | [d1, d2, d3] => { results := [.lit (.bool false)], args := [d1, d2, d3] }
  | _ => none }
def FnExactBestShopWrongFalsely : Prop := fnExactBestShopRow.holds Try.pinned (OpenSpec.ofChange fnExactBestShopWrong)

/- THE SECOND FORM. 'bulk': how many values and letters a reading holds, each counted each time it is reached (what is shared counts as often as it is met; a slice's spare places count too). A statement '..UptoSaid' is the law's where the arguments, and the package variables that the reading takes, are together of bulk at most 1048576: NARROWER than '..Said'. Prove '..Said' where nothing that the law and all that it calls make is longer than what came in: it says more and counts as full. Else prove '..UptoSaid'. A law counts once. -/
mutual
def uptoBulk {H : Type} : DataW H → Nat
  | .lit (.string bytes) => bytes.length + 1
  | .lit _ => 1
  | .nil => 1
  | .ptr d => uptoBulk d + 1
  | .slice elems spare => uptoBulkAll elems + uptoBulkAll spare + 1
  | .agg parts => uptoBulkAll parts + 1
  | .iface _ d => uptoBulk d + 1
  | .map entries => uptoBulkEntries entries + 1
  | .held _ => 1
def uptoBulkAll {H : Type} : List (DataW H) → Nat
  | [] => 0
  | d :: r => uptoBulk d + uptoBulkAll r
def uptoBulkEntries {H : Type} : List (Lit × DataW H) → Nat
  | [] => 0
  | x :: r => uptoBulkEntry x + uptoBulkEntries r
def uptoBulkEntry {H : Type} : Lit × DataW H → Nat
  | (.string bytes, d) => bytes.length + uptoBulk d + 1
  | (_, d) => uptoBulk d + 1
 end
def uptoSmall : (H : Type) → List (DataW H) → Bool := fun _ ds => decide (uptoBulkAll ds ≤ 1048576)
def OpenSpec.upto (s : _root_.Go.ChangeSpec) : _root_.Go.OpenSpec := { _root_.Go.OpenSpec.ofChange s with cond := some uptoSmall }

/-- 'laws.FnExactOpenBound', WHERE WHAT IT READS IS OF BULK AT MOST 1048576: true; the input reads as it did. -/
def fnExactOpenBoundUptoRow : OpenClaim := { program := "ytfigojmdklaljab", sum := "9658ba0782069e777c87a0612311c0b4bfa2049595f3e672ee574ed5db33f10b", func := "loop.example/g01389/laws.FnExactOpenBound", spec := "fnExactOpenBound", apart := false, narrowed := true }
def FnExactOpenBoundUptoSaid : Prop := fnExactOpenBoundUptoRow.holds Try.pinned (OpenSpec.upto fnExactOpenBoundSpec)

/-- 'laws.FnExactIsOpenPlan', WHERE WHAT IT READS IS OF BULK AT MOST 1048576: true; the input reads as it did. -/
def fnExactIsOpenPlanUptoRow : OpenClaim := { program := "ytfigojmdklaljab", sum := "9658ba0782069e777c87a0612311c0b4bfa2049595f3e672ee574ed5db33f10b", func := "loop.example/g01389/laws.FnExactIsOpenPlan", spec := "fnExactIsOpenPlan", apart := false, narrowed := true }
def FnExactIsOpenPlanUptoSaid : Prop := fnExactIsOpenPlanUptoRow.holds Try.pinned (OpenSpec.upto fnExactIsOpenPlanSpec)

/-- 'laws.FnExactAreRoutes', WHERE WHAT IT READS IS OF BULK AT MOST 1048576: true; the input reads as it did. -/
def fnExactAreRoutesUptoRow : OpenClaim := { program := "ytfigojmdklaljab", sum := "9658ba0782069e777c87a0612311c0b4bfa2049595f3e672ee574ed5db33f10b", func := "loop.example/g01389/laws.FnExactAreRoutes", spec := "fnExactAreRoutes", unfollowed := true, recurses := true, apart := false, narrowed := true }
def FnExactAreRoutesUptoSaid : Prop := fnExactAreRoutesUptoRow.holds Try.pinned (OpenSpec.upto fnExactAreRoutesSpec)

/-- 'laws.FnExactShopBound', WHERE WHAT IT READS IS OF BULK AT MOST 1048576: true; the input reads as it did. -/
def fnExactShopBoundUptoRow : OpenClaim := { program := "ytfigojmdklaljab", sum := "9658ba0782069e777c87a0612311c0b4bfa2049595f3e672ee574ed5db33f10b", func := "loop.example/g01389/laws.FnExactShopBound", spec := "fnExactShopBound", unfollowed := true, recurses := true, apart := false, narrowed := true }
def FnExactShopBoundUptoSaid : Prop := fnExactShopBoundUptoRow.holds Try.pinned (OpenSpec.upto fnExactShopBoundSpec)

/-- 'laws.FnExactShopStarts', WHERE WHAT IT READS IS OF BULK AT MOST 1048576: true; the input reads as it did. -/
def fnExactShopStartsUptoRow : OpenClaim := { program := "ytfigojmdklaljab", sum := "9658ba0782069e777c87a0612311c0b4bfa2049595f3e672ee574ed5db33f10b", func := "loop.example/g01389/laws.FnExactShopStarts", spec := "fnExactShopStarts", unfollowed := true, recurses := true, apart := false, narrowed := true }
def FnExactShopStartsUptoSaid : Prop := fnExactShopStartsUptoRow.holds Try.pinned (OpenSpec.upto fnExactShopStartsSpec)

/-- 'laws.FnExactIsShopPlan', WHERE WHAT IT READS IS OF BULK AT MOST 1048576: true; the input reads as it did. -/
def fnExactIsShopPlanUptoRow : OpenClaim := { program := "ytfigojmdklaljab", sum := "9658ba0782069e777c87a0612311c0b4bfa2049595f3e672ee574ed5db33f10b", func := "loop.example/g01389/laws.FnExactIsShopPlan", spec := "fnExactIsShopPlan", unfollowed := true, recurses := true, apart := false, narrowed := true }
def FnExactIsShopPlanUptoSaid : Prop := fnExactIsShopPlanUptoRow.holds Try.pinned (OpenSpec.upto fnExactIsShopPlanSpec)

/-- 'laws.FnExactTwoOrder', WHERE WHAT IT READS IS OF BULK AT MOST 1048576: true; the input reads as it did. -/
def fnExactTwoOrderUptoRow : OpenClaim := { program := "ytfigojmdklaljab", sum := "9658ba0782069e777c87a0612311c0b4bfa2049595f3e672ee574ed5db33f10b", func := "loop.example/g01389/laws.FnExactTwoOrder", spec := "fnExactTwoOrder", unfollowed := true, recurses := true, apart := false, narrowed := true }
def FnExactTwoOrderUptoSaid : Prop := fnExactTwoOrderUptoRow.holds Try.pinned (OpenSpec.upto fnExactTwoOrderSpec)

/-- 'laws.FnExactInsertOrder', WHERE WHAT IT READS IS OF BULK AT MOST 1048576: true; the input reads as it did. -/
def fnExactInsertOrderUptoRow : OpenClaim := { program := "ytfigojmdklaljab", sum := "9658ba0782069e777c87a0612311c0b4bfa2049595f3e672ee574ed5db33f10b", func := "loop.example/g01389/laws.FnExactInsertOrder", spec := "fnExactInsertOrder", inPlace := ["slices.overlaps[int64]"], unfollowed := true, recurses := true, apart := false, narrowed := true }
def FnExactInsertOrderUptoSaid : Prop := fnExactInsertOrderUptoRow.holds Try.pinned (OpenSpec.upto fnExactInsertOrderSpec)

/-- 'laws.FnExactOpenPlan', WHERE WHAT IT READS IS OF BULK AT MOST 1048576: true; the input reads as it did. -/
def fnExactOpenPlanUptoRow : OpenClaim := { program := "ytfigojmdklaljab", sum := "9658ba0782069e777c87a0612311c0b4bfa2049595f3e672ee574ed5db33f10b", func := "loop.example/g01389/laws.FnExactOpenPlan", spec := "fnExactOpenPlan", unfollowed := true, recurses := true, apart := false, narrowed := true }
def FnExactOpenPlanUptoSaid : Prop := fnExactOpenPlanUptoRow.holds Try.pinned (OpenSpec.upto fnExactOpenPlanSpec)

/-- 'laws.FnExactBestFlow', WHERE WHAT IT READS IS OF BULK AT MOST 1048576: true; the input reads as it did. -/
def fnExactBestFlowUptoRow : OpenClaim := { program := "ytfigojmdklaljab", sum := "9658ba0782069e777c87a0612311c0b4bfa2049595f3e672ee574ed5db33f10b", func := "loop.example/g01389/laws.FnExactBestFlow", spec := "fnExactBestFlow", unfollowed := true, recurses := true, apart := false, narrowed := true }
def FnExactBestFlowUptoSaid : Prop := fnExactBestFlowUptoRow.holds Try.pinned (OpenSpec.upto fnExactBestFlowSpec)

/-- 'laws.FnExactLeastStations', WHERE WHAT IT READS IS OF BULK AT MOST 1048576: true; the input reads as it did. -/
def fnExactLeastStationsUptoRow : OpenClaim := { program := "ytfigojmdklaljab", sum := "9658ba0782069e777c87a0612311c0b4bfa2049595f3e672ee574ed5db33f10b", func := "loop.example/g01389/laws.FnExactLeastStations", spec := "fnExactLeastStations", recurses := true, apart := false, narrowed := true }
def FnExactLeastStationsUptoSaid : Prop := fnExactLeastStationsUptoRow.holds Try.pinned (OpenSpec.upto fnExactLeastStationsSpec)

/-- 'laws.FnExactBestShop', WHERE WHAT IT READS IS OF BULK AT MOST 1048576: true; the input reads as it did. -/
def fnExactBestShopUptoRow : OpenClaim := { program := "ytfigojmdklaljab", sum := "9658ba0782069e777c87a0612311c0b4bfa2049595f3e672ee574ed5db33f10b", func := "loop.example/g01389/laws.FnExactBestShop", spec := "fnExactBestShop", unfollowed := true, recurses := true, apart := false, narrowed := true }
def FnExactBestShopUptoSaid : Prop := fnExactBestShopUptoRow.holds Try.pinned (OpenSpec.upto fnExactBestShopSpec)

end Rows
end Go.Proofs.Ytfigojmdklaljab
