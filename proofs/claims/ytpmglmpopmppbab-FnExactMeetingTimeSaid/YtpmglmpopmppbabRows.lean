/-
  No cell of these rows narrows 'for every input' (looked for: loops, veiled, ifaces, maps, wideKeys, modest, calm, conditions, laid).
  DERIVED. THE GIVEN ROWS OF THIS SEAT. 12 by the template 'for every input the law returns true; each argument reads behind the call as it read before'; 0 by the template 'total and deterministic' (their statements: YtpmglmpopmppbabTotals.lean).
  GIVEN WITH THE SEED: the statements are not yours to turn. If you find one false, say at which input.
  Laid BY PROGRAM, IN A SANDBOX (cutbox-rows.mjs): the forced cells as the released guide's own fill.sh prints them over the translation de0f23b39cdeb14e… (all of the seat's roots in one cut). By AI agents, Wed Nov 11 2026. No macro, syntax, notation, axiom, sorry.
-/
import Derived.Test.YtpmglmpopmppbabChecked
import GoSem.Claim
import GoSem.ClaimJoined
import GoSem.ClaimMapViews
import Derived.JoinedTies
import Derived.KernelRfl
namespace Go.Proofs.Ytpmglmpopmppbab
/- THE CELL 'sum', in the pinned program and in every row, IS THE sha256 OF THE DUMP (.gsa) THAT YtpmglmpopmppbabProg.lean LOADS. Nothing in Lean hashes anything: it is a label: what it is worth is what the hold of that sum in a sandbox is worth. -/
noncomputable def Try.pinned : Pinned := { name := "ytpmglmpopmppbab", sum := "de0f23b39cdeb14e4109404302bdbfa5e6e830ec7ba11145668687464e6e2500", checked := Try.checked }
namespace Rows
def none {H : Type} : Left H := { results := [], args := [] }

/-- 'laws.FnExactMeetingTime': WHATEVER THE INPUT: true; the input reads as it did. -/
def fnExactMeetingTimeSpec : ChangeSpec := { name := "fnExactMeetingTime", fn := fun _ => fun
  | [d1, d2, d3, d4] => { results := [.lit (.bool true)], args := [d1, d2, d3, d4] }
  | _ => none }
def fnExactMeetingTimeRow : OpenClaim := { program := "ytpmglmpopmppbab", sum := "de0f23b39cdeb14e4109404302bdbfa5e6e830ec7ba11145668687464e6e2500", func := "loop.example/g01389/laws.FnExactMeetingTime", spec := "fnExactMeetingTime", unfollowed := true, recurses := true, apart := false }
def FnExactMeetingTimeSaid : Prop := fnExactMeetingTimeRow.holds Try.pinned (OpenSpec.ofChange fnExactMeetingTimeSpec)

/-- ITS FALSE NEIGHBOUR: 'it returns false'. Refute it at one input. -/
def fnExactMeetingTimeWrong : ChangeSpec := { name := "fnExactMeetingTime", fn := fun _ => fun
  | [d1, d2, d3, d4] => { results := [.lit (.bool false)], args := [d1, d2, d3, d4] }
  | _ => none }
def FnExactMeetingTimeWrongFalsely : Prop := fnExactMeetingTimeRow.holds Try.pinned (OpenSpec.ofChange fnExactMeetingTimeWrong)

/-- 'laws.FnExactFreeTime': WHATEVER THE INPUT: true; the input reads as it did. -/
def fnExactFreeTimeSpec : ChangeSpec := { name := "fnExactFreeTime", fn := fun _ => fun
  | [d1, d2, d3, d4] => { results := [.lit (.bool true)], args := [d1, d2, d3, d4] }
  | _ => none }
def fnExactFreeTimeRow : OpenClaim := { program := "ytpmglmpopmppbab", sum := "de0f23b39cdeb14e4109404302bdbfa5e6e830ec7ba11145668687464e6e2500", func := "loop.example/g01389/laws.FnExactFreeTime", spec := "fnExactFreeTime", unfollowed := true, recurses := true, apart := false }
def FnExactFreeTimeSaid : Prop := fnExactFreeTimeRow.holds Try.pinned (OpenSpec.ofChange fnExactFreeTimeSpec)

/-- ITS FALSE NEIGHBOUR: 'it returns false'. Refute it at one input. -/
def fnExactFreeTimeWrong : ChangeSpec := { name := "fnExactFreeTime", fn := fun _ => fun
  | [d1, d2, d3, d4] => { results := [.lit (.bool false)], args := [d1, d2, d3, d4] }
  | _ => none }
def FnExactFreeTimeWrongFalsely : Prop := fnExactFreeTimeRow.holds Try.pinned (OpenSpec.ofChange fnExactFreeTimeWrong)

/-- 'laws.FnExactMostAtOnce': WHATEVER THE INPUT: true; the input reads as it did. -/
def fnExactMostAtOnceSpec : ChangeSpec := { name := "fnExactMostAtOnce", fn := fun _ => fun
  | [d] => { results := [.lit (.bool true)], args := [d] }
  | _ => none }
def fnExactMostAtOnceRow : OpenClaim := { program := "ytpmglmpopmppbab", sum := "de0f23b39cdeb14e4109404302bdbfa5e6e830ec7ba11145668687464e6e2500", func := "loop.example/g01389/laws.FnExactMostAtOnce", spec := "fnExactMostAtOnce", unfollowed := true, recurses := true, apart := false }
def FnExactMostAtOnceSaid : Prop := fnExactMostAtOnceRow.holds Try.pinned (OpenSpec.ofChange fnExactMostAtOnceSpec)

/-- ITS FALSE NEIGHBOUR: 'it returns false'. Refute it at one input. -/
def fnExactMostAtOnceWrong : ChangeSpec := { name := "fnExactMostAtOnce", fn := fun _ => fun
  | [d] => { results := [.lit (.bool false)], args := [d] }
  | _ => none }
def FnExactMostAtOnceWrongFalsely : Prop := fnExactMostAtOnceRow.holds Try.pinned (OpenSpec.ofChange fnExactMostAtOnceWrong)

/-- 'laws.FnExactRoomsOf': WHATEVER THE INPUT: true; the input reads as it did. -/
def fnExactRoomsOfSpec : ChangeSpec := { name := "fnExactRoomsOf", fn := fun _ => fun
  | [d] => { results := [.lit (.bool true)], args := [d] }
  | _ => none }
def fnExactRoomsOfRow : OpenClaim := { program := "ytpmglmpopmppbab", sum := "de0f23b39cdeb14e4109404302bdbfa5e6e830ec7ba11145668687464e6e2500", func := "loop.example/g01389/laws.FnExactRoomsOf", spec := "fnExactRoomsOf", unfollowed := true, recurses := true, apart := false }
def FnExactRoomsOfSaid : Prop := fnExactRoomsOfRow.holds Try.pinned (OpenSpec.ofChange fnExactRoomsOfSpec)

/-- ITS FALSE NEIGHBOUR: 'it returns false'. Refute it at one input. -/
def fnExactRoomsOfWrong : ChangeSpec := { name := "fnExactRoomsOf", fn := fun _ => fun
  | [d] => { results := [.lit (.bool false)], args := [d] }
  | _ => none }
def FnExactRoomsOfWrongFalsely : Prop := fnExactRoomsOfRow.holds Try.pinned (OpenSpec.ofChange fnExactRoomsOfWrong)

/-- 'laws.FnExactMostTalks': WHATEVER THE INPUT: true; the input reads as it did. -/
def fnExactMostTalksSpec : ChangeSpec := { name := "fnExactMostTalks", fn := fun _ => fun
  | [d] => { results := [.lit (.bool true)], args := [d] }
  | _ => none }
def fnExactMostTalksRow : OpenClaim := { program := "ytpmglmpopmppbab", sum := "de0f23b39cdeb14e4109404302bdbfa5e6e830ec7ba11145668687464e6e2500", func := "loop.example/g01389/laws.FnExactMostTalks", spec := "fnExactMostTalks", unfollowed := true, recurses := true, apart := false }
def FnExactMostTalksSaid : Prop := fnExactMostTalksRow.holds Try.pinned (OpenSpec.ofChange fnExactMostTalksSpec)

/-- ITS FALSE NEIGHBOUR: 'it returns false'. Refute it at one input. -/
def fnExactMostTalksWrong : ChangeSpec := { name := "fnExactMostTalks", fn := fun _ => fun
  | [d] => { results := [.lit (.bool false)], args := [d] }
  | _ => none }
def FnExactMostTalksWrongFalsely : Prop := fnExactMostTalksRow.holds Try.pinned (OpenSpec.ofChange fnExactMostTalksWrong)

/-- 'laws.FnExactWorthTalks': WHATEVER THE INPUT: true; the input reads as it did. -/
def fnExactWorthTalksSpec : ChangeSpec := { name := "fnExactWorthTalks", fn := fun _ => fun
  | [d1, d2] => { results := [.lit (.bool true)], args := [d1, d2] }
  | _ => none }
def fnExactWorthTalksRow : OpenClaim := { program := "ytpmglmpopmppbab", sum := "de0f23b39cdeb14e4109404302bdbfa5e6e830ec7ba11145668687464e6e2500", func := "loop.example/g01389/laws.FnExactWorthTalks", spec := "fnExactWorthTalks", unfollowed := true, recurses := true, apart := false }
def FnExactWorthTalksSaid : Prop := fnExactWorthTalksRow.holds Try.pinned (OpenSpec.ofChange fnExactWorthTalksSpec)

/-- ITS FALSE NEIGHBOUR: 'it returns false'. Refute it at one input. -/
def fnExactWorthTalksWrong : ChangeSpec := { name := "fnExactWorthTalks", fn := fun _ => fun
  | [d1, d2] => { results := [.lit (.bool false)], args := [d1, d2] }
  | _ => none }
def FnExactWorthTalksWrongFalsely : Prop := fnExactWorthTalksRow.holds Try.pinned (OpenSpec.ofChange fnExactWorthTalksWrong)

/-- 'laws.FnExactLeastColours': WHATEVER THE INPUT: true; the input reads as it did. -/
def fnExactLeastColoursSpec : ChangeSpec := { name := "fnExactLeastColours", fn := fun _ => fun
  | [d1, d2] => { results := [.lit (.bool true)], args := [d1, d2] }
  | _ => none }
def fnExactLeastColoursRow : OpenClaim := { program := "ytpmglmpopmppbab", sum := "de0f23b39cdeb14e4109404302bdbfa5e6e830ec7ba11145668687464e6e2500", func := "loop.example/g01389/laws.FnExactLeastColours", spec := "fnExactLeastColours", unfollowed := true, recurses := true, apart := false }
def FnExactLeastColoursSaid : Prop := fnExactLeastColoursRow.holds Try.pinned (OpenSpec.ofChange fnExactLeastColoursSpec)

/-- ITS FALSE NEIGHBOUR: 'it returns false'. Refute it at one input. -/
def fnExactLeastColoursWrong : ChangeSpec := { name := "fnExactLeastColours", fn := fun _ => fun
  | [d1, d2] => { results := [.lit (.bool false)], args := [d1, d2] }
  | _ => none }
def FnExactLeastColoursWrongFalsely : Prop := fnExactLeastColoursRow.holds Try.pinned (OpenSpec.ofChange fnExactLeastColoursWrong)

/-- 'laws.FnExactGreatClique': WHATEVER THE INPUT: true; the input reads as it did. -/
def fnExactGreatCliqueSpec : ChangeSpec := { name := "fnExactGreatClique", fn := fun _ => fun
  | [d1, d2] => { results := [.lit (.bool true)], args := [d1, d2] }
  | _ => none }
def fnExactGreatCliqueRow : OpenClaim := { program := "ytpmglmpopmppbab", sum := "de0f23b39cdeb14e4109404302bdbfa5e6e830ec7ba11145668687464e6e2500", func := "loop.example/g01389/laws.FnExactGreatClique", spec := "fnExactGreatClique", unfollowed := true, recurses := true, apart := false }
def FnExactGreatCliqueSaid : Prop := fnExactGreatCliqueRow.holds Try.pinned (OpenSpec.ofChange fnExactGreatCliqueSpec)

/-- ITS FALSE NEIGHBOUR: 'it returns false'. Refute it at one input. -/
def fnExactGreatCliqueWrong : ChangeSpec := { name := "fnExactGreatClique", fn := fun _ => fun
  | [d1, d2] => { results := [.lit (.bool false)], args := [d1, d2] }
  | _ => none }
def FnExactGreatCliqueWrongFalsely : Prop := fnExactGreatCliqueRow.holds Try.pinned (OpenSpec.ofChange fnExactGreatCliqueWrong)

/-- 'laws.FnExactCountColours': WHATEVER THE INPUT: true; the input reads as it did. -/
def fnExactCountColoursSpec : ChangeSpec := { name := "fnExactCountColours", fn := fun _ => fun
  | [d1, d2, d3] => { results := [.lit (.bool true)], args := [d1, d2, d3] }
  | _ => none }
def fnExactCountColoursRow : OpenClaim := { program := "ytpmglmpopmppbab", sum := "de0f23b39cdeb14e4109404302bdbfa5e6e830ec7ba11145668687464e6e2500", func := "loop.example/g01389/laws.FnExactCountColours", spec := "fnExactCountColours", unfollowed := true, recurses := true, apart := false }
def FnExactCountColoursSaid : Prop := fnExactCountColoursRow.holds Try.pinned (OpenSpec.ofChange fnExactCountColoursSpec)

/-- ITS FALSE NEIGHBOUR: 'it returns false'. Refute it at one input. -/
def fnExactCountColoursWrong : ChangeSpec := { name := "fnExactCountColours", fn := fun _ => fun
  | [d1, d2, d3] => { results := [.lit (.bool false)], args := [d1, d2, d3] }
  | _ => none }
def FnExactCountColoursWrongFalsely : Prop := fnExactCountColoursRow.holds Try.pinned (OpenSpec.ofChange fnExactCountColoursWrong)

/-- 'laws.FnExactMendPlan': WHATEVER THE INPUT: true; the input reads as it did. -/
def fnExactMendPlanSpec : ChangeSpec := { name := "fnExactMendPlan", fn := fun _ => fun
  | [d1, d2, d3, d4, d5] => { results := [.lit (.bool true)], args := [d1, d2, d3, d4, d5] }
  | _ => none }
def fnExactMendPlanRow : OpenClaim := { program := "ytpmglmpopmppbab", sum := "de0f23b39cdeb14e4109404302bdbfa5e6e830ec7ba11145668687464e6e2500", func := "loop.example/g01389/laws.FnExactMendPlan", spec := "fnExactMendPlan", unfollowed := true, recurses := true, apart := false }
def FnExactMendPlanSaid : Prop := fnExactMendPlanRow.holds Try.pinned (OpenSpec.ofChange fnExactMendPlanSpec)

/-- ITS FALSE NEIGHBOUR: 'it returns false'. Refute it at one input. -/
def fnExactMendPlanWrong : ChangeSpec := { name := "fnExactMendPlan", fn := fun _ => fun
  | [d1, d2, d3, d4, d5] => { results := [.lit (.bool false)], args := [d1, d2, d3, d4, d5] }
  | _ => none }
def FnExactMendPlanWrongFalsely : Prop := fnExactMendPlanRow.holds Try.pinned (OpenSpec.ofChange fnExactMendPlanWrong)

/-- 'laws.FnExactValidSaved': WHATEVER THE INPUT: true; the input reads as it did. -/
def fnExactValidSavedSpec : ChangeSpec := { name := "fnExactValidSaved", fn := fun _ => fun
  | [d] => { results := [.lit (.bool true)], args := [d] }
  | _ => none }
def fnExactValidSavedRow : OpenClaim := { program := "ytpmglmpopmppbab", sum := "de0f23b39cdeb14e4109404302bdbfa5e6e830ec7ba11145668687464e6e2500", func := "loop.example/g01389/laws.FnExactValidSaved", spec := "fnExactValidSaved", apart := false }
def FnExactValidSavedSaid : Prop := fnExactValidSavedRow.holds Try.pinned (OpenSpec.ofChange fnExactValidSavedSpec)

/-- ITS FALSE NEIGHBOUR: 'it returns false'. Refute it at one input. -/
def fnExactValidSavedWrong : ChangeSpec := { name := "fnExactValidSaved", fn := fun _ => fun
  | [d] => { results := [.lit (.bool false)], args := [d] }
  | _ => none }
def FnExactValidSavedWrongFalsely : Prop := fnExactValidSavedRow.holds Try.pinned (OpenSpec.ofChange fnExactValidSavedWrong)

/-- 'laws.FnExactSameSaved': WHATEVER THE INPUT: true; the input reads as it did. -/
def fnExactSameSavedSpec : ChangeSpec := { name := "fnExactSameSaved", fn := fun _ => fun
  | [d1, d2] => { results := [.lit (.bool true)], args := [d1, d2] }
  | _ => none }
def fnExactSameSavedRow : OpenClaim := { program := "ytpmglmpopmppbab", sum := "de0f23b39cdeb14e4109404302bdbfa5e6e830ec7ba11145668687464e6e2500", func := "loop.example/g01389/laws.FnExactSameSaved", spec := "fnExactSameSaved", unfollowed := true, recurses := true, apart := false }
def FnExactSameSavedSaid : Prop := fnExactSameSavedRow.holds Try.pinned (OpenSpec.ofChange fnExactSameSavedSpec)

/-- ITS FALSE NEIGHBOUR: 'it returns false'. Refute it at one input. -/
def fnExactSameSavedWrong : ChangeSpec := { name := "fnExactSameSaved", fn := fun _ => fun
  | [d1, d2] => { results := [.lit (.bool false)], args := [d1, d2] }
  | _ => none }
def FnExactSameSavedWrongFalsely : Prop := fnExactSameSavedRow.holds Try.pinned (OpenSpec.ofChange fnExactSameSavedWrong)

/- THE SECOND FORM. 'bulk': how many values and letters a reading holds, each counted each time it is reached (what is shared counts as often as it is met; a slice's spare places count too). A statement '..UptoSaid' is the law's where the arguments, and the package variables that the reading takes, are together of bulk at most 1048576: NARROWER than '..Said'. Prove '..Said' where nothing that the law and all that it calls make is longer than what came in: it says more and counts as full. Else prove '..UptoSaid'. A law counts once. -/
mutual
def uptoBulk {H : Type} : DataW H → Nat
  | .lit (.string bytes) => bytes.length + 1
  | .lit _ => 1
  | .nil => 1
  | .ptr d => uptoBulk d + 1
  | .slice elems spare => uptoBulkAll elems + uptoBulkAll spare + 1
  | .agg parts => uptoBulkAll parts + 1
  | .iface _ d => uptoBulk d + 1
  | .map entries => uptoBulkEntries entries + 1
  | .held _ => 1
def uptoBulkAll {H : Type} : List (DataW H) → Nat
  | [] => 0
  | d :: r => uptoBulk d + uptoBulkAll r
def uptoBulkEntries {H : Type} : List (Lit × DataW H) → Nat
  | [] => 0
  | x :: r => uptoBulkEntry x + uptoBulkEntries r
def uptoBulkEntry {H : Type} : Lit × DataW H → Nat
  | (.string bytes, d) => bytes.length + uptoBulk d + 1
  | (_, d) => uptoBulk d + 1
 end
def uptoSmall : (H : Type) → List (DataW H) → Bool := fun _ ds => decide (uptoBulkAll ds ≤ 1048576)
def OpenSpec.upto (s : _root_.Go.ChangeSpec) : _root_.Go.OpenSpec := { _root_.Go.OpenSpec.ofChange s with cond := some uptoSmall }

/-- 'laws.FnExactMeetingTime', WHERE WHAT IT READS IS OF BULK AT MOST 1048576: true; the input reads as it did. -/
def fnExactMeetingTimeUptoRow : OpenClaim := { program := "ytpmglmpopmppbab", sum := "de0f23b39cdeb14e4109404302bdbfa5e6e830ec7ba11145668687464e6e2500", func := "loop.example/g01389/laws.FnExactMeetingTime", spec := "fnExactMeetingTime", unfollowed := true, recurses := true, apart := false, narrowed := true }
def FnExactMeetingTimeUptoSaid : Prop := fnExactMeetingTimeUptoRow.holds Try.pinned (OpenSpec.upto fnExactMeetingTimeSpec)

/-- 'laws.FnExactFreeTime', WHERE WHAT IT READS IS OF BULK AT MOST 1048576: true; the input reads as it did. -/
def fnExactFreeTimeUptoRow : OpenClaim := { program := "ytpmglmpopmppbab", sum := "de0f23b39cdeb14e4109404302bdbfa5e6e830ec7ba11145668687464e6e2500", func := "loop.example/g01389/laws.FnExactFreeTime", spec := "fnExactFreeTime", unfollowed := true, recurses := true, apart := false, narrowed := true }
def FnExactFreeTimeUptoSaid : Prop := fnExactFreeTimeUptoRow.holds Try.pinned (OpenSpec.upto fnExactFreeTimeSpec)

/-- 'laws.FnExactMostAtOnce', WHERE WHAT IT READS IS OF BULK AT MOST 1048576: true; the input reads as it did. -/
def fnExactMostAtOnceUptoRow : OpenClaim := { program := "ytpmglmpopmppbab", sum := "de0f23b39cdeb14e4109404302bdbfa5e6e830ec7ba11145668687464e6e2500", func := "loop.example/g01389/laws.FnExactMostAtOnce", spec := "fnExactMostAtOnce", unfollowed := true, recurses := true, apart := false, narrowed := true }
def FnExactMostAtOnceUptoSaid : Prop := fnExactMostAtOnceUptoRow.holds Try.pinned (OpenSpec.upto fnExactMostAtOnceSpec)

/-- 'laws.FnExactRoomsOf', WHERE WHAT IT READS IS OF BULK AT MOST 1048576: true; the input reads as it did. -/
def fnExactRoomsOfUptoRow : OpenClaim := { program := "ytpmglmpopmppbab", sum := "de0f23b39cdeb14e4109404302bdbfa5e6e830ec7ba11145668687464e6e2500", func := "loop.example/g01389/laws.FnExactRoomsOf", spec := "fnExactRoomsOf", unfollowed := true, recurses := true, apart := false, narrowed := true }
def FnExactRoomsOfUptoSaid : Prop := fnExactRoomsOfUptoRow.holds Try.pinned (OpenSpec.upto fnExactRoomsOfSpec)

/-- 'laws.FnExactMostTalks', WHERE WHAT IT READS IS OF BULK AT MOST 1048576: true; the input reads as it did. -/
def fnExactMostTalksUptoRow : OpenClaim := { program := "ytpmglmpopmppbab", sum := "de0f23b39cdeb14e4109404302bdbfa5e6e830ec7ba11145668687464e6e2500", func := "loop.example/g01389/laws.FnExactMostTalks", spec := "fnExactMostTalks", unfollowed := true, recurses := true, apart := false, narrowed := true }
def FnExactMostTalksUptoSaid : Prop := fnExactMostTalksUptoRow.holds Try.pinned (OpenSpec.upto fnExactMostTalksSpec)

/-- 'laws.FnExactWorthTalks', WHERE WHAT IT READS IS OF BULK AT MOST 1048576: true; the input reads as it did. -/
def fnExactWorthTalksUptoRow : OpenClaim := { program := "ytpmglmpopmppbab", sum := "de0f23b39cdeb14e4109404302bdbfa5e6e830ec7ba11145668687464e6e2500", func := "loop.example/g01389/laws.FnExactWorthTalks", spec := "fnExactWorthTalks", unfollowed := true, recurses := true, apart := false, narrowed := true }
def FnExactWorthTalksUptoSaid : Prop := fnExactWorthTalksUptoRow.holds Try.pinned (OpenSpec.upto fnExactWorthTalksSpec)

/-- 'laws.FnExactLeastColours', WHERE WHAT IT READS IS OF BULK AT MOST 1048576: true; the input reads as it did. -/
def fnExactLeastColoursUptoRow : OpenClaim := { program := "ytpmglmpopmppbab", sum := "de0f23b39cdeb14e4109404302bdbfa5e6e830ec7ba11145668687464e6e2500", func := "loop.example/g01389/laws.FnExactLeastColours", spec := "fnExactLeastColours", unfollowed := true, recurses := true, apart := false, narrowed := true }
def FnExactLeastColoursUptoSaid : Prop := fnExactLeastColoursUptoRow.holds Try.pinned (OpenSpec.upto fnExactLeastColoursSpec)

/-- 'laws.FnExactGreatClique', WHERE WHAT IT READS IS OF BULK AT MOST 1048576: true; the input reads as it did. -/
def fnExactGreatCliqueUptoRow : OpenClaim := { program := "ytpmglmpopmppbab", sum := "de0f23b39cdeb14e4109404302bdbfa5e6e830ec7ba11145668687464e6e2500", func := "loop.example/g01389/laws.FnExactGreatClique", spec := "fnExactGreatClique", unfollowed := true, recurses := true, apart := false, narrowed := true }
def FnExactGreatCliqueUptoSaid : Prop := fnExactGreatCliqueUptoRow.holds Try.pinned (OpenSpec.upto fnExactGreatCliqueSpec)

/-- 'laws.FnExactCountColours', WHERE WHAT IT READS IS OF BULK AT MOST 1048576: true; the input reads as it did. -/
def fnExactCountColoursUptoRow : OpenClaim := { program := "ytpmglmpopmppbab", sum := "de0f23b39cdeb14e4109404302bdbfa5e6e830ec7ba11145668687464e6e2500", func := "loop.example/g01389/laws.FnExactCountColours", spec := "fnExactCountColours", unfollowed := true, recurses := true, apart := false, narrowed := true }
def FnExactCountColoursUptoSaid : Prop := fnExactCountColoursUptoRow.holds Try.pinned (OpenSpec.upto fnExactCountColoursSpec)

/-- 'laws.FnExactMendPlan', WHERE WHAT IT READS IS OF BULK AT MOST 1048576: true; the input reads as it did. -/
def fnExactMendPlanUptoRow : OpenClaim := { program := "ytpmglmpopmppbab", sum := "de0f23b39cdeb14e4109404302bdbfa5e6e830ec7ba11145668687464e6e2500", func := "loop.example/g01389/laws.FnExactMendPlan", spec := "fnExactMendPlan", unfollowed := true, recurses := true, apart := false, narrowed := true }
def FnExactMendPlanUptoSaid : Prop := fnExactMendPlanUptoRow.holds Try.pinned (OpenSpec.upto fnExactMendPlanSpec)

/-- 'laws.FnExactValidSaved', WHERE WHAT IT READS IS OF BULK AT MOST 1048576: true; the input reads as it did. -/
def fnExactValidSavedUptoRow : OpenClaim := { program := "ytpmglmpopmppbab", sum := "de0f23b39cdeb14e4109404302bdbfa5e6e830ec7ba11145668687464e6e2500", func := "loop.example/g01389/laws.FnExactValidSaved", spec := "fnExactValidSaved", apart := false, narrowed := true }
def FnExactValidSavedUptoSaid : Prop := fnExactValidSavedUptoRow.holds Try.pinned (OpenSpec.upto fnExactValidSavedSpec)

/-- 'laws.FnExactSameSaved', WHERE WHAT IT READS IS OF BULK AT MOST 1048576: true; the input reads as it did. -/
def fnExactSameSavedUptoRow : OpenClaim := { program := "ytpmglmpopmppbab", sum := "de0f23b39cdeb14e4109404302bdbfa5e6e830ec7ba11145668687464e6e2500", func := "loop.example/g01389/laws.FnExactSameSaved", spec := "fnExactSameSaved", unfollowed := true, recurses := true, apart := false, narrowed := true }
def FnExactSameSavedUptoSaid : Prop := fnExactSameSavedUptoRow.holds Try.pinned (OpenSpec.upto fnExactSameSavedSpec)

end Rows
end Go.Proofs.Ytpmglmpopmppbab
