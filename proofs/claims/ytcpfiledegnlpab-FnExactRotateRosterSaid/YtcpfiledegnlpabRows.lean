/-
  No cell of these rows narrows 'for every input' (looked for: loops, veiled, ifaces, maps, wideKeys, modest, calm, conditions, laid).
  DERIVED. THE GIVEN ROWS OF THIS SEAT. 12 by the template 'for every input the law returns true; each argument reads behind the call as it read before'; 0 by the template 'total and deterministic' (their statements: YtcpfiledegnlpabTotals.lean).
  GIVEN WITH THE SEED: the statements are not yours to turn. If you find one false, say at which input.
  Laid BY PROGRAM, IN A SANDBOX (cutbox-rows.mjs): the forced cells as the released guide's own fill.sh prints them over the translation fd134acd34331a1e… (all of the seat's roots in one cut). By AI agents, Wed Nov 11 2026. No macro, syntax, notation, axiom, sorry.
-/
import Derived.Test.YtcpfiledegnlpabChecked
import GoSem.Claim
import GoSem.ClaimJoined
import GoSem.ClaimMapViews
import Derived.JoinedTies
import Derived.KernelRfl
namespace Go.Proofs.Ytcpfiledegnlpab
/- THE CELL 'sum', in the pinned program and in every row, IS THE sha256 OF THE DUMP (.gsa) THAT YtcpfiledegnlpabProg.lean LOADS. Nothing in Lean hashes anything: it is a label: what it is worth is what the hold of that sum in a sandbox is worth. -/
noncomputable def Try.pinned : Pinned := { name := "ytcpfiledegnlpab", sum := "fd134acd34331a1e2c9d722c94de302fa85b82b8a10186a12358ab55745ef5f4", checked := Try.checked }
namespace Rows
def none {H : Type} : Left H := { results := [], args := [] }

/-- 'laws.FnExactWaitChance': WHATEVER THE INPUT: true; the input reads as it did. -/
def fnExactWaitChanceSpec : ChangeSpec := { name := "fnExactWaitChance", fn := fun _ => fun
  | [d1, d2] => { results := [.lit (.bool true)], args := [d1, d2] }
  | _ => none }
def fnExactWaitChanceRow : OpenClaim := { program := "ytcpfiledegnlpab", sum := "fd134acd34331a1e2c9d722c94de302fa85b82b8a10186a12358ab55745ef5f4", func := "loop.example/g01389/laws.FnExactWaitChance", spec := "fnExactWaitChance", plainKeys := false, apart := false }
def FnExactWaitChanceSaid : Prop := fnExactWaitChanceRow.holds Try.pinned (OpenSpec.ofChange fnExactWaitChanceSpec)

/-- ITS FALSE NEIGHBOUR: 'it returns false'. Refute it at one input. -/
def fnExactWaitChanceWrong : ChangeSpec := { name := "fnExactWaitChance", fn := fun _ => fun
  | [d1, d2] => { results := [.lit (.bool false)], args := [d1, d2] }
  | _ => none }
def FnExactWaitChanceWrongFalsely : Prop := fnExactWaitChanceRow.holds Try.pinned (OpenSpec.ofChange fnExactWaitChanceWrong)

/-- 'laws.FnExactBlockChance': WHATEVER THE INPUT: true; the input reads as it did. -/
def fnExactBlockChanceSpec : ChangeSpec := { name := "fnExactBlockChance", fn := fun _ => fun
  | [d1, d2] => { results := [.lit (.bool true)], args := [d1, d2] }
  | _ => none }
def fnExactBlockChanceRow : OpenClaim := { program := "ytcpfiledegnlpab", sum := "fd134acd34331a1e2c9d722c94de302fa85b82b8a10186a12358ab55745ef5f4", func := "loop.example/g01389/laws.FnExactBlockChance", spec := "fnExactBlockChance", plainKeys := false, apart := false }
def FnExactBlockChanceSaid : Prop := fnExactBlockChanceRow.holds Try.pinned (OpenSpec.ofChange fnExactBlockChanceSpec)

/-- ITS FALSE NEIGHBOUR: 'it returns false'. Refute it at one input. -/
def fnExactBlockChanceWrong : ChangeSpec := { name := "fnExactBlockChance", fn := fun _ => fun
  | [d1, d2] => { results := [.lit (.bool false)], args := [d1, d2] }
  | _ => none }
def FnExactBlockChanceWrongFalsely : Prop := fnExactBlockChanceRow.holds Try.pinned (OpenSpec.ofChange fnExactBlockChanceWrong)

/-- 'laws.FnExactStaffFor': WHATEVER THE INPUT: true; the input reads as it did. -/
def fnExactStaffForSpec : ChangeSpec := { name := "fnExactStaffFor", fn := fun _ => fun
  | [d1, d2] => { results := [.lit (.bool true)], args := [d1, d2] }
  | _ => none }
def fnExactStaffForRow : OpenClaim := { program := "ytcpfiledegnlpab", sum := "fd134acd34331a1e2c9d722c94de302fa85b82b8a10186a12358ab55745ef5f4", func := "loop.example/g01389/laws.FnExactStaffFor", spec := "fnExactStaffFor", plainKeys := false, apart := false }
def FnExactStaffForSaid : Prop := fnExactStaffForRow.holds Try.pinned (OpenSpec.ofChange fnExactStaffForSpec)

/-- ITS FALSE NEIGHBOUR: 'it returns false'. Refute it at one input. -/
def fnExactStaffForWrong : ChangeSpec := { name := "fnExactStaffFor", fn := fun _ => fun
  | [d1, d2] => { results := [.lit (.bool false)], args := [d1, d2] }
  | _ => none }
def FnExactStaffForWrongFalsely : Prop := fnExactStaffForRow.holds Try.pinned (OpenSpec.ofChange fnExactStaffForWrong)

/-- 'laws.FnExactMeanWait': WHATEVER THE INPUT: true; the input reads as it did. -/
def fnExactMeanWaitSpec : ChangeSpec := { name := "fnExactMeanWait", fn := fun _ => fun
  | [d1, d2] => { results := [.lit (.bool true)], args := [d1, d2] }
  | _ => none }
def fnExactMeanWaitRow : OpenClaim := { program := "ytcpfiledegnlpab", sum := "fd134acd34331a1e2c9d722c94de302fa85b82b8a10186a12358ab55745ef5f4", func := "loop.example/g01389/laws.FnExactMeanWait", spec := "fnExactMeanWait", plainKeys := false, apart := false }
def FnExactMeanWaitSaid : Prop := fnExactMeanWaitRow.holds Try.pinned (OpenSpec.ofChange fnExactMeanWaitSpec)

/-- ITS FALSE NEIGHBOUR: 'it returns false'. Refute it at one input. -/
def fnExactMeanWaitWrong : ChangeSpec := { name := "fnExactMeanWait", fn := fun _ => fun
  | [d1, d2] => { results := [.lit (.bool false)], args := [d1, d2] }
  | _ => none }
def FnExactMeanWaitWrongFalsely : Prop := fnExactMeanWaitRow.holds Try.pinned (OpenSpec.ofChange fnExactMeanWaitWrong)

/-- 'laws.FnExactIdleMoves': WHATEVER THE INPUT: true; the input reads as it did. -/
def fnExactIdleMovesSpec : ChangeSpec := { name := "fnExactIdleMoves", fn := fun _ => fun
  | [d1, d2, d3] => { results := [.lit (.bool true)], args := [d1, d2, d3] }
  | _ => none }
def fnExactIdleMovesRow : OpenClaim := { program := "ytcpfiledegnlpab", sum := "fd134acd34331a1e2c9d722c94de302fa85b82b8a10186a12358ab55745ef5f4", func := "loop.example/g01389/laws.FnExactIdleMoves", spec := "fnExactIdleMoves", unfollowed := true, recurses := true, plainKeys := false, apart := false }
def FnExactIdleMovesSaid : Prop := fnExactIdleMovesRow.holds Try.pinned (OpenSpec.ofChange fnExactIdleMovesSpec)

/-- ITS FALSE NEIGHBOUR: 'it returns false'. Refute it at one input. -/
def fnExactIdleMovesWrong : ChangeSpec := { name := "fnExactIdleMoves", fn := fun _ => fun
  | [d1, d2, d3] => { results := [.lit (.bool false)], args := [d1, d2, d3] }
  | _ => none }
def FnExactIdleMovesWrongFalsely : Prop := fnExactIdleMovesRow.holds Try.pinned (OpenSpec.ofChange fnExactIdleMovesWrong)

/-- 'laws.FnExactFewestVehicles': WHATEVER THE INPUT: true; the input reads as it did. -/
def fnExactFewestVehiclesSpec : ChangeSpec := { name := "fnExactFewestVehicles", fn := fun _ => fun
  | [d1, d2] => { results := [.lit (.bool true)], args := [d1, d2] }
  | _ => none }
def fnExactFewestVehiclesRow : OpenClaim := { program := "ytcpfiledegnlpab", sum := "fd134acd34331a1e2c9d722c94de302fa85b82b8a10186a12358ab55745ef5f4", func := "loop.example/g01389/laws.FnExactFewestVehicles", spec := "fnExactFewestVehicles", unfollowed := true, recurses := true, plainKeys := false, apart := false }
def FnExactFewestVehiclesSaid : Prop := fnExactFewestVehiclesRow.holds Try.pinned (OpenSpec.ofChange fnExactFewestVehiclesSpec)

/-- ITS FALSE NEIGHBOUR: 'it returns false'. Refute it at one input. -/
def fnExactFewestVehiclesWrong : ChangeSpec := { name := "fnExactFewestVehicles", fn := fun _ => fun
  | [d1, d2] => { results := [.lit (.bool false)], args := [d1, d2] }
  | _ => none }
def FnExactFewestVehiclesWrongFalsely : Prop := fnExactFewestVehiclesRow.holds Try.pinned (OpenSpec.ofChange fnExactFewestVehiclesWrong)

/-- 'laws.FnExactMatchSkills': WHATEVER THE INPUT: true; the input reads as it did. -/
def fnExactMatchSkillsSpec : ChangeSpec := { name := "fnExactMatchSkills", fn := fun _ => fun
  | [d1, d2] => { results := [.lit (.bool true)], args := [d1, d2] }
  | _ => none }
def fnExactMatchSkillsRow : OpenClaim := { program := "ytcpfiledegnlpab", sum := "fd134acd34331a1e2c9d722c94de302fa85b82b8a10186a12358ab55745ef5f4", func := "loop.example/g01389/laws.FnExactMatchSkills", spec := "fnExactMatchSkills", unfollowed := true, recurses := true, plainKeys := false, apart := false }
def FnExactMatchSkillsSaid : Prop := fnExactMatchSkillsRow.holds Try.pinned (OpenSpec.ofChange fnExactMatchSkillsSpec)

/-- ITS FALSE NEIGHBOUR: 'it returns false'. Refute it at one input. -/
def fnExactMatchSkillsWrong : ChangeSpec := { name := "fnExactMatchSkills", fn := fun _ => fun
  | [d1, d2] => { results := [.lit (.bool false)], args := [d1, d2] }
  | _ => none }
def FnExactMatchSkillsWrongFalsely : Prop := fnExactMatchSkillsRow.holds Try.pinned (OpenSpec.ofChange fnExactMatchSkillsWrong)

/-- 'laws.FnExactCountShifts': WHATEVER THE INPUT: true; the input reads as it did. -/
def fnExactCountShiftsSpec : ChangeSpec := { name := "fnExactCountShifts", fn := fun _ => fun
  | [d] => { results := [.lit (.bool true)], args := [d] }
  | _ => none }
def fnExactCountShiftsRow : OpenClaim := { program := "ytcpfiledegnlpab", sum := "fd134acd34331a1e2c9d722c94de302fa85b82b8a10186a12358ab55745ef5f4", func := "loop.example/g01389/laws.FnExactCountShifts", spec := "fnExactCountShifts", unfollowed := true, recurses := true, plainKeys := false, apart := false }
def FnExactCountShiftsSaid : Prop := fnExactCountShiftsRow.holds Try.pinned (OpenSpec.ofChange fnExactCountShiftsSpec)

/-- ITS FALSE NEIGHBOUR: 'it returns false'. Refute it at one input. -/
def fnExactCountShiftsWrong : ChangeSpec := { name := "fnExactCountShifts", fn := fun _ => fun
  | [d] => { results := [.lit (.bool false)], args := [d] }
  | _ => none }
def FnExactCountShiftsWrongFalsely : Prop := fnExactCountShiftsRow.holds Try.pinned (OpenSpec.ofChange fnExactCountShiftsWrong)

/-- 'laws.FnExactFirstShifts': WHATEVER THE INPUT: true; the input reads as it did. -/
def fnExactFirstShiftsSpec : ChangeSpec := { name := "fnExactFirstShifts", fn := fun _ => fun
  | [d1, d2] => { results := [.lit (.bool true)], args := [d1, d2] }
  | _ => none }
def fnExactFirstShiftsRow : OpenClaim := { program := "ytcpfiledegnlpab", sum := "fd134acd34331a1e2c9d722c94de302fa85b82b8a10186a12358ab55745ef5f4", func := "loop.example/g01389/laws.FnExactFirstShifts", spec := "fnExactFirstShifts", unfollowed := true, recurses := true, plainKeys := false, apart := false }
def FnExactFirstShiftsSaid : Prop := fnExactFirstShiftsRow.holds Try.pinned (OpenSpec.ofChange fnExactFirstShiftsSpec)

/-- ITS FALSE NEIGHBOUR: 'it returns false'. Refute it at one input. -/
def fnExactFirstShiftsWrong : ChangeSpec := { name := "fnExactFirstShifts", fn := fun _ => fun
  | [d1, d2] => { results := [.lit (.bool false)], args := [d1, d2] }
  | _ => none }
def FnExactFirstShiftsWrongFalsely : Prop := fnExactFirstShiftsRow.holds Try.pinned (OpenSpec.ofChange fnExactFirstShiftsWrong)

/-- 'laws.FnExactNextShift': WHATEVER THE INPUT: true; the input reads as it did. -/
def fnExactNextShiftSpec : ChangeSpec := { name := "fnExactNextShift", fn := fun _ => fun
  | [d1, d2] => { results := [.lit (.bool true)], args := [d1, d2] }
  | _ => none }
def fnExactNextShiftRow : OpenClaim := { program := "ytcpfiledegnlpab", sum := "fd134acd34331a1e2c9d722c94de302fa85b82b8a10186a12358ab55745ef5f4", func := "loop.example/g01389/laws.FnExactNextShift", spec := "fnExactNextShift", unfollowed := true, recurses := true, plainKeys := false, apart := false }
def FnExactNextShiftSaid : Prop := fnExactNextShiftRow.holds Try.pinned (OpenSpec.ofChange fnExactNextShiftSpec)

/-- ITS FALSE NEIGHBOUR: 'it returns false'. Refute it at one input. -/
def fnExactNextShiftWrong : ChangeSpec := { name := "fnExactNextShift", fn := fun _ => fun
  | [d1, d2] => { results := [.lit (.bool false)], args := [d1, d2] }
  | _ => none }
def FnExactNextShiftWrongFalsely : Prop := fnExactNextShiftRow.holds Try.pinned (OpenSpec.ofChange fnExactNextShiftWrong)

/-- 'laws.FnExactGreedyCover': WHATEVER THE INPUT: true; the input reads as it did. -/
def fnExactGreedyCoverSpec : ChangeSpec := { name := "fnExactGreedyCover", fn := fun _ => fun
  | [d1, d2] => { results := [.lit (.bool true)], args := [d1, d2] }
  | _ => none }
def fnExactGreedyCoverRow : OpenClaim := { program := "ytcpfiledegnlpab", sum := "fd134acd34331a1e2c9d722c94de302fa85b82b8a10186a12358ab55745ef5f4", func := "loop.example/g01389/laws.FnExactGreedyCover", spec := "fnExactGreedyCover", unfollowed := true, recurses := true, plainKeys := false, apart := false }
def FnExactGreedyCoverSaid : Prop := fnExactGreedyCoverRow.holds Try.pinned (OpenSpec.ofChange fnExactGreedyCoverSpec)

/-- ITS FALSE NEIGHBOUR: 'it returns false'. Refute it at one input. -/
def fnExactGreedyCoverWrong : ChangeSpec := { name := "fnExactGreedyCover", fn := fun _ => fun
  | [d1, d2] => { results := [.lit (.bool false)], args := [d1, d2] }
  | _ => none }
def FnExactGreedyCoverWrongFalsely : Prop := fnExactGreedyCoverRow.holds Try.pinned (OpenSpec.ofChange fnExactGreedyCoverWrong)

/-- 'laws.FnExactRotateRoster': WHATEVER THE INPUT: true; the input reads as it did. -/
def fnExactRotateRosterSpec : ChangeSpec := { name := "fnExactRotateRoster", fn := fun _ => fun
  | [d1, d2, d3, d4] => { results := [.lit (.bool true)], args := [d1, d2, d3, d4] }
  | _ => none }
def fnExactRotateRosterRow : OpenClaim := { program := "ytcpfiledegnlpab", sum := "fd134acd34331a1e2c9d722c94de302fa85b82b8a10186a12358ab55745ef5f4", func := "loop.example/g01389/laws.FnExactRotateRoster", spec := "fnExactRotateRoster", unfollowed := true, recurses := true, plainKeys := false, apart := false }
def FnExactRotateRosterSaid : Prop := fnExactRotateRosterRow.holds Try.pinned (OpenSpec.ofChange fnExactRotateRosterSpec)

/-- ITS FALSE NEIGHBOUR: 'it returns false'. Refute it at one input. -/
def fnExactRotateRosterWrong : ChangeSpec := { name := "fnExactRotateRoster", fn := fun _ => fun
  | [d1, d2, d3, d4] => { results := [.lit (.bool false)], args := [d1, d2, d3, d4] }
  | _ => none }
def FnExactRotateRosterWrongFalsely : Prop := fnExactRotateRosterRow.holds Try.pinned (OpenSpec.ofChange fnExactRotateRosterWrong)

/- THE SECOND FORM. 'bulk': how many values and letters a reading holds, each counted each time it is reached (what is shared counts as often as it is met; a slice's spare places count too). A statement '..UptoSaid' is the law's where the arguments, and the package variables that the reading takes, are together of bulk at most 1048576: NARROWER than '..Said'. Prove '..Said' where nothing that the law and all that it calls make is longer than what came in: it says more and counts as full. Else prove '..UptoSaid'. A law counts once. -/
mutual
def uptoBulk {H : Type} : DataW H → Nat
  | .lit (.string bytes) => bytes.length + 1
  | .lit _ => 1
  | .nil => 1
  | .ptr d => uptoBulk d + 1
  | .slice elems spare => uptoBulkAll elems + uptoBulkAll spare + 1
  | .agg parts => uptoBulkAll parts + 1
  | .iface _ d => uptoBulk d + 1
  | .map entries => uptoBulkEntries entries + 1
  | .held _ => 1
def uptoBulkAll {H : Type} : List (DataW H) → Nat
  | [] => 0
  | d :: r => uptoBulk d + uptoBulkAll r
def uptoBulkEntries {H : Type} : List (Lit × DataW H) → Nat
  | [] => 0
  | x :: r => uptoBulkEntry x + uptoBulkEntries r
def uptoBulkEntry {H : Type} : Lit × DataW H → Nat
  | (.string bytes, d) => bytes.length + uptoBulk d + 1
  | (_, d) => uptoBulk d + 1
 end
def uptoSmall : (H : Type) → List (DataW H) → Bool := fun _ ds => decide (uptoBulkAll ds ≤ 1048576)
def OpenSpec.upto (s : _root_.Go.ChangeSpec) : _root_.Go.OpenSpec := { _root_.Go.OpenSpec.ofChange s with cond := some uptoSmall }

/-- 'laws.FnExactWaitChance', WHERE WHAT IT READS IS OF BULK AT MOST 1048576: true; the input reads as it did. -/
def fnExactWaitChanceUptoRow : OpenClaim := { program := "ytcpfiledegnlpab", sum := "fd134acd34331a1e2c9d722c94de302fa85b82b8a10186a12358ab55745ef5f4", func := "loop.example/g01389/laws.FnExactWaitChance", spec := "fnExactWaitChance", plainKeys := false, apart := false, narrowed := true }
def FnExactWaitChanceUptoSaid : Prop := fnExactWaitChanceUptoRow.holds Try.pinned (OpenSpec.upto fnExactWaitChanceSpec)

/-- 'laws.FnExactBlockChance', WHERE WHAT IT READS IS OF BULK AT MOST 1048576: true; the input reads as it did. -/
def fnExactBlockChanceUptoRow : OpenClaim := { program := "ytcpfiledegnlpab", sum := "fd134acd34331a1e2c9d722c94de302fa85b82b8a10186a12358ab55745ef5f4", func := "loop.example/g01389/laws.FnExactBlockChance", spec := "fnExactBlockChance", plainKeys := false, apart := false, narrowed := true }
def FnExactBlockChanceUptoSaid : Prop := fnExactBlockChanceUptoRow.holds Try.pinned (OpenSpec.upto fnExactBlockChanceSpec)

/-- 'laws.FnExactStaffFor', WHERE WHAT IT READS IS OF BULK AT MOST 1048576: true; the input reads as it did. -/
def fnExactStaffForUptoRow : OpenClaim := { program := "ytcpfiledegnlpab", sum := "fd134acd34331a1e2c9d722c94de302fa85b82b8a10186a12358ab55745ef5f4", func := "loop.example/g01389/laws.FnExactStaffFor", spec := "fnExactStaffFor", plainKeys := false, apart := false, narrowed := true }
def FnExactStaffForUptoSaid : Prop := fnExactStaffForUptoRow.holds Try.pinned (OpenSpec.upto fnExactStaffForSpec)

/-- 'laws.FnExactMeanWait', WHERE WHAT IT READS IS OF BULK AT MOST 1048576: true; the input reads as it did. -/
def fnExactMeanWaitUptoRow : OpenClaim := { program := "ytcpfiledegnlpab", sum := "fd134acd34331a1e2c9d722c94de302fa85b82b8a10186a12358ab55745ef5f4", func := "loop.example/g01389/laws.FnExactMeanWait", spec := "fnExactMeanWait", plainKeys := false, apart := false, narrowed := true }
def FnExactMeanWaitUptoSaid : Prop := fnExactMeanWaitUptoRow.holds Try.pinned (OpenSpec.upto fnExactMeanWaitSpec)

/-- 'laws.FnExactIdleMoves', WHERE WHAT IT READS IS OF BULK AT MOST 1048576: true; the input reads as it did. -/
def fnExactIdleMovesUptoRow : OpenClaim := { program := "ytcpfiledegnlpab", sum := "fd134acd34331a1e2c9d722c94de302fa85b82b8a10186a12358ab55745ef5f4", func := "loop.example/g01389/laws.FnExactIdleMoves", spec := "fnExactIdleMoves", unfollowed := true, recurses := true, plainKeys := false, apart := false, narrowed := true }
def FnExactIdleMovesUptoSaid : Prop := fnExactIdleMovesUptoRow.holds Try.pinned (OpenSpec.upto fnExactIdleMovesSpec)

/-- 'laws.FnExactFewestVehicles', WHERE WHAT IT READS IS OF BULK AT MOST 1048576: true; the input reads as it did. -/
def fnExactFewestVehiclesUptoRow : OpenClaim := { program := "ytcpfiledegnlpab", sum := "fd134acd34331a1e2c9d722c94de302fa85b82b8a10186a12358ab55745ef5f4", func := "loop.example/g01389/laws.FnExactFewestVehicles", spec := "fnExactFewestVehicles", unfollowed := true, recurses := true, plainKeys := false, apart := false, narrowed := true }
def FnExactFewestVehiclesUptoSaid : Prop := fnExactFewestVehiclesUptoRow.holds Try.pinned (OpenSpec.upto fnExactFewestVehiclesSpec)

/-- 'laws.FnExactMatchSkills', WHERE WHAT IT READS IS OF BULK AT MOST 1048576: true; the input reads as it did. -/
def fnExactMatchSkillsUptoRow : OpenClaim := { program := "ytcpfiledegnlpab", sum := "fd134acd34331a1e2c9d722c94de302fa85b82b8a10186a12358ab55745ef5f4", func := "loop.example/g01389/laws.FnExactMatchSkills", spec := "fnExactMatchSkills", unfollowed := true, recurses := true, plainKeys := false, apart := false, narrowed := true }
def FnExactMatchSkillsUptoSaid : Prop := fnExactMatchSkillsUptoRow.holds Try.pinned (OpenSpec.upto fnExactMatchSkillsSpec)

/-- 'laws.FnExactCountShifts', WHERE WHAT IT READS IS OF BULK AT MOST 1048576: true; the input reads as it did. -/
def fnExactCountShiftsUptoRow : OpenClaim := { program := "ytcpfiledegnlpab", sum := "fd134acd34331a1e2c9d722c94de302fa85b82b8a10186a12358ab55745ef5f4", func := "loop.example/g01389/laws.FnExactCountShifts", spec := "fnExactCountShifts", unfollowed := true, recurses := true, plainKeys := false, apart := false, narrowed := true }
def FnExactCountShiftsUptoSaid : Prop := fnExactCountShiftsUptoRow.holds Try.pinned (OpenSpec.upto fnExactCountShiftsSpec)

/-- 'laws.FnExactFirstShifts', WHERE WHAT IT READS IS OF BULK AT MOST 1048576: true; the input reads as it did. -/
def fnExactFirstShiftsUptoRow : OpenClaim := { program := "ytcpfiledegnlpab", sum := "fd134acd34331a1e2c9d722c94de302fa85b82b8a10186a12358ab55745ef5f4", func := "loop.example/g01389/laws.FnExactFirstShifts", spec := "fnExactFirstShifts", unfollowed := true, recurses := true, plainKeys := false, apart := false, narrowed := true }
def FnExactFirstShiftsUptoSaid : Prop := fnExactFirstShiftsUptoRow.holds Try.pinned (OpenSpec.upto fnExactFirstShiftsSpec)

/-- 'laws.FnExactNextShift', WHERE WHAT IT READS IS OF BULK AT MOST 1048576: true; the input reads as it did. -/
def fnExactNextShiftUptoRow : OpenClaim := { program := "ytcpfiledegnlpab", sum := "fd134acd34331a1e2c9d722c94de302fa85b82b8a10186a12358ab55745ef5f4", func := "loop.example/g01389/laws.FnExactNextShift", spec := "fnExactNextShift", unfollowed := true, recurses := true, plainKeys := false, apart := false, narrowed := true }
def FnExactNextShiftUptoSaid : Prop := fnExactNextShiftUptoRow.holds Try.pinned (OpenSpec.upto fnExactNextShiftSpec)

/-- 'laws.FnExactGreedyCover', WHERE WHAT IT READS IS OF BULK AT MOST 1048576: true; the input reads as it did. -/
def fnExactGreedyCoverUptoRow : OpenClaim := { program := "ytcpfiledegnlpab", sum := "fd134acd34331a1e2c9d722c94de302fa85b82b8a10186a12358ab55745ef5f4", func := "loop.example/g01389/laws.FnExactGreedyCover", spec := "fnExactGreedyCover", unfollowed := true, recurses := true, plainKeys := false, apart := false, narrowed := true }
def FnExactGreedyCoverUptoSaid : Prop := fnExactGreedyCoverUptoRow.holds Try.pinned (OpenSpec.upto fnExactGreedyCoverSpec)

/-- 'laws.FnExactRotateRoster', WHERE WHAT IT READS IS OF BULK AT MOST 1048576: true; the input reads as it did. -/
def fnExactRotateRosterUptoRow : OpenClaim := { program := "ytcpfiledegnlpab", sum := "fd134acd34331a1e2c9d722c94de302fa85b82b8a10186a12358ab55745ef5f4", func := "loop.example/g01389/laws.FnExactRotateRoster", spec := "fnExactRotateRoster", unfollowed := true, recurses := true, plainKeys := false, apart := false, narrowed := true }
def FnExactRotateRosterUptoSaid : Prop := fnExactRotateRosterUptoRow.holds Try.pinned (OpenSpec.upto fnExactRotateRosterSpec)

end Rows
end Go.Proofs.Ytcpfiledegnlpab
