/- What the program's reading functions ask of Go's library: the table of powers of ten as its text lays it, internal/bytealg.MaxLen some int, strconv's two errors some errors. -/
import Derived.Test.YtefheedhjgkmoaaDoorNumbers
namespace Go.Proofs.YtefheedhjgkmoaaDoor
open Go.RowKit Go.Lst Go

def LibAt (w : World) : Prop := Tab10 w ∧ MaxAt w ∧ ErrsAt w
theorem LibAt.kept {w w' : World} (h : LibAt w) (hb : Below w.heap.size w w') : LibAt w' := ⟨h.1.kept hb, h.2.1.kept hb, h.2.2.kept hb⟩
theorem specReadDecimal_any (s : ByteArray) (hs : s.size ≤ 1048576) (w : World) :
    Calls Tryd.prog 9 #[.string s] w fun e w' => e = .returned (.tuple #[.int .i64 (numR s), .bool (isNum s)]) ∧ Below w.heap.size w w' := by
  have hF := Lib.hid (l01Value_any s hs w)
  generalize numR s = R at *
  generalize isNum s = Q at *
  go_enter Tryd.func9, Tryd.ntmps9
  go_wp2_with fail
  refine hF.out.mono ?_
  rintro e w' ⟨rfl, hb⟩
  have hB := Lib.hid hb
  clear hb
  go_wp2_with fail
  first | exact ⟨rfl, hB.out⟩ | (go_ret2; exact ⟨rfl, hB.out⟩)
theorem readDecimal_both (s : ByteArray) (hs : s.size ≤ 1048576) : ∃ (r0 : Int) (r1 : Bool),
    (∀ (B : Nat) (w : World), B ≤ w.heap.size → Calls Tryd.prog 9 #[.string s] w fun e w' => e = .returned (.tuple #[.int .i64 r0, .bool r1]) ∧ Below w.heap.size w w') ∧
    (∀ (B : Nat) (w : World), LibAt w → B ≤ w.heap.size → Calls Tryd.prog 10 #[.string s] w fun e w' => e = .returned (.tuple #[.int .i64 r0, .bool r1]) ∧ Below w.heap.size w w') :=
  ⟨numR s, isNum s, fun _ w _ => specReadDecimal_any s hs w, fun _ w hL _ => readDecimal_any s hs w hL.1 hL.2.2⟩
theorem specReadList_any (s : ByteArray) (hs : s.size ≤ 1048576) (w : World) :
    Calls Tryd.prog 15 #[.string s] w fun e w' => ReadPost (valL s) (okRead s) w e w' := by
  have hI := Lib.hid (l01Numbers_any s hs w)
  generalize okRead s = Q at *
  generalize valL s = R at *
  go_enter Tryd.func15, Tryd.ntmps15
  go_wp2_with fail
  refine hI.out.mono ?_
  rintro e w' ⟨v', rfl, ho, hb⟩
  have hH := Lib.hid (And.intro ho hb)
  clear ho hb
  go_wp2_with fail
  first | exact ⟨_, rfl, hH.out.1, hH.out.2⟩ | (go_ret2; exact ⟨_, rfl, hH.out.1, hH.out.2⟩)
theorem readList_both (s : ByteArray) (hs : s.size ≤ 1048576) : ∃ (r0 : List Int) (r1 : Bool), r0.length ≤ 1048576 ∧
    (∀ (B : Nat) (w : World), B ≤ w.heap.size → Calls Tryd.prog 15 #[.string s] w fun e w' => ∃ v', e = .returned (.tuple #[v', .bool r1]) ∧ Own w.heap.size w'.heap.size w' v' 2 1 r0.length (r0.map (Value.int .i64)) ∧ Below w.heap.size w w') ∧
    (∀ (B : Nat) (w : World), LibAt w → B ≤ w.heap.size → Calls Tryd.prog 16 #[.string s] w fun e w' => ∃ v', e = .returned (.tuple #[v', .bool r1]) ∧ Own w.heap.size w'.heap.size w' v' 2 1 r0.length (r0.map (Value.int .i64)) ∧ Below w.heap.size w w') :=
  ⟨valL s, okRead s, by have := valL_len s; omega, fun _ w _ => specReadList_any s hs w, fun _ w hL _ => readList_any s hs w hL.1 hL.2.2 hL.2.1⟩
end Go.Proofs.YtefheedhjgkmoaaDoor
