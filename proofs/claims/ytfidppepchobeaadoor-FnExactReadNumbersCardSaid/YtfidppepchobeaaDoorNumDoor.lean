/- The list of numbers of float32 that a text spells: the model's and the program's, alike. Conditions: internal/bytealg.MaxLen holds some int (the program's side). -/
import Derived.Test.YtfidppepchobeaaDoorNumModel
import Derived.Test.YtfidppepchobeaaDoorListF
namespace Go.Proofs.YtfidppepchobeaaDoor
open Go.RowKit Go.Lst Go FloatKit

set_option maxHeartbeats 1000000 in
set_option maxRecDepth 100000 in
theorem implReadNumbers_any (s : ByteArray) (hs : s.size ≤ 1048576) (w : World) (hM : MaxAt w) :
    Calls Tryd.prog 10 #[.string s] w fun e w' => ReadPost (valF s) (okReadF s) w e w' := by
  have hI := Lib.hid (readItems_any s hs w hM)
  generalize valF s = R at *
  generalize okReadF s = Q at *
  clear hM
  go_enter Tryd.func10, Tryd.ntmps10
  go_wp2_with fail
  refine hI.out.mono ?_
  rintro e w' ⟨v', rfl, ho, hb⟩
  have hO := Lib.hid ho
  have hB := Lib.hid hb
  clear ho hb
  go_wp2_with fail
  first | exact ⟨_, rfl, hO.out, hB.out⟩ | (go_ret2; exact ⟨_, rfl, hO.out, hB.out⟩)
set_option maxHeartbeats 1000000 in
set_option maxRecDepth 100000 in
theorem specReadNumbers_any (s : ByteArray) (hs : s.size ≤ 1048576) (w : World) :
    Calls Tryd.prog 9 #[.string s] w fun e w' => ReadPost (valF s) (okReadF s) w e w' := by
  have hI := Lib.hid (l01NRead_any s hs w)
  generalize valF s = R at *
  generalize okReadF s = Q at *
  go_enter Tryd.func9, Tryd.ntmps9
  go_wp2_with fail
  refine hI.out.mono ?_
  rintro e w' ⟨v', rfl, ho, hb⟩
  have hO := Lib.hid ho
  have hB := Lib.hid hb
  clear ho hb
  go_wp2_with fail
  first | exact ⟨_, rfl, hO.out, hB.out⟩ | (go_ret2; exact ⟨_, rfl, hO.out, hB.out⟩)
theorem readNumbers_both (s : ByteArray) (hs : s.size ≤ 1048576) : ∃ (r0 : List Nat) (r1 : Bool), r0.length ≤ 1048576 ∧
    (∀ (B : Nat) (w : World), B ≤ w.heap.size → Calls Tryd.prog 9 #[.string s] w fun e w' => ∃ v', e = .returned (.tuple #[v', .bool r1]) ∧ Own w.heap.size w'.heap.size w' v' 33 1 r0.length (r0.map (Value.float .f32)) ∧ Below w.heap.size w w') ∧
    (∀ (B : Nat) (w : World), MaxAt w → B ≤ w.heap.size → Calls Tryd.prog 10 #[.string s] w fun e w' => ∃ v', e = .returned (.tuple #[v', .bool r1]) ∧ Own w.heap.size w'.heap.size w' v' 33 1 r0.length (r0.map (Value.float .f32)) ∧ Below w.heap.size w w') :=
  ⟨valF s, okReadF s, by have := valF_len s; omega, fun _ w _ => specReadNumbers_any s hs w, fun _ w hM _ => implReadNumbers_any s hs w hM⟩
end Go.Proofs.YtfidppepchobeaaDoor
