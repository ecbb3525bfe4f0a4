/- The list of complex numbers that a text spells: the model's and the program's, alike. Conditions: internal/bytealg.MaxLen holds some int (the program's side). -/
import Derived.Test.YtjpmliigepegaaaDoorCplxModel
namespace Go.Proofs.YtjpmliigepegaaaDoor
open Go.RowKit Go.Lst Go FloatKit

set_option maxHeartbeats 1000000 in
set_option maxRecDepth 100000 in
theorem implReadComplex_any (s : ByteArray) (hs : s.size ≤ 1048576) (w : World) (hM : MaxAt w) :
    Calls Tryd.prog 5 #[.string s] w fun e w' => ReadPostC (valCx s) (okReadC s) w e w' := by
  have hI := Lib.hid (readItemsC_any s hs w hM)
  generalize valCx s = R at *
  generalize okReadC s = Q at *
  clear hM
  go_enter Tryd.func5, Tryd.ntmps5
  go_wp2_with fail
  refine hI.out.mono ?_
  rintro e w' ⟨v', rfl, ho, hb⟩
  have hO := Lib.hid ho
  have hB := Lib.hid hb
  clear ho hb
  go_wp2_with fail
  first | exact ⟨_, rfl, hO.out, hB.out⟩ | (go_ret2; exact ⟨_, rfl, hO.out, hB.out⟩)
set_option maxHeartbeats 1000000 in
set_option maxRecDepth 100000 in
theorem specReadComplex_any (s : ByteArray) (hs : s.size ≤ 1048576) (w : World) :
    Calls Tryd.prog 4 #[.string s] w fun e w' => ReadPostC (valCx s) (okReadC s) w e w' := by
  have hI := Lib.hid (l01CRead_any s hs w)
  generalize valCx s = R at *
  generalize okReadC s = Q at *
  go_enter Tryd.func4, Tryd.ntmps4
  go_wp2_with fail
  refine hI.out.mono ?_
  rintro e w' ⟨v', rfl, ho, hb⟩
  have hO := Lib.hid ho
  have hB := Lib.hid hb
  clear ho hb
  go_wp2_with fail
  first | exact ⟨_, rfl, hO.out, hB.out⟩ | (go_ret2; exact ⟨_, rfl, hO.out, hB.out⟩)
theorem readComplex_both (s : ByteArray) (hs : s.size ≤ 1048576) : ∃ (r0 : List (Nat × Nat)) (r1 : Bool), r0.length ≤ 256 ∧
    (∀ (B : Nat) (w : World), B ≤ w.heap.size → Calls Tryd.prog 4 #[.string s] w fun e w' => ∃ v', e = .returned (.tuple #[v', .bool r1]) ∧ Own w.heap.size w'.heap.size w' v' 29 1 r0.length (r0.map cvV) ∧ Below w.heap.size w w') ∧
    (∀ (B : Nat) (w : World), MaxAt w → B ≤ w.heap.size → Calls Tryd.prog 5 #[.string s] w fun e w' => ∃ v', e = .returned (.tuple #[v', .bool r1]) ∧ Own w.heap.size w'.heap.size w' v' 29 1 r0.length (r0.map cvV) ∧ Below w.heap.size w w') :=
  ⟨valCx s, okReadC s, valCx_len s, fun _ w _ => specReadComplex_any s hs w, fun _ w hM _ => implReadComplex_any s hs w hM⟩
end Go.Proofs.YtjpmliigepegaaaDoor
