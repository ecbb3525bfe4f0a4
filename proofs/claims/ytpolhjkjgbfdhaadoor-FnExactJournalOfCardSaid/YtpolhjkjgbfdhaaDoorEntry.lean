/- Contracts: what stands in a journal for a line; a strings.Builder of the call's own, written, measured and read. Conditions: the table of powers of ten lies as Go's library lays it. -/
import Derived.Test.YtpolhjkjgbfdhaaDoorJourPure
import Derived.Test.YtpolhjkjgbfdhaaDoorDec
import Derived.Test.YtpolhjkjgbfdhaaDoorLayJour
import Derived.Shelf.Strings.OnBuilder
import Derived.Shelf.Strings.Search3
import Derived.Laws.Strings2
namespace Go.Proofs.YtpolhjkjgbfdhaaDoor
open Go.RowKit Go.Lst Go

set_option maxHeartbeats 1000000 in
set_option maxRecDepth 100000 in
theorem entryOf_any (c : Int) (x : ByteArray) (h0 : 0 ≤ c) (h1 : c ≤ 65002) (hx : x.size ≤ 1048576) (w : World) (hT : Tab10 w) :
    Calls Tryd.prog 49 #[.int .i64 c, .string x] w fun e w' => e = .returned (.tuple #[.string (entB (chk c x.data.toList) x), .int .i64 (chk c x.data.toList)]) ∧ Below w.heap.size w w' := by
  have hC := Lib.hid (checkOf_any c x (by unfold maxLen; omega) w)
  rw [show checkOf c x = .tuple #[.int .i64 (chk c x.data.toList), .bool true] from if_pos ⟨h0, h1⟩] at hC
  obtain ⟨b0, b1⟩ := chk_bound x.data.toList c h0 h1
  have hD := Lib.hid (fun w' (hb : Below w.heap.size w w') => decimal_any (chk c x.data.toList) (by omega) (by omega) w' (hT.kept hb))
  have hz := decS_size (chk c x.data.toList) (by omega) (by omega)
  unfold entB
  clear hT
  generalize chk c x.data.toList = c' at *
  generalize decS c' = t at *
  have hz1 : (t ++ (⟨#[32]⟩ : ByteArray)).size ≤ 21 := by rw [ByteArray.size_append]; show t.size + 1 ≤ 21; omega
  have hz2 : (t ++ (⟨#[32]⟩ : ByteArray) ++ x).size ≤ 1048600 := by rw [ByteArray.size_append]; omega
  go_enter Tryd.func49, Tryd.ntmps49
  go_wp2_with fail
  refine hC.out.mono ?_
  rintro e w1 ⟨rfl, rfl⟩
  go_wp2_with fail
  refine (hD.out _ (Below.refl _ _)).mono ?_
  rintro e w2 ⟨rfl, hb⟩
  have hB := Lib.hid hb
  clear hb hC hD
  go_wp2_with fail
  first | exact ⟨rfl, hB.out⟩ | (go_ret2; exact ⟨rfl, hB.out⟩)
/-- The builder in the block b holds the bytes of s; its own blocks lie from B on. -/
def JB (B b : Nat) (s : ByteArray) (w : World) : Prop := Lib.IsBuilder 75 5 B b (Lib.byteCells s.data.toList) w
theorem jb_at {T e : TypeId} {B b : Nat} {p : Value} {bs : List Value} {w w' : World} (h : Lib.BuilderAt T e B b p bs w) (hb : Below w.heap.size w w') : Lib.BuilderAt T e B b p bs w' := by
  have hlt := h.lt
  obtain ⟨h1, v, h2, h3, h4⟩ := h
  exact ⟨h1, v, by rw [hb.block b hlt]; exact h2, ownsRow_kept h3 hb, h4⟩
theorem JB.kept {B b : Nat} {s : ByteArray} {w w' : World} (h : JB B b s w) (hb : Below w.heap.size w w') : JB B b s w' := by
  rcases h with h | h
  · exact .inl (jb_at h hb)
  · exact .inr (jb_at h hb)
theorem jb_new (w : World) : JB w.heap.size w.heap.size ⟨#[]⟩ (w.alloc (.cells #[.pointer none, .slice none 0 0] 75)) := Lib.fresh_isBuilder _ _ w
theorem jb_write (B b : Nat) (s t : ByteArray) (w : World) (h : JB B b s w) (hl : s.size + t.size ≤ 140737488355328) (hB : B ≤ w.heap.size) :
    Calls Tryd.prog 52 #[.pointer (some ⟨b, 0, none⟩), .string t] w fun e w' => e = .returned (.tuple #[.int .i64 t.size, .nilIface]) ∧ JB B b (s ++ t) w' ∧ Below B w w' :=
  (Any.Builder_WriteString (ρ := Tryd.lays156_ren) { Tryd.lays156 with } Tryd.Builder_Extra_156 B b _ t w h (by rw [Lib.byteCells_length, Array.length_toList]; exact hl) hB).mono fun e w' ⟨he, hb, hw⟩ => ⟨he, .inr (by
    have e1 : Lib.byteCells (s ++ t).data.toList = Lib.byteCells s.data.toList ++ Lib.strCells t := by
      rw [Lib.strCells_eq, ← Lib.byteCells_append, ByteArray.data_append, Array.toList_append]
    rw [e1]; exact hb), hw⟩
theorem jb_len (B b : Nat) (s : ByteArray) (w : World) (h : JB B b s w) :
    Calls Tryd.prog 51 #[.pointer (some ⟨b, 0, none⟩)] w fun e w' => e = .returned (.int .i64 s.size) ∧ w = w' :=
  (Any.Builder_Len Tryd.lays170 B b _ w h).mono fun e w' ⟨he, hw⟩ => ⟨by rw [he, Lib.byteCells_length, Array.length_toList]; rfl, hw.symm⟩
theorem jb_text (B b : Nat) (s : ByteArray) (w : World) (h : JB B b s w) (hB : B ≤ w.heap.size) :
    Calls Tryd.prog 53 #[.pointer (some ⟨b, 0, none⟩)] w fun e w' => e = .returned (.string s) ∧ Below B w w' :=
  (Any.Builder_String_any Tryd.lays169 Tryd.Builder_Extra_169 B b s.data.toList w h hB).mono fun e w' ⟨he, hw⟩ => ⟨by rw [he, Array.toArray_toList], hw⟩
theorem contains_nl (x : ByteArray) (w : World) :
    Calls Tryd.prog 50 #[.string x, .string ⟨#[10]⟩] w fun e w' => e = .returned (.bool (nlIn x)) ∧ w = w' :=
  (Any.strings_Contains_one Tryd.lays144 x 10 w).mono fun e w' ⟨he, hw⟩ => ⟨by rw [he, nlIn_index], hw.symm⟩
end Go.Proofs.YtpolhjkjgbfdhaaDoor
