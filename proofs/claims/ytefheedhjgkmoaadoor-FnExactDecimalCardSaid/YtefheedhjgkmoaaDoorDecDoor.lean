/- The text of a number: the model's and the program's, alike. Conditions: the table of powers of ten lies as the library's text lays it (the program's side). -/
import Derived.Test.YtefheedhjgkmoaaDoorDec
import Derived.DataShut
namespace Go.Proofs.YtefheedhjgkmoaaDoor
open Go.RowKit Go.Lst Go

theorem wf64 {n : Int} (h : (Lit.int .i64 n).wf = true) : -9223372036854775808 ≤ n ∧ n ≤ 9223372036854775807 := (Lit.wf_int_iff .i64 n).1 h
theorem specDecimal_any (n : Int) (h0 : -9223372036854775808 ≤ n) (h1 : n ≤ 9223372036854775807) (w : World) :
    Calls Tryd.prog 7 #[.int .i64 n] w fun e w' => e = .returned (.string (decS n)) ∧ Below w.heap.size w w' := by
  have hF := Lib.hid (l01Dec_any n h0 h1 w)
  generalize decS n = s at *
  go_enter Tryd.func7, Tryd.ntmps7
  go_wp2_with fail
  refine hF.out.mono ?_
  rintro e w' ⟨rfl, hb⟩
  have hB := Lib.hid hb
  clear hb
  go_wp2_with fail
  go_ret
  exact ⟨rfl, hB.out⟩
theorem decimal_both (n : Int) (hn : (Lit.int .i64 n).wf = true) : ∃ (r0 : ByteArray),
    (∀ (B : Nat) (w : World), B ≤ w.heap.size → Calls Tryd.prog 7 #[.int .i64 n] w fun e w' => e = .returned (.string r0) ∧ Below w.heap.size w w') ∧
    (∀ (B : Nat) (w : World), Tab10 w → B ≤ w.heap.size → Calls Tryd.prog 8 #[.int .i64 n] w fun e w' => e = .returned (.string r0) ∧ Below w.heap.size w w') := by
  obtain ⟨h0, h1⟩ := wf64 hn
  exact ⟨decS n, fun _ w _ => specDecimal_any n h0 h1 w, fun _ w hT _ => decimal_any n h0 h1 w hT⟩
end Go.Proofs.YtefheedhjgkmoaaDoor
