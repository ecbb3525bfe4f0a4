/- Arguments ShiftRule by value: a word for them, and the law's own copy of one. -/
import Derived.Test.YtpolhjkjgbfdhaaDoorInts
import Derived.Laws.StructEq
import Derived.Test.YtpolhjkjgbfdhaaDoorBlk
namespace Go.Lst
open Go.RowKit Go.WideShapes Go.ChangeShapes Go.Deep
section
variable {H : Type} {enc : TypeId × Value → H} {P : Program}
/-- A struct of integers, opened. -/
theorem open_int_agg {t : TypeId} {fs : Array Field} {q : IntKind} {W : World} {v : Value} {d : DataW H} {ps : List MemPlace} (ht : P.underlying t = some (.struct fs)) (hone : oneCellFields P fs = true) (hC : P.cellsOf t = fs.size)
    (hq : ∀ (j : Nat) (f : Field), fs[j]? = some f → P.underlying f.type = some (.int q)) (hval : Value.okWide P W .any 0 t v) (h : DataW.Trod enc P W 0 (fun _ => true) true t v d ps) :
    ∃ zs : List Int, zs.length = fs.size ∧ v = .agg (zs.map (Value.int q)).toArray ∧ ∀ z ∈ zs, (Lit.int q z).wf = true := by
  obtain ⟨cs, rfl, hsz⟩ := okWide_struct ht hval
  obtain ⟨fuel, hf⟩ := h
  obtain ⟨ys, n, _, hx, _, hlen, hg⟩ := DataW.trod_struct ht hf
  have hcell : ∀ i, i < fs.size → ∃ z : Int, cs[i]? = some (.int q z) ∧ (Lit.int q z).wf = true := fun i hi => by
    have hj : fs[i]? = some fs[i] := Array.getElem?_eq_getElem hi
    obtain ⟨ho, hk⟩ := hone_of hone _ _ hj
    have h1 := hg _ _ hj
    rw [ho, hk] at h1
    have hci : i < cs.size := by omega
    have hone' : ((Value.agg cs).cells.toList.drop i).take 1 = [cs[i]'hci] := by
      show (cs.toList.drop i).take 1 = _
      rw [List.drop_eq_getElem_cons (by simpa using hci)]
      simp
    rw [hone'] at h1
    have hys : ys[i]? = some (ys[i]'(by omega)) := List.getElem?_eq_getElem (by omega)
    obtain ⟨z, hz, _, hw⟩ := DataW.trod_int (hq _ _ hj) (h1.trans hys)
    exact ⟨z, by rw [Array.getElem?_eq_getElem hci]; simpa using hz, hw⟩
  obtain ⟨f, hf⟩ := choose_lt hcell
  have hl : ((List.range fs.size).map f).length = fs.size := by simp
  refine ⟨(List.range fs.size).map f, hl, ?_, fun z hz => ?_⟩
  · congr 1
    apply Array.ext_getElem?
    intro i
    by_cases hi : i < fs.size
    · rw [(hf i hi).1]; simp [hi]
    · rw [show cs[i]? = none from Array.getElem?_eq_none (by omega), show ((List.range fs.size).map f |>.map (Value.int q)).toArray[i]? = none from Array.getElem?_eq_none (by simp; omega)]
  · obtain ⟨i, hi, rfl⟩ := List.mem_map.1 hz
    exact (hf i (List.mem_range.1 hi)).2
end
end Go.Lst
namespace Go.Proofs.YtpolhjkjgbfdhaaDoor
open Go.RowKit Go.Lst Go.ChangeShapes Go.WideShapes

structure ShiftRuleD where
  (Slots Least Most Row Pause : Int)
deriving Inhabited
namespace ShiftRuleD
def wf (x : ShiftRuleD) : Prop := (Lit.int .i64 x.Slots).wf = true ∧ (Lit.int .i64 x.Least).wf = true ∧ (Lit.int .i64 x.Most).wf = true ∧ (Lit.int .i64 x.Row).wf = true ∧ (Lit.int .i64 x.Pause).wf = true
@[reducible] def agg (x : ShiftRuleD) : Value := .agg #[.int .i64 x.Slots, .int .i64 x.Least, .int .i64 x.Most, .int .i64 x.Row, .int .i64 x.Pause]
def cells (x : ShiftRuleD) : Array Value := #[.int .i64 x.Slots, .int .i64 x.Least, .int .i64 x.Most, .int .i64 x.Row, .int .i64 x.Pause]
end ShiftRuleD
set_option maxRecDepth 20000 in
theorem openAgg_ShiftRule {H : Type} {enc : TypeId × Value → H} {W : World} {v : Value} {d : DataW H} {ps : List MemPlace} (hval : Value.okWide Tryd.prog W .any 0 23 v) (h : DataW.Trod enc Tryd.prog W 0 (fun _ => true) true 23 v d ps) :
    ∃ x : ShiftRuleD, v = x.agg ∧ x.wf := by
  obtain ⟨zs, hl, rfl, hw⟩ := open_int_agg (fs := Tryd.prog.fieldsOf 23) (q := .i64) Tryd.underlying23 (by kernel_rfl) (by kernel_rfl) (fun j f hj => by
    have hlt : j < 5 := (Array.getElem?_eq_some_iff.1 hj).1
    have hq : ∀ j, j < 5 → ∀ f, (Tryd.prog.fieldsOf 23)[j]? = some f → f.type = 2 := by decide +kernel
    rw [hq j hlt f hj]; exact Tryd.underlying2) hval h
  have hl' : zs.length = 5 := hl
  match zs, hl', hw with
  | [z0, z1, z2, z3, z4], _, hw => exact ⟨⟨z0, z1, z2, z3, z4⟩, rfl, ⟨hw _ (by simp), hw _ (by simp), hw _ (by simp), hw _ (by simp), hw _ (by simp)⟩⟩
set_option maxHeartbeats 1000000 in
theorem toShiftRule_any (x : ShiftRuleD) (w : World) : Calls Tryd.prog 11 #[x.agg] w fun e w' => e = .returned x.agg ∧ Below w.heap.size w w' := by
  go_enter Tryd.func11, Tryd.ntmps11
  go_wp2
  exact bodyPost_ret (v := x.agg) (by simp [results, Tryd.results11, go_sem]) rfl ⟨rfl, by repeat (first | exact Below.refl _ _ | refine below_alloc ?_ _ | refine below_drew ?_ _ | refine Below.setCell ?_ (Nat.le_refl _) _)⟩
end Go.Proofs.YtpolhjkjgbfdhaaDoor
