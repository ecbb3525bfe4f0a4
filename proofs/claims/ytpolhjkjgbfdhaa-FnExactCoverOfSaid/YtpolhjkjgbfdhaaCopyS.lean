/- Contracts of the law's own functions on lists of texts: a copy of a list, cell by cell. -/
import Derived.Test.YtpolhjkjgbfdhaaStrs
import Derived.LoopTactic
import Derived.OwnWalk
import Derived.Outline
namespace Go.Lst
open Go.RowKit Go.WideShapes Go.ChangeShapes Go.Deep
section
variable {H : Type} {enc : TypeId × Value → H} {P : Program}
theorem open_strsS {t e : TypeId} {W : World} {v : Value} {d : DataW H} {ps : List MemPlace} (ht : P.underlying t = some (.slice e)) (he : P.underlying e = some .string) (hc : P.cellsOf e = 1)
    (hval : Value.okWide P W .any 0 t v) (h : DataW.Trod enc P W 0 (fun _ => true) true t v d ps) :
    ∃ xs : List ByteArray, LstS W.heap.size W v xs ∧ ∀ x ∈ xs, x.size ≤ maxLen := by
  obtain ⟨cs, hL0, hu⟩ := open_cells ht hc hval h
  obtain ⟨xs, rfl, hw⟩ := map_of_all Value.string (p := fun s => s.size ≤ maxLen) fun u hu' => by
    obtain ⟨n, x, hx⟩ := hu u hu'
    obtain ⟨s, hb, _, hw⟩ := DataW.trod_string he hx
    exact ⟨s, by simpa using hb, hw⟩
  have hL := hL0
  refine ⟨xs, ?_, hw⟩
  obtain ⟨a, cap, hv, hl, hcell⟩ := hL
  rw [List.length_map] at hv hl
  subst hv
  obtain ⟨fuel, hf⟩ := h
  have hcap : xs.length ≤ cap ∧ cap ≤ maxLen := by
    rcases open_slice ht hf with ⟨hcs, _⟩ | ⟨a', len', cap', m, n, D, Pl, hcs, _, hl, hm, _⟩
    · simp [Value.cells] at hcs
      obtain ⟨_, h1, rfl⟩ := hcs
      rw [h1]; exact ⟨Nat.le_refl _, Nat.zero_le _⟩
    · simp [Value.cells] at hcs
      obtain ⟨_, rfl, rfl⟩ := hcs
      exact ⟨hl, hm⟩
  exact ⟨a, cap, rfl, hl, hcap.1, hcap.2, by rw [List.length_map, Nat.mul_one], fun h0 => hcell (fun e0 => by simp at e0; rw [e0] at h0; simp at h0)⟩
end
end Go.Lst
namespace Go.Proofs.Ytpolhjkjgbfdhaa
open Go.RowKit Go.Lst

theorem infoStr : (Try.prog.info? 9).map (fun i => (i.zero, i.size, i.bytes)) = some (some (.string ⟨#[]⟩), 1, 16) := by kernel_rfl

set_option maxHeartbeats 1000000 in
/-- The copy is new memory that holds the same. -/
theorem toStringS_any (B : Nat) (v : Value) (xs : List ByteArray) (w : World) (h : Lst B w v (xs.map (Value.string))) (hB : B ≤ w.heap.size) (hlen : xs.length ≤ 1048576) :
    Calls Try.prog 27 #[v] w fun e w' => ∃ v', e = .returned v' ∧ w'.ownsRow w.heap.size 9 1 v' xs.length (xs.map (Value.string)) ∧ Below w.heap.size w w' ∧ w.heap.size < w'.heap.size := by
  obtain ⟨a, cap, rfl, hl, hc⟩ := h
  obtain ⟨i0, hi, hz0, hz1, hz2⟩ := info_parts infoStr
  rw [List.length_map] at hl ⊢
  have hLen : (xs.map (Value.string)).length = xs.length := List.length_map ..
  generalize hn : xs.length = n at *
  unfold maxLen at hl
  have hN := Lib.hid hn
  have hL := Lib.hid hLen
  have hC := Lib.hid hc
  clear hn hLen hc
  go_enter Try.func27, Try.ntmps27
  go_wp2_with (at_make; refine wpList_make_full _ rfl _ _ _ rfl w.heap.size _ i0 (.string ⟨#[]⟩) 1 Try.underlying47 hi hz0 hz1 _ _ _ _ n rfl rfl rfl rfl ?c1 ?c2 ?c3 ?_)
  case c1 => rw [hz2]; omega
  case c2 => unfold maxLen; omega
  case c3 => exact Nat.le_refl _
  intro w0 hown0 hg0
  have hb0 : Below w.heap.size w w0 := (Below.refl _ _).grown hg0 (Nat.le_refl _) (fun k hk => by cases hk)
  have hs0 : w.heap.size < w0.heap.size := (hown0.lt _ rfl).2
  have hown : w0.ownsRow w.heap.size 9 1 (.slice (some ⟨w.heap.size, 0, none⟩) n n) n ((xs.map (Value.string)).take 0 ++ List.replicate (n - 0) (.string ⟨#[]⟩)) := by
    rw [toList_madeCells_one] at hown0
    simpa using hown0
  clear hown0 hg0 hz0 hz1 hz2 hi
  have hB0 := Lib.hid hb0
  have hO := Lib.hid hown
  clear hb0 hown
  go_wp2
  go_loopw [4] (fun i wr => ∃ k : Nat, k ≤ n ∧ i = .int .i64 k ∧ Hid (wr.ownsRow w.heap.size 9 1 (.slice (some ⟨w.heap.size, 0, none⟩) n n) n ((xs.map (Value.string)).take k ++ List.replicate (n - k) (.string ⟨#[]⟩))) ∧ Hid (Below w.heap.size w wr) ∧ w.heap.size < wr.heap.size) (fun i _ => n - (intOf i).toNat)
  case atStart => exact ⟨0, Nat.zero_le _, rfl, hO, hB0, hs0⟩
  case round =>
    obtain ⟨k, hk, rfl, hO1, hB1, hs1⟩ := hrel
    by_cases hlt : k < n
    · have hne : xs.map (Value.string) ≠ [] := by
        intro h0
        have := hL.out
        rw [h0] at this
        simp at this; omega
      obtain ⟨b, off, rfl, hbB, hcell⟩ := hC.out hne
      have hx : xs[k]? = some (xs[k]'(by have := hN.out; omega)) := List.getElem?_eq_getElem _
      generalize xs[k]'(by have := hN.out; omega) = x at *
      have hu : (xs.map (Value.string))[k]? = some (.string x) := by rw [List.getElem?_map, hx]; rfl
      have hsrc : wr.cell? ⟨b, off + k, none⟩ = some (.string x) := by
        rw [hB1.out.cell (p := ⟨b, off + k, none⟩) (show b < w.heap.size by omega)]
        exact hcell k _ hu
      obtain ⟨u0, hdst⟩ : ∃ u, wr.cell? ⟨w.heap.size, k, none⟩ = some u := by
        have h1 := hO1.out.cellAt k (by omega)
        have h2 := hO1.out.1
        rw [Nat.mul_one] at h2
        rw [h1]
        exact ⟨_, List.getElem?_eq_getElem (by omega)⟩
      have hfr : wr.frozen? ⟨w.heap.size, k, none⟩ = false := hO1.out.frozenAt k
      have hst := hO1.out.stored k (.string x)
      rw [copy_stepI _ _ hL.out hlt hu] at hst
      have hO2 := Lib.hid hst.1
      have hB2 := Lib.hid (hB1.out.setCell (p := ⟨w.heap.size, k, none⟩) (Nat.le_refl _) (.string x))
      have hs2 : w.heap.size < (wr.setCell ⟨w.heap.size, k, none⟩ (.string x)).heap.size := by simpa [World.setCell] using hs1
      clear hst hu hx hcell hne hO1 hB1
      go_wp2
      go_roundw
      case rel => exact ⟨k + 1, by omega, by go_num, hO2, hB2, by first | exact hs2 | simpa using hs2⟩
      case measure => simp [intOf]; omega
    · have hkn : k = n := by omega
      have hO3 : wr.ownsRow w.heap.size 9 1 (.slice (some ⟨w.heap.size, 0, none⟩) n n) n (xs.map (Value.string)) := by
        have h1 := hO1.out
        rw [hkn, Nat.sub_self, List.replicate_zero, List.append_nil, List.take_of_length_le (by have := hL.out; omega)] at h1
        exact h1
      have hO4 := Lib.hid hO3
      clear hO3 hkn hO1
      go_wp2
      go_ret
      exact ⟨_, rfl, hO4.out, hB1.out, hs1⟩
theorem copiedS (B : Nat) (v : Value) (xs : List ByteArray) (w : World) (h : LstS B w v xs) (hB : B ≤ w.heap.size) (hlen : xs.length ≤ 1048576) :
    Calls Try.prog 27 #[v] w fun e w' => ∃ v', e = .returned v' ∧ Own w.heap.size w'.heap.size w' v' 9 1 xs.length (xs.map Value.string) ∧ Below w.heap.size w w' :=
  (toStringS_any B v xs w h.lst hB hlen).mono fun _ _ ⟨v', he, ho, hb, _⟩ => ⟨v', he, Own.new ho (by unfold maxLen; omega), hb⟩
/-- What is left behind the list's length and the first k lengths. -/
def lenTo (xs : List ByteArray) : Nat → Int
  | 0 => 0
  | k + 1 => lenTo xs k + ((xs.getD k ⟨#[]⟩).size : Int)
set_option maxHeartbeats 2000000 in
/-- The list is not too long, and each of its texts is not, or the answer is -1. -/
theorem szStringS_any (B : Nat) (v : Value) (xs : List ByteArray) (left : Int) (w : World) (h : LstS B w v xs) (h1 : 0 ≤ left ∧ left ≤ 1048576) (hx : ∀ x ∈ xs, x.size ≤ 9223372036854775807) :
    Calls Try.prog 25 #[v, .int .i64 left] w fun e w' => ∃ r : Int, e = .returned (.int .i64 r) ∧ w = w' ∧ -1 ≤ r ∧ r ≤ left ∧ (0 ≤ r → (xs.length : Int) ≤ left ∧ ∀ x ∈ xs, (x.size : Int) ≤ left) := by
  obtain ⟨a, cap, rfl, hl, hc⟩ := h.lst
  rw [List.length_map] at hl ⊢
  have hX : Hid (∀ k, k < xs.length → ∃ b o x, a = some ⟨b, o, none⟩ ∧ xs[k]? = some x ∧ x.size ≤ 9223372036854775807 ∧ w.cell? ⟨b, o + k, none⟩ = some (.string x)) := Lib.hid fun k hk => by
    obtain ⟨b, o, ha, _, hb⟩ := hc (by intro h0; have := congrArg List.length h0; simp at this; rw [this] at hk; simp at hk)
    have e1 : xs[k]? = some xs[k] := List.getElem?_eq_getElem _
    exact ⟨b, o, xs[k], ha, e1, hx _ (List.getElem_mem _), hb k _ (by rw [List.getElem?_map, e1]; rfl)⟩
  have hAll : Hid (∀ k, k = xs.length → (∀ j x, j < k → xs[j]? = some x → (x.size : Int) ≤ left) → ∀ x ∈ xs, (x.size : Int) ≤ left) := Lib.hid fun k hk hp x hx => by
    obtain ⟨j, hj, rfl⟩ := List.mem_iff_getElem.1 hx
    exact hp j _ (by omega) (List.getElem?_eq_getElem hj)
  clear h hc hx
  generalize xs.length = n at *
  unfold maxLen at hl
  have hw0 : IntKind.i64.wrap (left - (n : Int)) = left - (n : Int) := IntWalk.i64_in _ (by omega)
  by_cases hn : left - (n : Int) < 0
  · go_enter Try.func25, Try.ntmps25
    go_wp2_with fail
    go_ret
    exact ⟨-1, rfl, rfl, by omega, by omega, by omega⟩
  · go_enter Try.func25, Try.ntmps25
    go_wp2_with fail
    go_loopw [1, 5] (fun lv iv wr => ∃ (k : Nat) (r : Int), k ≤ n ∧ iv = .int .i64 k ∧ lv = .int .i64 r ∧ 0 ≤ r ∧ r ≤ left - n ∧ Hid (∀ j x, j < k → xs[j]? = some x → (x.size : Int) ≤ left) ∧ wr = w) (fun _ iv _ => n - (intOf iv).toNat)
    case atStart => exact ⟨0, _, Nat.zero_le _, rfl, rfl, by omega, by omega, Lib.hid (fun j x hj => by omega), rfl⟩
    case round =>
      obtain ⟨k, r, hk, rfl, rfl, hr0, hr1, hP, rfl⟩ := hrel
      by_cases hlt : k < n
      · obtain ⟨b, o, x, rfl, hx, hs, hcell⟩ := hX.out k hlt
        have hXx := Lib.hid hx
        clear hx
        have hw1 : IntKind.i64.wrap (r - (x.size : Int)) = r - (x.size : Int) := IntWalk.i64_in _ (by omega)
        by_cases hneg : r - (x.size : Int) < 0
        · go_wp2_with fail
          go_ret
          exact ⟨-1, rfl, rfl, by omega, by omega, by omega⟩
        · have hP2 : Hid (∀ j y, j < k + 1 → xs[j]? = some y → (y.size : Int) ≤ left) := Lib.hid fun j y hj hy => by
            by_cases h1 : j < k
            · exact hP.out j y h1 hy
            · obtain rfl : j = k := by omega
              rw [hXx.out] at hy
              cases hy
              omega
          go_wp2_with fail
          go_roundw
          case rel => exact ⟨k + 1, _, by omega, by go_num, rfl, by omega, by omega, hP2, by trivial⟩
          case measure => simp [intOf]; omega
      · have hA := Lib.hid (hAll.out k (by omega) hP.out)
        go_wp2_with fail
        go_ret
        exact ⟨r, rfl, rfl, by omega, by omega, fun _ => ⟨by omega, hA.out⟩⟩
end Go.Proofs.Ytpolhjkjgbfdhaa
