/- Contracts: the lines of a text, and how many outputs are no or what, the model's and the program's. Conditions: internal/bytealg.MaxLen holds some int (the program's side). -/
import Derived.Test.YtpolhjkjgbfdhaaDoorCut
import Derived.Test.YtpolhjkjgbfdhaaDoorNear
namespace Go.Proofs.YtpolhjkjgbfdhaaDoor
open Go.RowKit Go.Lst Go

def lastOf (s : ByteArray) : ByteArray := (cutS 10 s).getLast?.getD ⟨#[]⟩
/-- What a caller sees of some lines. -/
def LinesAt (w : World) (g : Nat) (n : Nat) (xs : List ByteArray) : Prop := ∀ i x, i < n → xs[i]? = some x → w.cell? ⟨g, i, none⟩ = some (.string x)
theorem LinesAt.more {w w' : World} {g n : Nat} {xs : List ByteArray} (h : LinesAt w g n xs) (hb : Below w.heap.size w w') : LinesAt w' g n xs := fun i x hi hx => by
  have := h i x hi hx
  rw [hb.cell (p := ⟨g, i, none⟩) (World.block_lt_of_cell? w _ this)]; exact this
set_option maxHeartbeats 2000000 in
set_option maxRecDepth 100000 in
theorem linesOf_any (s : ByteArray) (w : World) (hM : MaxAt w) (h16 : s.size ≤ 16000) (he : (lastOf s).toList = []) :
    Calls Tryd.prog 41 #[.string s] w fun e w' => ∃ g c, e = .returned (.tuple #[.slice (some ⟨g, 0, none⟩) ((cutS 10 s).length - 1) c, .bool true]) ∧ (cutS 10 s).length - 1 ≤ c ∧ c ≤ maxLen ∧ LinesAt w' g ((cutS 10 s).length - 1) (cutS 10 s) ∧ Below w.heap.size w w' := by
  have hs : s.size ≤ 1048576 := by omega
  have hC := Lib.hid (split_any 10 s w hs hM)
  have hpos : 1 ≤ (cutS 10 s).length := by rw [cutS_len]; omega
  have hle : (cutS 10 s).length ≤ 1048577 := by have := cutS_le 10 s; omega
  unfold lastOf at he
  have hAll := Lib.hid (fun i x (hx : (cutS 10 s)[i]? = some x) => (Whole.made w 9 ((cutS 10 s).map Value.string).toArray rfl).at_ (i := i) (u := .string x) (by simp [hx]))
  have hB := Lib.hid (below_alloc (Below.refl w.heap.size w) (.cells ((cutS 10 s).map Value.string).toArray 9))
  generalize cutS 10 s = xs at *
  generalize hn : xs.length = n at *
  have hn2 := Lib.hid hn
  clear hn
  obtain ⟨m, rfl⟩ : ∃ m, n = m + 1 := ⟨n - 1, by omega⟩
  rw [Nat.add_sub_cancel]
  have hlx : xs[m]? = some (xs.getLast?.getD ⟨#[]⟩) := by
    rw [List.getLast?_eq_getElem?, hn2.out, Nat.add_sub_cancel, List.getElem?_eq_getElem (by rw [hn2.out]; omega)]
    rfl
  generalize xs.getLast?.getD ⟨#[]⟩ = last at *
  have hcl := Lib.hid (hAll.out m last hlx)
  have hL := Lib.hid (show LinesAt (w.alloc (.cells (xs.map Value.string).toArray 9)) w.heap.size m xs from fun i x _ hx => hAll.out i x hx)
  have hd : decide ((16000 : Int) < (s.size : Int)) = false := decide_eq_false (by omega)
  have hw1 : IntKind.i64.wrap (((m + 1 : Nat) : Int) - 1) = (m : Int) := by rw [IntWalk.i64_in _ (by omega)]; omega
  have hm0 : (0 : Int) ≤ (m : Int) := by omega
  clear hAll hlx
  go_enter Tryd.func41, Tryd.ntmps41
  go_wp2_with fail
  refine hC.out.mono ?_
  rintro e w1 ⟨rfl, hw⟩
  rw [← hw] at hcl hL hB
  have hcl2 := hcl.out
  clear hw hC
  have hF := Lib.hid (show m ≤ m + 1 ∧ m + 1 ≤ maxLen from ⟨by omega, by unfold maxLen; omega⟩)
  clear hcl
  go_wp2_with fail
  first | exact ⟨_, _, rfl, hF.out.1, hF.out.2, hL.out, hB.out⟩ | (go_ret2; exact ⟨_, _, rfl, hF.out.1, hF.out.2, hL.out, hB.out⟩)
set_option maxHeartbeats 2000000 in
set_option maxRecDepth 100000 in
theorem linesOf_no (s : ByteArray) (w : World) (hs0 : s.size ≤ maxLen) (hM : MaxAt w) (hno : ¬ (s.size ≤ 16000 ∧ (lastOf s).toList = [])) :
    Calls Tryd.prog 41 #[.string s] w fun e w' => e = .returned (.tuple #[.slice none 0 0, .bool false]) ∧ Below w.heap.size w w' := by
  by_cases h16 : s.size ≤ 16000
  · have he : ¬ (lastOf s).toList = [] := fun h => hno ⟨h16, h⟩
    have hs : s.size ≤ 1048576 := by omega
    have hC := Lib.hid (split_any 10 s w hs hM)
    have hpos : 1 ≤ (cutS 10 s).length := by rw [cutS_len]; omega
    have hle : (cutS 10 s).length ≤ 1048577 := by have := cutS_le 10 s; omega
    unfold lastOf at he
    have hAll := Lib.hid (fun i x (hx : (cutS 10 s)[i]? = some x) => (Whole.made w 9 ((cutS 10 s).map Value.string).toArray rfl).at_ (i := i) (u := .string x) (by simp [hx]))
    have hB := Lib.hid (below_alloc (Below.refl w.heap.size w) (.cells ((cutS 10 s).map Value.string).toArray 9))
    clear hno
    generalize cutS 10 s = xs at *
    generalize hn : xs.length = n at *
    have hn2 := Lib.hid hn
    clear hn
    obtain ⟨m, rfl⟩ : ∃ m, n = m + 1 := ⟨n - 1, by omega⟩
    have hlx : xs[m]? = some (xs.getLast?.getD ⟨#[]⟩) := by
      rw [List.getLast?_eq_getElem?, hn2.out, Nat.add_sub_cancel, List.getElem?_eq_getElem (by rw [hn2.out]; omega)]
      rfl
    generalize xs.getLast?.getD ⟨#[]⟩ = last at *
    have hcl := Lib.hid (hAll.out m last hlx)
    have hd : decide ((16000 : Int) < (s.size : Int)) = false := decide_eq_false (by omega)
    have hw1 : IntKind.i64.wrap (((m + 1 : Nat) : Int) - 1) = (m : Int) := by rw [IntWalk.i64_in _ (by omega)]; omega
    have hm0 : (0 : Int) ≤ (m : Int) := by omega
    have he2 : (last.toList == []) = false := by simpa using he
    have he3 : (!last.toList.isEmpty) = true := by simpa using he
    clear hAll hlx
    go_enter Tryd.func41, Tryd.ntmps41
    go_wp2_with fail
    refine hC.out.mono ?_
    rintro e w1 ⟨rfl, hw⟩
    rw [← hw] at hcl hB
    have hcl2 := hcl.out
    clear hw hC hcl
    go_wp2_with fail
    first | exact ⟨rfl, hB.out⟩ | (go_ret2; exact ⟨rfl, hB.out⟩)
  · unfold maxLen at hs0
    have hd : decide ((16000 : Int) < (s.size : Int)) = true := decide_eq_true (by omega)
    clear hno
    go_enter Tryd.func41, Tryd.ntmps41
    go_wp2_with fail
    first | exact ⟨rfl, Below.refl _ _⟩ | (go_ret2; exact ⟨rfl, Below.refl _ _⟩)
/-- Outputs of lines that are no or what. -/
def isVain (x : ByteArray) : Bool := (x.toList == [110, 111]) || (x.toList == [119, 104, 97, 116])
def vainTo (xs : List ByteArray) (k : Nat) : Nat := ((xs.take k).filter isVain).length
theorem vainTo_le (xs : List ByteArray) (k : Nat) : vainTo xs k ≤ k := by
  unfold vainTo
  have h1 := List.length_filter_le isVain (xs.take k)
  have h2 := List.length_take_le k xs
  omega
theorem vainTo_yes {xs : List ByteArray} {k : Nat} {x : ByteArray} (h : xs[k]? = some x) (hv : isVain x = true) : vainTo xs (k + 1) = vainTo xs k + 1 := by
  unfold vainTo; rw [List.take_add_one, h, List.filter_append]; simp [hv]
theorem vainTo_no {xs : List ByteArray} {k : Nat} {x : ByteArray} (h : xs[k]? = some x) (hv : isVain x = false) : vainTo xs (k + 1) = vainTo xs k := by
  unfold vainTo; rw [List.take_add_one, h, List.filter_append]; simp [hv]
def okOut (s : ByteArray) : Bool := decide (s.size ≤ 16000) && decide ((lastOf s).toList = [])
def outN (s : ByteArray) : Nat := (cutS 10 s).length - 1
def badR (s : ByteArray) : Int := if okOut s then (vainTo (cutS 10 s) (outN s) : Int) else 0
def goodR (s : ByteArray) : Int := if okOut s then ((outN s : Nat) : Int) - (vainTo (cutS 10 s) (outN s) : Int) else 0
theorem okOut_of {s : ByteArray} (h : okOut s = true) : s.size ≤ 16000 ∧ (lastOf s).toList = [] := by simpa [okOut] using h
theorem okOut_not {s : ByteArray} (h : okOut s = false) : ¬ (s.size ≤ 16000 ∧ (lastOf s).toList = []) := fun ⟨a, b⟩ => by simp [okOut, a, b] at h
set_option maxHeartbeats 4000000 in
set_option maxRecDepth 100000 in
theorem countOutputs_any (s : ByteArray) (w : World) (hs0 : s.size ≤ maxLen) (hM : MaxAt w) :
    Calls Tryd.prog 14 #[.string s] w fun e w' => e = .returned (.tuple #[.int .i64 (badR s), .int .i64 (goodR s), .bool (okOut s)]) ∧ Below w.heap.size w w' := by
  unfold badR goodR
  cases hok : okOut s
  · have hL := Lib.hid (linesOf_no s w hs0 hM (okOut_not hok))
    clear hok
    go_enter Tryd.func14, Tryd.ntmps14
    go_wp2_with fail
    refine hL.out.mono ?_
    rintro e w1 ⟨rfl, hb⟩
    have hB := Lib.hid hb
    clear hb
    go_wp2_with fail
    first | exact ⟨rfl, hB.out⟩ | (go_ret3; exact ⟨rfl, hB.out⟩)
  · obtain ⟨h16, he⟩ := okOut_of hok
    have hL := Lib.hid (linesOf_any s w hM h16 he)
    have hle : (cutS 10 s).length ≤ 16001 := by have := cutS_le 10 s; omega
    have hpos : 1 ≤ (cutS 10 s).length := by rw [cutS_len]; omega
    have hN : outN s < (cutS 10 s).length := by unfold outN; omega
    have hN2 : outN s ≤ 16000 := by unfold outN; omega
    rw [show (cutS 10 s).length - 1 = outN s from rfl] at hL
    have hGet : Hid (∀ k, k < outN s → ∃ x, (cutS 10 s)[k]? = some x) := Lib.hid fun k hk => ⟨_, List.getElem?_eq_getElem (by omega)⟩
    have hVy := Lib.hid (fun k x (hx : (cutS 10 s)[k]? = some x) => vainTo_yes (x := x) hx)
    have hVn := Lib.hid (fun k x (hx : (cutS 10 s)[k]? = some x) => vainTo_no (x := x) hx)
    have hVl := Lib.hid (fun k => vainTo_le (cutS 10 s) k)
    simp only [if_true]
    clear hok he hpos hN hle
    generalize cutS 10 s = xs at *
    generalize outN s = m at *
    have hV0 : Hid (vainTo xs 0 = 0) := Lib.hid rfl
    generalize vainTo xs = V at *
    go_enter Tryd.func14, Tryd.ntmps14
    go_wp2_with fail
    refine hL.out.mono ?_
    rintro e w1 ⟨g, c, rfl, hc1, hc2, hl, hb⟩
    have hB := Lib.hid hb
    have hLn := Lib.hid hl
    unfold maxLen at hc2
    clear hb hl hL
    go_wp2_with fail
    go_loopw [7, 19] (fun vv iv wr => ∃ (k : Nat), k ≤ m ∧ iv = .int .i64 k ∧ vv = .int .i64 (V k : Int) ∧ Hid (LinesAt wr g m xs) ∧ Hid (Below w.heap.size w wr)) (fun _ iv _ => m - (intOf iv).toNat)
    case atStart => exact ⟨0, Nat.zero_le _, rfl, by rw [hV0.out]; rfl, hLn, hB⟩
    case round =>
      clear hLn hB
      obtain ⟨k, hk, rfl, rfl, hLn, hB⟩ := hrel
      have hvk := hVl.out k
      by_cases hlt : k < m
      · obtain ⟨x, hx⟩ := hGet.out k hlt
        have hcx := hLn.out k x hlt hx
        have hxx := Lib.hid hx
        clear hx
        cases h1 : (x.toList == [110, 111])
        · cases h2 : (x.toList == [119, 104, 97, 116])
          · have hS := Lib.hid (hVn.out k x hxx.out (by unfold isVain; rw [h1, h2]; rfl))
            have h1' : ¬ x.toList = [110, 111] := by simpa using h1
            have h2' : ¬ x.toList = [119, 104, 97, 116] := by simpa using h2
            go_wp2_with fail
            go_roundw
            case rel => exact ⟨k + 1, by omega, by go_num, by rw [hS.out], hLn, hB⟩
            case measure => simp [intOf]; omega
          · have hS := Lib.hid (hVy.out k x hxx.out (by unfold isVain; rw [h1, h2]; rfl))
            have h1' : ¬ x.toList = [110, 111] := by simpa using h1
            have h2' : x.toList = [119, 104, 97, 116] := by simpa using h2
            go_wp2_with fail
            go_roundw
            case rel => exact ⟨k + 1, by omega, by go_num, by rw [hS.out]; go_num, hLn, hB⟩
            case measure => simp [intOf]; omega
        · have hS := Lib.hid (hVy.out k x hxx.out (by unfold isVain; rw [h1]; rfl))
          have h1' : x.toList = [110, 111] := by simpa using h1
          go_wp2_with fail
          go_roundw
          case rel => exact ⟨k + 1, by omega, by go_num, by rw [hS.out]; go_num, hLn, hB⟩
          case measure => simp [intOf]; omega
      · obtain rfl : k = m := by omega
        go_wp2_with fail
        first | exact ⟨rfl, hB.out⟩ | (go_ret3; exact ⟨rfl, hB.out⟩)
set_option maxHeartbeats 4000000 in
set_option maxRecDepth 100000 in
theorem specCountOutputs_any (s : ByteArray) (w : World) (hs0 : s.size ≤ maxLen) :
    Calls Tryd.prog 13 #[.string s] w fun e w' => e = .returned (.tuple #[.int .i64 (badR s), .int .i64 (goodR s), .bool (okOut s)]) ∧ Below w.heap.size w w' := by
  unfold badR goodR
  by_cases h16 : s.size ≤ 16000
  · have hd : decide ((16000 : Int) < (s.size : Int)) = false := decide_eq_false (by omega)
    have hL := Lib.hid (l08Lines_any s w (by omega))
    rw [show (cutS 10 s).length - 1 = outN s from rfl, show (cutS 10 s).getLast?.getD ⟨#[]⟩ = lastOf s from rfl] at hL
    by_cases he : (lastOf s).toList = []
    · have hok : okOut s = true := by simp [okOut, h16, he]
      have hle : (cutS 10 s).length ≤ 16001 := by have := cutS_le 10 s; omega
      have hpos : 1 ≤ (cutS 10 s).length := by rw [cutS_len]; omega
      have hN : outN s < (cutS 10 s).length := by unfold outN; omega
      have hN2 : outN s ≤ 16000 := by unfold outN; omega
      have hGet : Hid (∀ k, k < outN s → ∃ x, (cutS 10 s)[k]? = some x) := Lib.hid fun k hk => ⟨_, List.getElem?_eq_getElem (by omega)⟩
      have hVy := Lib.hid (fun k x (hx : (cutS 10 s)[k]? = some x) => vainTo_yes (x := x) hx)
      have hVn := Lib.hid (fun k x (hx : (cutS 10 s)[k]? = some x) => vainTo_no (x := x) hx)
      have hVl := Lib.hid (fun k => vainTo_le (cutS 10 s) k)
      rw [hok]
      simp only [if_true]
      clear hok hpos hN hle
      generalize lastOf s = last at *
      generalize cutS 10 s = xs at *
      generalize outN s = m at *
      have hV0 : Hid (vainTo xs 0 = 0) := Lib.hid rfl
      generalize vainTo xs = V at *
      go_enter Tryd.func13, Tryd.ntmps13
      go_wp2_with fail
      refine hL.out.mono ?_
      rintro e w1 ⟨g, c, rfl, hc1, hc2, _, hl, hb⟩
      have hB := Lib.hid hb
      have hLn := Lib.hid (show LinesAt w1 g m xs from fun i x _ hx => hl i x hx)
      unfold maxLen at hc2
      clear hb hl hL
      go_wp2_with fail
      go_loopw [7, 8] (fun vv iv wr => ∃ (k : Nat), k ≤ m ∧ iv = .int .i64 k ∧ vv = .int .i64 (V k : Int) ∧ Hid (LinesAt wr g m xs) ∧ Hid (Below w.heap.size w wr)) (fun _ iv _ => m - (intOf iv).toNat)
      case atStart => exact ⟨0, Nat.zero_le _, rfl, by rw [hV0.out]; rfl, hLn, hB⟩
      case round =>
        clear hLn hB
        obtain ⟨k, hk, rfl, rfl, hLn, hB⟩ := hrel
        have hvk := hVl.out k
        by_cases hlt : k < m
        · obtain ⟨x, hx⟩ := hGet.out k hlt
          have hcx := hLn.out k x hlt hx
          have hxx := Lib.hid hx
          clear hx
          cases h1 : (x.toList == [110, 111])
          · cases h2 : (x.toList == [119, 104, 97, 116])
            · have hS := Lib.hid (hVn.out k x hxx.out (by unfold isVain; rw [h1, h2]; rfl))
              have h1' : ¬ x.toList = [110, 111] := by simpa using h1
              have h2' : ¬ x.toList = [119, 104, 97, 116] := by simpa using h2
              go_wp2_with fail
              go_roundw
              case rel => exact ⟨k + 1, by omega, by go_num, by rw [hS.out], hLn, hB⟩
              case measure => simp [intOf]; omega
            · have hS := Lib.hid (hVy.out k x hxx.out (by unfold isVain; rw [h1, h2]; rfl))
              have h1' : ¬ x.toList = [110, 111] := by simpa using h1
              have h2' : x.toList = [119, 104, 97, 116] := by simpa using h2
              go_wp2_with fail
              go_roundw
              case rel => exact ⟨k + 1, by omega, by go_num, by rw [hS.out]; go_num, hLn, hB⟩
              case measure => simp [intOf]; omega
          · have hS := Lib.hid (hVy.out k x hxx.out (by unfold isVain; rw [h1]; rfl))
            have h1' : x.toList = [110, 111] := by simpa using h1
            go_wp2_with fail
            go_roundw
            case rel => exact ⟨k + 1, by omega, by go_num, by rw [hS.out]; go_num, hLn, hB⟩
            case measure => simp [intOf]; omega
        · obtain rfl : k = m := by omega
          go_wp2_with fail
          first | exact ⟨rfl, hB.out⟩ | (go_ret3; exact ⟨rfl, hB.out⟩)
    · have hok : okOut s = false := by simp [okOut, he]
      rw [hok]
      simp only [Bool.false_eq_true, if_false]
      clear hok
      generalize lastOf s = last at *
      have he2 : (last.toList == []) = false := by simpa using he
      have he3 : (!last.toList.isEmpty) = true := by simpa using he
      go_enter Tryd.func13, Tryd.ntmps13
      go_wp2_with fail
      refine hL.out.mono ?_
      rintro e w1 ⟨g, c, rfl, _, _, _, _, hb⟩
      have hB := Lib.hid hb
      clear hb hL
      go_wp2_with fail
      first | exact ⟨rfl, hB.out⟩ | (go_ret3; exact ⟨rfl, hB.out⟩)
  · have hok : okOut s = false := by simp [okOut, h16]
    rw [hok]
    simp only [Bool.false_eq_true, if_false]
    have hd : decide ((16000 : Int) < (s.size : Int)) = true := decide_eq_true (by omega)
    clear hok
    go_enter Tryd.func13, Tryd.ntmps13
    go_wp2_with fail
    first | exact ⟨rfl, Below.refl _ _⟩ | (go_ret3; exact ⟨rfl, Below.refl _ _⟩)
theorem countOutputs_both (s : ByteArray) (hs : s.size ≤ maxLen) : ∃ (r0 r1 : Int) (r2 : Bool),
    (∀ (B : Nat) (w : World), B ≤ w.heap.size → Calls Tryd.prog 13 #[.string s] w fun e w' => e = .returned (.tuple #[.int .i64 r0, .int .i64 r1, .bool r2]) ∧ Below w.heap.size w w') ∧
    (∀ (B : Nat) (w : World), MaxAt w → B ≤ w.heap.size → Calls Tryd.prog 14 #[.string s] w fun e w' => e = .returned (.tuple #[.int .i64 r0, .int .i64 r1, .bool r2]) ∧ Below w.heap.size w w') :=
  ⟨badR s, goodR s, okOut s, fun _ w _ => specCountOutputs_any s w hs, fun _ w hM _ => countOutputs_any s w hs hM⟩
end Go.Proofs.YtpolhjkjgbfdhaaDoor
