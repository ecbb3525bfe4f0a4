/- Contracts: the text of a number in decimal, the model's loop and the program's FormatInt. Conditions: the table of powers of ten lies as the library's text lays it (the program's side). -/
import Derived.Test.YtpolhjkjgbfdhaaDoorDecPure
import Derived.Test.YtpolhjkjgbfdhaaDoorLayDec
import Derived.Test.YtpolhjkjgbfdhaaDoorStrs
import Derived.Test.YtpolhjkjgbfdhaaDoorAreJobs
import Derived.Shelf.Strconv.Itoa4
import Derived.Laws.Append
import Derived.Laws.AppendOwn
import Derived.IntWalk
namespace Go.Proofs.YtpolhjkjgbfdhaaDoor
open Go.RowKit Go.Lst Go

/-- The table of powers of ten. -/
def Tab10 (w : World) : Prop := Lib.TabIs Tryd.prog w "internal/strconv.uint64pow10" .u64 Lib.pow10Tab
theorem Tab10.kept {w w' : World} (h : Tab10 w) (hb : Below w.heap.size w w') : Tab10 w' := by
  unfold Tab10 Lib.TabIs World.var? at *
  cases hg : Tryd.prog.globalNamed "internal/strconv.uint64pow10" with
  | none => simp [hg] at h
  | some g =>
    simp only [hg, Option.bind_some] at h ⊢
    have hlt : g < w.heap.size := by
      rcases Nat.lt_or_ge g w.heap.size with h' | h'
      · exact h'
      · rw [Array.getElem?_eq_none h'] at h; simp at h
    rw [hb.block g hlt]
    exact h
theorem below_grow (w : World) (k : Nat) (os : Array Obj) : Below w.heap.size w (Sort.grow (w.drewN k) os) :=
  ⟨rfl, rfl, rfl, by rw [Sort.size_grow]; exact Nat.le_add_right _ _, fun g hg => by
    show ((w.drewN k).heap ++ os)[g]? = _
    exact Array.getElem?_append_left (show g < (w.drewN k).heap.size from hg)⟩
theorem fmt10_any (n : Int) (h0 : -9223372036854775808 ≤ n) (h1 : n ≤ 9223372036854775807) (w : World) (hT : Tab10 w) :
    Calls Tryd.prog 91 #[.int .i64 n, .int .i64 10] w fun e w' => e = .returned (.string (decS n)) ∧ Below w.heap.size w w' :=
  (Any.strconv_FormatInt_10 Tryd.laysM173 n h0 h1 w hT).mono fun e w' ⟨he, k, os, hw⟩ => ⟨he, by rw [hw]; exact below_grow w k os⟩
set_option maxHeartbeats 1000000 in
theorem decimal_any (n : Int) (h0 : -9223372036854775808 ≤ n) (h1 : n ≤ 9223372036854775807) (w : World) (hT : Tab10 w) :
    Calls Tryd.prog 77 #[.int .i64 n] w fun e w' => e = .returned (.string (decS n)) ∧ Below w.heap.size w w' := by
  have hF := Lib.hid (fmt10_any n h0 h1 w hT)
  generalize decS n = s at *
  go_enter Tryd.func77, Tryd.ntmps77
  go_wp2_with fail
  refine hF.out.mono ?_
  rintro e w' ⟨rfl, hb⟩
  have hB := Lib.hid hb
  clear hb
  go_wp2_with fail
  go_ret
  exact ⟨rfl, hB.out⟩
theorem infoU8 : (Tryd.prog.info? 5).map (fun i => (i.zero, i.size, i.bytes)) = some (some (.int .u8 0), 1, 1) := by kernel_rfl
theorem bytes_one (xs : List Int) : ∀ u ∈ xs.map (Value.int .u8), u.oneCell' = true := fun v hv => by
  obtain ⟨x, _, rfl⟩ := List.mem_map.1 hv
  rfl
theorem addr_plain (b o j : Nat) : (⟨b, o, none⟩ : Addr).add j = ⟨b, o + j, none⟩ := by unfold Addr.add; split <;> simp_all
/-- The bytes of a row in the block g. -/
def BytesAt (w : World) (g : Nat) (xs : List Int) : Prop := ∀ i x, xs[i]? = some x → w.cell? ⟨g, i, none⟩ = some (.int .u8 x)
theorem BytesAt.more {w w' : World} {g : Nat} {xs : List Int} (h : BytesAt w g xs) (hb : Below w.heap.size w w') : BytesAt w' g xs := fun i x hx => by
  have := h i x hx
  rw [hb.cell (p := ⟨g, i, none⟩) (World.block_lt_of_cell? w _ this)]; exact this
theorem BytesAt.news {w : World} {g : Nat} {xs : List Int} (h : BytesAt w g xs) (j : Nat) (u : Value) (hu : (xs.map (Value.int .u8))[j]? = some u) : w.cell? ((⟨g, 0, none⟩ : Addr).add j) = some u := by
  rw [addr_plain, Nat.zero_add]
  rw [List.getElem?_map] at hu
  obtain ⟨x, hx, rfl⟩ := Option.map_eq_some_iff.1 hu
  exact h j x hx
theorem BytesAt.own {w : World} {A g n c : Nat} {xs : List Int} (h : w.ownsRow A 5 1 (.slice (some ⟨g, 0, none⟩) n c) n (xs.map (Value.int .u8))) : BytesAt w g xs := fun i x hx => by
  have hi : i < xs.length := (List.getElem?_eq_some_iff.1 hx).1
  have := h.cellAt i (by have := h.1; rw [List.length_map] at this; omega)
  rw [this, List.getElem?_map, hx]; rfl
theorem BytesAt.text {w : World} {g n c : Nat} {xs : List Int} (h : BytesAt w g xs) (hl : xs.length = n) :
    ∀ dst, Tryd.prog.underlying dst = some .string → (convert 73 dst (.slice (some ⟨g, 0, none⟩) n c)).run Tryd.prog w = .ok (.string (strOfNums xs)) w :=
  run_convert_bytes_arg (P := Tryd.prog) w 73 5 Tryd.underlying73 Tryd.underlying5 g 0 n c xs hl (fun i hi => by
    have hx : xs[i]? = some (xs[i]'(by omega)) := List.getElem?_eq_getElem _
    rw [Nat.zero_add, List.getD_eq_getElem?_getD, hx]
    exact h i _ hx)
theorem row_openU {A n : Nat} {w : World} {v : Value} {cs : List Value} (h : w.ownsRow A 5 1 v n cs) (hn : 0 < n) : ∃ g c, v = .slice (some ⟨g, 0, none⟩) n c ∧ g < w.heap.size := by
  have hlt := h.lt
  obtain ⟨hl, h2⟩ := h
  rcases h2 with ⟨rfl, rfl⟩ | ⟨g, cap, cur, rfl, _, _⟩
  · omega
  · exact ⟨g, cap, rfl, (hlt g rfl).2⟩
def lenZ : Value → Nat
  | .slice _ n _ => if n = 0 then 1 else 0
  | _ => 0
theorem dec_bound {m : Nat} {out : List Int} {r : Nat} (h : DecInv m out r) (hm : m ≤ 9223372036854775808) : out.length ≤ 19 := by
  have hl := decI_len 18 m (by have : (10 : Nat) ^ 19 = 10000000000000000000 := by decide
                               omega)
  rcases h with ⟨rfl, _⟩ | ⟨_, h⟩
  · simp
  · rw [h, List.length_append] at hl; omega
theorem dec_digit (z : Int) : ∃ d : Int, z.tmod 10 = d ∧ (-10 < d ∧ d < 10) ∧ (d < 0 → -d = ((z.natAbs % 10 : Nat) : Int)) ∧ (¬ d < 0 → d = ((z.natAbs % 10 : Nat) : Int)) := by
  have e : (z.tmod 10).natAbs = z.natAbs % 10 := Int.natAbs_tmod z 10
  have := Nat.mod_lt z.natAbs (show 10 > 0 by decide)
  exact ⟨z.tmod 10, rfl, by omega, fun h => by omega, fun h => by omega⟩
theorem dec_rest {z : Int} (h0 : -9223372036854775808 ≤ z) (h1 : z ≤ 9223372036854775807) : ∃ y : Int, z.tdiv 10 = y ∧ y.natAbs = z.natAbs / 10 ∧ -922337203685477580 ≤ y ∧ y ≤ 922337203685477580 := by
  have e : (z.tdiv 10).natAbs = z.natAbs / 10 := Int.natAbs_tdiv z 10
  have e3 : z.natAbs / 10 ≤ 922337203685477580 := by omega
  refine ⟨z.tdiv 10, rfl, e, by omega, by omega⟩
set_option maxHeartbeats 4000000 in
set_option maxRecDepth 100000 in
theorem l01Dec_any (n : Int) (h0 : -9223372036854775808 ≤ n) (h1 : n ≤ 9223372036854775807) (w : World) :
    Calls Tryd.prog 75 #[.int .i64 n] w fun e w' => e = .returned (.string (decS n)) ∧ Below w.heap.size w w' := by
  obtain ⟨i0, hi, hz0, hz1, hz2⟩ := info_parts infoU8
  have hm : n.natAbs ≤ 9223372036854775808 := by omega
  have hBd : Hid (∀ out r, DecInv n.natAbs out r → out.length ≤ 19) := Lib.hid fun out r h => dec_bound h hm
  have hPos : Hid (¬ n < 0 → decS n = strOfNums (decI n.natAbs)) := Lib.hid decS_pos
  have hNeg : Hid (n < 0 → decS n = strOfNums (45 :: decI n.natAbs)) := Lib.hid decS_neg
  have hI0 := Lib.hid (DecInv.start n.natAbs)
  generalize decS n = s at *
  clear hm
  have hB0 := Lib.hid (below_alloc (Below.refl w.heap.size w) (.cells #[] 5))
  go_enter Tryd.func75, Tryd.ntmps75
  go_wp2_with fail
  have hg0 : w.heap.size < (w.alloc (.cells #[] 5)).heap.size := by rw [World.size_alloc]; omega
  generalize hw1 : w.alloc (.cells #[] 5) = w1 at *
  clear hw1
  go_loopw [3, 4] (fun ov zv wr => ∃ (out : List Int) (z : Int) (g c : Nat), ov = .slice (some ⟨g, 0, none⟩) out.length c ∧ zv = .int .i64 z ∧ Hid (DecInv n.natAbs out z.natAbs) ∧ (-9223372036854775808 ≤ z ∧ z ≤ 9223372036854775807) ∧ Hid (BytesAt wr g out) ∧ g < wr.heap.size ∧ Hid (Below w.heap.size w wr)) (fun ov zv _ => (intOf zv).natAbs + lenZ ov)
  case atStart => exact ⟨[], n, w.heap.size, 0, rfl, rfl, hI0, ⟨h0, h1⟩, Lib.hid (fun i x hx => by simp at hx), hg0, hB0⟩
  case round =>
    obtain ⟨out, z, g, c, rfl, rfl, hD, ⟨z0, z1⟩, hA, hg, hB⟩ := hrel
    have hln := hBd.out _ _ hD.out
    by_cases hgo : out = [] ∨ z ≠ 0
    · obtain ⟨d, hd, ⟨hd1, hd2⟩, hdn, hdp⟩ := dec_digit z
      obtain ⟨y, hy, hya, hy0, hy1⟩ := dec_rest z0 z1
      have hD2 := Lib.hid (hD.out.step (by rcases hgo with h | h; exact .inl h; exact .inr (by omega)))
      have hq : ((z.natAbs % 10 : Nat) : Int) < 10 := by omega
      have hMe : Hid (y.natAbs < z.natAbs + (if out.length = 0 then 1 else 0)) := Lib.hid (by
        rcases hgo with h | h
        · rw [h]; simp; omega
        · omega)
      have hYa := Lib.hid hya
      obtain ⟨q, hq0⟩ : ∃ q : Nat, q = z.natAbs % 10 := ⟨_, rfl⟩
      rw [← hq0] at hD2 hq hdn hdp
      have hw2 : IntKind.i64.wrap (48 + (q : Int)) = 48 + (q : Int) := IntWalk.i64_in _ (by omega)
      have hw3 : IntKind.u8.wrap (48 + (q : Int)) = 48 + (q : Int) := IntWalk.u8_in _ (by omega)
      clear hya hq0
      have hN : Hid (out ≠ [] → ((out.length : Int) == 0) = false) := Lib.hid fun h => by
        have : out.length ≠ 0 := fun e => h (List.length_eq_zero_iff.1 e)
        simp; omega
      generalize hlo : out.length = k at *
      have hL := Lib.hid hlo
      clear hlo
      have hK : k = 0 ∨ (((k : Int) == 0) = false ∧ (z != 0) = true ∧ 0 < k) := by
        by_cases hk : k = 0
        · exact .inl hk
        · have hne : out ≠ [] := fun e => hk (by rw [← hL.out, e]; rfl)
          rcases hgo with h | h
          · exact absurd h hne
          · exact .inr ⟨hN.out hne, by simpa using h, by omega⟩
      have hgs := Lib.hid hg
      have hO0 := Lib.hid (show (wr.alloc (.cells #[.int .u8 (48 + (q : Int))] 5)).ownsRow wr.heap.size 5 1 (.slice (some ⟨wr.heap.size, 0, none⟩) 1 1) 1 [.int .u8 (48 + (q : Int))] from World.ownsRow_lit wr #[.int .u8 (48 + (q : Int))] 1 (Nat.le_refl _) (by decide) rfl)
      have hA1 := Lib.hid (hA.out.more (below_alloc (Below.refl wr.heap.size wr) (.cells #[.int .u8 (48 + (q : Int))] 5)))
      have hB1 := Lib.hid (hB.out.alloc hB.out.size (.cells #[.int .u8 (48 + (q : Int))] 5))
      have hS1 := Lib.hid hB.out.size
      have hLL := Lib.hid (show (out.map (Value.int .u8)).length = k * 1 by rw [List.length_map, hL.out, Nat.mul_one])
      clear hgo hN hg
      by_cases hd0 : d < 0
      all_goals
        first
          | (have hdw := hdn hd0; clear hdn hdp)
          | (obtain rfl : d = (q : Int) := hdp hd0; clear hdn hdp)
      all_goals rcases hK with rfl | ⟨hk1, hk2, hk3⟩
      case pos.inl =>
        have hA2 := Lib.hid (show BytesAt (wr.alloc (.cells #[.int .u8 (48 + (q : Int))] 5)) wr.heap.size [48 + (q : Int)] from BytesAt.own (n := 1) (c := 1) hO0.out)
        have hg2 : wr.heap.size < (wr.alloc (.cells #[.int .u8 (48 + (q : Int))] 5)).heap.size := by rw [World.size_alloc]; omega
        have hnil : out = [] := List.length_eq_zero_iff.1 hL.out
        subst hnil
        go_wp2_with fail
        go_roundw
        case rel => exact ⟨[48 + (q : Int)], y, wr.heap.size, 1, rfl, rfl, by rw [hYa.out]; exact hD2, ⟨by omega, by omega⟩, hA2, hg2, hB1⟩
        case measure => have := hMe.out; simp [lenZ, intOf, hL.out] at this ⊢; omega
      case pos.inr =>
        go_wp2_with (at_builtin; refine wpList_append_own _ rfl _ _ _ rfl wr.heap.size 5 i0 (.int .u8 0) 1 1 Tryd.underlying73 hi hz0 hz1 hz2 rfl (by decide) _ 1 _ rfl hO0.out ⟨g, 0, none⟩ _ c (out.map (Value.int .u8)) rfl hLL.out hA1.out.news (bytes_one _) (by unfold maxLen; omega) (by omega) (by rw [World.size_alloc]; omega) ?_; intro v8 w8 hown8 hgrow8 hnil8; obtain ⟨g8, c8, rfl, hg8⟩ := row_openU hown8 (by omega); have hO8 := Lib.hid (show w8.ownsRow wr.heap.size 5 1 (.slice (some ⟨g8, 0, none⟩) (1 + _) c8) (1 + _) (((48 + (q : Int)) :: out).map (Value.int .u8)) from hown8); have hB8 := Lib.hid (hB1.out.grown hgrow8 hB1.out.size (fun x hx => by cases hx; exact hS1.out)); clear hown8 hgrow8 hnil8)
        go_roundw
        case rel => exact ⟨(48 + (q : Int)) :: out, y, g8, c8, by rw [List.length_cons, hL.out, Nat.add_comm], rfl, by rw [hYa.out]; exact hD2, ⟨by omega, by omega⟩, Lib.hid (BytesAt.own hO8.out), hg8, hB8⟩
        case measure => have := hMe.out; simp [lenZ, intOf, hL.out] at this ⊢; omega
      case neg.inl =>
        have hA2 := Lib.hid (show BytesAt (wr.alloc (.cells #[.int .u8 (48 + (q : Int))] 5)) wr.heap.size [48 + (q : Int)] from BytesAt.own (n := 1) (c := 1) hO0.out)
        have hg2 : wr.heap.size < (wr.alloc (.cells #[.int .u8 (48 + (q : Int))] 5)).heap.size := by rw [World.size_alloc]; omega
        have hnil : out = [] := List.length_eq_zero_iff.1 hL.out
        subst hnil
        go_wp2_with fail
        go_roundw
        case rel => exact ⟨[48 + (q : Int)], y, wr.heap.size, 1, rfl, rfl, by rw [hYa.out]; exact hD2, ⟨by omega, by omega⟩, hA2, hg2, hB1⟩
        case measure => have := hMe.out; simp [lenZ, intOf, hL.out] at this ⊢; omega
      case neg.inr =>
        go_wp2_with (at_builtin; refine wpList_append_own _ rfl _ _ _ rfl wr.heap.size 5 i0 (.int .u8 0) 1 1 Tryd.underlying73 hi hz0 hz1 hz2 rfl (by decide) _ 1 _ rfl hO0.out ⟨g, 0, none⟩ _ c (out.map (Value.int .u8)) rfl hLL.out hA1.out.news (bytes_one _) (by unfold maxLen; omega) (by omega) (by rw [World.size_alloc]; omega) ?_; intro v8 w8 hown8 hgrow8 hnil8; obtain ⟨g8, c8, rfl, hg8⟩ := row_openU hown8 (by omega); have hO8 := Lib.hid (show w8.ownsRow wr.heap.size 5 1 (.slice (some ⟨g8, 0, none⟩) (1 + _) c8) (1 + _) (((48 + (q : Int)) :: out).map (Value.int .u8)) from hown8); have hB8 := Lib.hid (hB1.out.grown hgrow8 hB1.out.size (fun x hx => by cases hx; exact hS1.out)); clear hown8 hgrow8 hnil8)
        go_roundw
        case rel => exact ⟨(48 + (q : Int)) :: out, y, g8, c8, by rw [List.length_cons, hL.out, Nat.add_comm], rfl, by rw [hYa.out]; exact hD2, ⟨by omega, by omega⟩, Lib.hid (BytesAt.own hO8.out), hg8, hB8⟩
        case measure => have := hMe.out; simp [lenZ, intOf, hL.out] at this ⊢; omega
    · have hz : z = 0 := by
        by_cases h : z = 0
        · exact h
        · exact absurd (.inr h) hgo
      subst hz
      have hne : out ≠ [] := fun e => hgo (.inl e)
      have hFi := Lib.hid (hD.out.fin hne)
      have hk0 : ((out.length : Int) == 0) = false := by
        have : out.length ≠ 0 := fun e => hne (List.length_eq_zero_iff.1 e)
        simp; omega
      have hln1 : 0 < out.length := by
        rcases Nat.eq_zero_or_pos out.length with h | h
        · exact absurd (List.length_eq_zero_iff.1 h) hne
        · exact h
      by_cases hn0 : n < 0
      · have hO0 := Lib.hid (show (wr.alloc (.cells #[.int .u8 45] 5)).ownsRow wr.heap.size 5 1 (.slice (some ⟨wr.heap.size, 0, none⟩) 1 1) 1 [.int .u8 45] from World.ownsRow_lit wr #[.int .u8 45] 1 (Nat.le_refl _) (by decide) rfl)
        have hA1 := Lib.hid (hA.out.more (below_alloc (Below.refl wr.heap.size wr) (.cells #[.int .u8 45] 5)))
        have hB1 := Lib.hid (hB.out.alloc hB.out.size (.cells #[.int .u8 45] 5))
        have hS1 := Lib.hid hB.out.size
        have hLL := Lib.hid (show (out.map (Value.int .u8)).length = out.length * 1 by rw [List.length_map, Nat.mul_one])
        have hS := Lib.hid (show s = strOfNums (45 :: out) by rw [hNeg.out hn0, ← hFi.out])
        have hC := Lib.hid (show (45 :: out).length = 1 + out.length by rw [List.length_cons, Nat.add_comm])
        clear hgo hne
        generalize out.length = k at *
        go_wp2_with (at_builtin; refine wpList_append_own _ rfl _ _ _ rfl wr.heap.size 5 i0 (.int .u8 0) 1 1 Tryd.underlying73 hi hz0 hz1 hz2 rfl (by decide) _ 1 _ rfl hO0.out ⟨g, 0, none⟩ _ c (out.map (Value.int .u8)) rfl hLL.out hA1.out.news (bytes_one _) (by unfold maxLen; omega) (by omega) (by rw [World.size_alloc]; omega) ?_; intro v8 w8 hown8 hgrow8 hnil8; obtain ⟨g8, c8, rfl, hg8⟩ := row_openU hown8 (by omega); have hO8 := Lib.hid (show w8.ownsRow wr.heap.size 5 1 (.slice (some ⟨g8, 0, none⟩) (1 + _) c8) (1 + _) ((45 :: out).map (Value.int .u8)) from hown8); have hB8 := Lib.hid (hB1.out.grown hgrow8 hB1.out.size (fun x hx => by cases hx; exact hS1.out)); have hcv := (BytesAt.own hO8.out).text (c := c8) hC.out 9 Tryd.underlying9; clear hown8 hgrow8 hnil8)
        go_ret
        exact ⟨by rw [hS.out]; rfl, hB8.out⟩
      · have hS := Lib.hid (show s = strOfNums out by rw [hPos.out (by omega), ← hFi.out])
        have hcv := hA.out.text (n := out.length) (c := c) rfl 9 Tryd.underlying9
        clear hgo hne
        generalize out.length = k at *
        go_wp2_with fail
        go_ret
        exact ⟨by rw [hS.out]; rfl, hB.out⟩
end Go.Proofs.YtpolhjkjgbfdhaaDoor
