/- Contracts: the text of a number in eight digits of sixteen, the model's. -/
import Derived.Test.YtfidppepchobeaaDoorFmtPure
import Derived.Test.YtfidppepchobeaaDoorBits
import Derived.Test.YtfidppepchobeaaDoorStrs
import Derived.Test.YtfidppepchobeaaDoorAreJobs
import Derived.Laws.Append
import Derived.Laws.AppendOwn
import Derived.IntWalk
namespace Go.Proofs.YtfidppepchobeaaDoor
open Go.RowKit Go.Lst Go FloatKit

theorem infoH8 : (Tryd.prog.info? 5).map (fun i => (i.zero, i.size, i.bytes)) = some (some (.int .u8 0), 1, 1) := by kernel_rfl
theorem one_u8 (x : Int) : ∀ u ∈ [Value.int .u8 x], u.oneCell' = true := by simp [Value.oneCell']
theorem bits_nat (b : Nat) (hb : b < 4294967296) : ∃ z : Nat, bitsOf b = (z : Int) ∧ z < 4294967296 := by
  unfold bitsOf
  split
  · exact ⟨2143289344, rfl, by omega⟩
  · exact ⟨b, rfl, hb⟩
theorem and15 (a : Nat) (ha : a < 4611686018427387904) : bits .and .i64 (a : Int) 15 = ((a % 16 : Nat) : Int) := by
  have h1 : (BitVec.ofInt 64 (a : Int)).toNat = a := by
    rw [BitVec.ofInt_natCast, BitVec.toNat_ofNat]; exact Nat.mod_eq_of_lt (by omega)
  have h2 : (BitVec.ofInt 64 (15 : Int)).toNat = 15 := by decide
  show IntKind.i64.wrap ((BitVec.ofInt 64 (a : Int) &&& BitVec.ofInt 64 (15 : Int)).toNat : Int) = _
  rw [BitVec.toNat_and, h1, h2, show (15 : Nat) = 2 ^ 4 - 1 by decide, Nat.and_two_pow_sub_one_eq_mod, IntKind.wrap_i64]
  omega
theorem news_u8 (w : World) (u : Value) : ∀ (j : Nat) (x : Value), [u][j]? = some x → (w.alloc (.cells #[u] 5)).cell? ((⟨w.heap.size, 0, none⟩ : Addr).add j) = some x := fun j x hj => by
  match j, hj with
  | 0, hj =>
    obtain rfl : u = x := by simpa using hj
    have := (Whole.made w 5 #[u] rfl).at_ (i := 0) (u := u) rfl
    exact this
theorem addr_plainH (b o j : Nat) : (⟨b, o, none⟩ : Addr).add j = ⟨b, o + j, none⟩ := by unfold Addr.add; split <;> simp_all
/-- The bytes of a row in the block g. -/
def BytesH (w : World) (g : Nat) (xs : List Int) : Prop := ∀ i x, xs[i]? = some x → w.cell? ⟨g, i, none⟩ = some (.int .u8 x)
theorem BytesH.more {w w' : World} {g : Nat} {xs : List Int} (h : BytesH w g xs) (hb : Below w.heap.size w w') : BytesH w' g xs := fun i x hx => by
  have := h i x hx
  rw [hb.cell (p := ⟨g, i, none⟩) (World.block_lt_of_cell? w _ this)]; exact this
theorem BytesH.news {w : World} {g : Nat} {xs : List Int} (h : BytesH w g xs) (j : Nat) (u : Value) (hu : (xs.map (Value.int .u8))[j]? = some u) : w.cell? ((⟨g, 0, none⟩ : Addr).add j) = some u := by
  rw [addr_plainH, Nat.zero_add]
  rw [List.getElem?_map] at hu
  obtain ⟨x, hx, rfl⟩ := Option.map_eq_some_iff.1 hu
  exact h j x hx
theorem BytesH.own {w : World} {A g n c : Nat} {xs : List Int} (h : w.ownsRow A 5 1 (.slice (some ⟨g, 0, none⟩) n c) n (xs.map (Value.int .u8))) : BytesH w g xs := fun i x hx => by
  have hi : i < xs.length := (List.getElem?_eq_some_iff.1 hx).1
  have := h.cellAt i (by have := h.1; rw [List.length_map] at this; omega)
  rw [this, List.getElem?_map, hx]; rfl
theorem BytesH.text {w : World} {g n c : Nat} {xs : List Int} (h : BytesH w g xs) (hl : xs.length = n) :
    ∀ dst, Tryd.prog.underlying dst = some .string → (convert 53 dst (.slice (some ⟨g, 0, none⟩) n c)).run Tryd.prog w = .ok (.string (strOfNums xs)) w :=
  run_convert_bytes_arg (P := Tryd.prog) w 53 5 Tryd.underlying53 Tryd.underlying5 g 0 n c xs hl (fun i hi => by
    have hx : xs[i]? = some (xs[i]'(by omega)) := List.getElem?_eq_getElem _
    rw [Nat.zero_add, List.getD_eq_getElem?_getD, hx]
    exact h i _ hx)
theorem row_openH {A n : Nat} {w : World} {v : Value} {cs : List Value} (h : w.ownsRow A 5 1 v n cs) (hn : 0 < n) : ∃ g c, v = .slice (some ⟨g, 0, none⟩) n c ∧ g < w.heap.size := by
  have hlt := h.lt
  obtain ⟨hl, h2⟩ := h
  rcases h2 with ⟨rfl, rfl⟩ | ⟨g, cap, cur, rfl, _, _⟩
  · omega
  · exact ⟨g, cap, rfl, (hlt g rfl).2⟩
theorem lit16 : ∀ d, (h : d < 16) → (((⟨#[48, 49, 50, 51, 52, 53, 54, 55, 56, 57, 97, 98, 99, 100, 101, 102]⟩ : ByteArray)[d]'(show d < 16 from h)).toNat : Int) = digI d := by decide
set_option maxHeartbeats 4000000 in
set_option maxRecDepth 100000 in
theorem l01Hex_any (b : Nat) (hb : b < 4294967296) (w : World) :
    Calls Tryd.prog 21 #[.float .f32 b] w fun e w' => e = .returned (.string (hex8 (bitsOf b).toNat)) ∧ Below w.heap.size w w' := by
  obtain ⟨i0, hi, hz0, hz1, hz2⟩ := info_parts infoH8
  have hBb := Lib.hid (fun w' => l01Bits_any b hb w')
  obtain ⟨z, hz, hzl⟩ := bits_nat b hb
  rw [hz] at hBb ⊢
  rw [show ((z : Nat) : Int).toNat = z by omega]
  have hTk : Hid (∀ t, t < 8 → (hexL z 8).take (t + 1) = (hexL z 8).take t ++ [digI (z / 16 ^ (7 - t) % 16)]) := Lib.hid fun t h => hexL_take z h
  have hFull : Hid (strOfNums ((hexL z 8).take 8) = hex8 z) := Lib.hid (by unfold hex8; rw [List.take_of_length_le (by rw [hexL_length]; omega)])
  have hLn : Hid (∀ t, t ≤ 8 → ((hexL z 8).take t).length = t) := Lib.hid fun t h => by rw [List.length_take, hexL_length]; omega
  have hAn : Hid (∀ t : Nat, t < 8 → bits .and .i64 ((z : Int) / 2 ^ (28 - 4 * t)) 15 = ((z / 16 ^ (7 - t) % 16 : Nat) : Int)) := Lib.hid fun t h => by
    have e : (z : Int) / 2 ^ (28 - 4 * t) = ((z / 16 ^ (7 - t) : Nat) : Int) := by
      rw [show 28 - 4 * t = 4 * (7 - t) by omega, Int.natCast_ediv, Int.natCast_pow, Int.pow_mul]; rfl
    rw [e]
    exact and15 _ (Nat.lt_of_le_of_lt (Nat.div_le_self _ _) (by omega))
  clear hb hz
  generalize hex8 z = S at *
  generalize hexL z 8 = L at *
  go_enter Tryd.func21, Tryd.ntmps21
  go_wp2_with (go_at_call 28; refine (hBb.out _).mono ?_; rintro e w' ⟨m, rfl, rfl⟩)
  have hO0 := Lib.hid (show ((w.drewN m).alloc (Obj.cells #[] 5)).ownsRow w.heap.size 5 1 (.slice (some ⟨w.heap.size, 0, none⟩) 0 0) 0 ((L.take 0).map (Value.int .u8)) from World.ownsRow_lit (w.drewN m) #[] 0 (by simp) (Nat.zero_le _) rfl)
  have hB0 := Lib.hid (show Below w.heap.size w ((w.drewN m).alloc (Obj.cells #[] 5)) from (below_drewN (Below.refl _ _) m).alloc (by simp) _)
  generalize (w.drewN m).alloc _ = w1 at *
  go_loopw [4, 5] (fun ov kv wr => ∃ t : Nat, t ≤ 8 ∧ kv = .int .i64 (28 - 4 * (t : Int)) ∧ Hid (wr.ownsRow w.heap.size 5 1 ov t ((L.take t).map (Value.int .u8))) ∧ Hid (Below w.heap.size w wr)) (fun _ kv _ => (intOf kv + 4).toNat)
  case atStart => exact ⟨0, Nat.zero_le _, rfl, hO0, hB0⟩
  case round =>
    clear hO0 hB0
    obtain ⟨t, ht, rfl, hO, hB⟩ := hrel
    by_cases hlt : t < 8
    · have hS1 := Lib.hid hB.out.size
      have han := hAn.out t hlt
      have hd16 : z / 16 ^ (7 - t) % 16 < 16 := Nat.mod_lt _ (by omega)
      have htk := Lib.hid (hTk.out t hlt)
      generalize z / 16 ^ (7 - t) % 16 = d at *
      obtain ⟨s, hs⟩ : ∃ s : Nat, s = 28 - 4 * t := ⟨_, rfl⟩
      have hs2 : 28 - 4 * (t : Int) = (s : Int) := by omega
      rw [← hs] at han
      rw [hs2]
      have hs3 : s ≤ 28 := by omega
      have hmin : min s 64 = s := by omega
      have hu : IntKind.u64.wrap (s : Int) = s := by rw [IntKind.wrap_u64]; omega
      have hs64 : (s : Int) ≤ 64 := by omega
      have hw4 : IntKind.i64.wrap ((s : Int) - 4) = 28 - 4 * ((t + 1 : Nat) : Int) := by rw [IntWalk.i64_in _ (by omega)]; omega
      have hd0 : decide ((0 : Int) ≤ (s : Int)) = true := decide_eq_true (by omega)
      have hsx := Lib.hid hs
      clear hs hs2
      obtain ⟨D, hD⟩ : ∃ D : Nat, ((⟨#[48, 49, 50, 51, 52, 53, 54, 55, 56, 57, 97, 98, 99, 100, 101, 102]⟩ : ByteArray)[d]'(show d < 16 from hd16)).toNat = D := ⟨_, rfl⟩
      have hDi := Lib.hid (show (D : Int) = digI d by rw [← hD]; exact lit16 d hd16)
      go_wp2_with (at_builtin; refine wpList_append_own _ rfl _ _ _ rfl w.heap.size 5 i0 (.int .u8 0) 1 1 Tryd.underlying53 hi hz0 hz1 hz2 rfl (by decide) _ t _ rfl (hO.out.alloc _) ⟨wr.heap.size, 0, none⟩ 1 1 [.int .u8 (D : Int)] rfl rfl (news_u8 wr _) (one_u8 _) (by unfold maxLen; omega) (by omega) (by rw [World.size_alloc]; have := hS1.out; omega) ?_; intro v8 w8 hown8 hgrow8 hnil8; have hB8 := Lib.hid ((hB.out.alloc hS1.out (.cells #[.int .u8 (D : Int)] 5)).grown hgrow8 (by rw [World.size_alloc]; have := hS1.out; omega) (fun g hg => (hO.out.lt g hg).1)); have hO8 := Lib.hid (show w8.ownsRow w.heap.size 5 1 v8 (t + 1) ((L.take (t + 1)).map (Value.int .u8)) by rw [htk.out, List.map_append, ← hDi.out]; exact hown8); clear hown8 hgrow8 hnil8)
      go_roundw
      case rel => exact ⟨t + 1, by omega, by first | rfl | go_num, hO8, hB8⟩
      case measure => simp [intOf]; have := hsx.out; omega
    · obtain rfl : t = 8 := by omega
      obtain ⟨g, c, rfl, hg⟩ := row_openH hO.out (by omega)
      have hA : BytesH wr g (L.take 8) := BytesH.own hO.out
      have hcv := hA.text (n := 8) (c := c) (hLn.out 8 (Nat.le_refl _)) 9 Tryd.underlying9
      rw [hFull.out] at hcv
      clear hO hA
      go_wp2_with fail
      go_ret
      exact ⟨rfl, hB.out⟩
end Go.Proofs.YtfidppepchobeaaDoor
