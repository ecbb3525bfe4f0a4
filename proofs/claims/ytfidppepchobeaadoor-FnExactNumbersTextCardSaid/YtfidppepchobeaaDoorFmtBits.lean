/- The text of a number to the base of sixteen (strconv.FormatInt), walked in the library's code. Condition: the table of trailing zeros holds 4 in the place that 16 asks. -/
import Derived.Test.YtfidppepchobeaaDoorHexText
namespace Go.Proofs.YtfidppepchobeaaDoor
open Go.RowKit Go.Lst Go

theorem lit36 : ∀ d, (h : d < 16) → (((⟨#[48, 49, 50, 51, 52, 53, 54, 55, 56, 57, 97, 98, 99, 100, 101, 102, 103, 104, 105, 106, 107, 108, 109, 110, 111, 112, 113, 114, 115, 116, 117, 118, 119, 120, 121, 122]⟩ : ByteArray)[d]'(show d < 36 by omega)).toNat : Int) = digI d := by decide
theorem and15u (a : Nat) (ha : a < 4611686018427387904) : bits .and .u64 (a : Int) 15 = ((a % 16 : Nat) : Int) := by
  have h1 : (BitVec.ofInt 64 (a : Int)).toNat = a := by
    rw [BitVec.ofInt_natCast, BitVec.toNat_ofNat]; exact Nat.mod_eq_of_lt (by omega)
  have h2 : (BitVec.ofInt 64 (15 : Int)).toNat = 15 := by decide
  show IntKind.u64.wrap ((BitVec.ofInt 64 (a : Int) &&& BitVec.ofInt 64 (15 : Int)).toNat : Int) = _
  rw [BitVec.toNat_and, h1, h2, show (15 : Nat) = 2 ^ 4 - 1 by decide, Nat.and_two_pow_sub_one_eq_mod, IntKind.wrap_u64]
  omega
/-- The row behind j digits: what was there, and the digits at its end. -/
def rowF (zs : List Value) (n j : Nat) : List Value := zs.take (65 - j) ++ (hexL n j).map (Value.int .u8)
theorem rowF_length {zs : List Value} (hz : zs.length = 65) (n : Nat) {j : Nat} (hj : j ≤ 65) : (rowF zs n j).length = 65 := by
  unfold rowF; rw [List.length_append, List.length_take, List.length_map, hexL_length, hz]; omega
theorem set_mid {α : Type} (v x : α) (T : List α) : ∀ A : List α, (A ++ [x] ++ T).set A.length v = A ++ (v :: T)
  | [] => rfl
  | a :: A => by
    show a :: ((A ++ [x] ++ T).set A.length v) = a :: (A ++ (v :: T))
    rw [set_mid v x T A]
theorem rowF_set {zs : List Value} (hz : zs.length = 65) (n : Nat) {j : Nat} (hj : j < 65) : (rowF zs n j).set (64 - j) (.int .u8 (digI (n / 16 ^ j % 16))) = rowF zs n (j + 1) := by
  unfold rowF
  rw [show 65 - j = (64 - j) + 1 by omega, List.take_add_one, List.getElem?_eq_getElem (by omega : 64 - j < zs.length), Option.toList_some, hexL_cons, List.map_cons,
    show 65 - (j + 1) = 64 - j by omega]
  have h := set_mid (.int .u8 (digI (n / 16 ^ j % 16))) (zs[64 - j]'(by omega)) ((hexL n j).map (Value.int .u8)) (zs.take (64 - j))
  rw [List.length_take, show min (64 - j) zs.length = 64 - j by omega] at h
  exact h
theorem rowF_at {zs : List Value} (hz : zs.length = 65) (n : Nat) {j : Nat} (hj : j ≤ 65) (i : Nat) (hi : i < j) : (rowF zs n j)[65 - j + i]? = some (.int .u8 ((hexL n j).getD i 0)) := by
  unfold rowF
  rw [List.getElem?_append_right (by rw [List.length_take]; omega), List.length_take, show 65 - j + i - min (65 - j) zs.length = i by omega, List.getElem?_map,
    List.getElem?_eq_getElem (by rw [hexL_length]; exact hi), List.getD_eq_getElem?_getD, List.getElem?_eq_getElem (by rw [hexL_length]; exact hi)]
  rfl
theorem hex_more {n j : Nat} (hn : n < 4294967296) (h : 16 ≤ n / 16 ^ j) : j < 7 := by
  rcases Nat.lt_or_ge j 7 with h7 | h7
  · exact h7
  · exfalso
    have h1 : (16 : Nat) ^ 7 ≤ 16 ^ j := Nat.pow_le_pow_right (by omega) h7
    have h2 : n / 16 ^ j ≤ n / 16 ^ 7 := Nat.div_le_div_left h1 (by decide)
    have h3 : (16 : Nat) ^ 7 = 268435456 := by decide
    rw [h3] at h2
    omega
theorem hex_last {n j : Nat} (h : n / 16 ^ j < 16) : n < 16 ^ (j + 1) := by
  rw [Nat.pow_succ, Nat.mul_comm]
  exact (Nat.div_lt_iff_lt_mul (Nat.pow_pos (by omega))).1 h
/-- The place of the table that 16 asks holds 4. -/
def TzAt (w : World) : Prop := w.cell? ⟨4, 15, none⟩ = some (.int .u8 4)
theorem TzAt.kept {w w' : World} (h : TzAt w) (hb : Below w.heap.size w w') : TzAt w' := by
  unfold TzAt at *
  rw [hb.cell (World.block_lt_of_cell? w _ h)]; exact h
set_option maxHeartbeats 1000000 in
theorem tz16_any (w : World) (hT : TzAt w) : Calls Tryd.prog 61 #[.int .u64 16] w fun e w' => e = .returned (.int .i64 4) ∧ w = w' := by
  have h64 : Calls Tryd.prog 67 #[.int .u64 16] w fun e w' => e = .returned (.int .i64 4) ∧ w = w' := by
    unfold TzAt at hT
    have h1 : IntKind.u64.wrap (-16) = 18446744073709551600 := by decide
    have h2 : bits .and .u64 16 18446744073709551600 = 16 := by decide
    have h3 : IntKind.u64.wrap (16 * 285870213051353865) = 4573923408821661840 := by decide
    have h3b : IntKind.u64.wrap 4573923408821661840 = 4573923408821661840 := by decide
    have h4 : (4573923408821661840 : Int) / 288230376151711744 = 15 := by decide
    go_enter Tryd.func67, Tryd.ntmps67
    go_wp2_with fail
    go_ret
    exact ⟨rfl, rfl⟩
  have h5 := Lib.hid h64
  clear h64 hT
  go_enter Tryd.func61, Tryd.ntmps61
  go_wp2_with fail
  refine h5.out.mono ?_
  rintro e w' ⟨rfl, rfl⟩
  go_wp2_with fail
  go_ret
  exact ⟨rfl, rfl⟩
set_option maxHeartbeats 1000000 in
theorem pow16_any (w : World) : Calls Tryd.prog 60 #[.int .i64 16] w fun e w' => e = .returned (.bool true) ∧ w = w' := by
  have h2 : bits .and .i64 16 15 = 0 := by decide
  go_enter Tryd.func60, Tryd.ntmps60
  go_wp2_with fail
  go_ret
  exact ⟨rfl, rfl⟩
theorem slice65 (g p : Nat) (hp : p < 65) (W : World) : (Instr.sliceAt 93 (.pointer (some ⟨g, 0, none⟩)) (some (.int .i64 (p : Int))) none none).run Tryd.prog W = .ok (.slice (some ⟨g, p, none⟩) (65 - p) (65 - p)) W := by
  have e1 : p ≤ 65 := by omega
  have e2 : ¬ 65 = p := by omega
  have e3 : ¬ (65 : Nat) < p := by omega
  simp [Instr.sliceAt, Instr.sureAddr, run_underlying Tryd.underlying93, Instr.sliceBounds, Instr.sliceBound, asIntOf, go_sem, e1, e2, e3]
set_option maxHeartbeats 4000000 in
set_option maxRecDepth 100000 in
theorem formatBits_any (n : Nat) (hn : n < 4294967296) (w : World) (hT : TzAt w) :
    Calls Tryd.prog 48 #[.slice none 0 0, .int .u64 (n : Int), .int .i64 16, .bool false, .bool false] w fun e w' => (∃ k, 1 ≤ k ∧ k ≤ 8 ∧ n < 16 ^ k ∧ e = .returned (.tuple #[.slice none 0 0, .string (strOfNums (hexL n k))])) ∧ Below w.heap.size w w' := by
  have hP := Lib.hid (fun w' => pow16_any w')
  have hZ := Lib.hid (fun w' (hb : Below w.heap.size w w') => tz16_any w' (hT.kept hb))
  have hzl : Tryd.zeroCells93.toList.length = 65 := by kernel_rfl
  have hO0 := Lib.hid (show (w.alloc (.cells Tryd.zeroCells93 93)).ownsRow w.heap.size 93 1 (.slice (some ⟨w.heap.size, 0, none⟩) 65 65) 65 (rowF Tryd.zeroCells93.toList n 0) by
    have h0 : rowF Tryd.zeroCells93.toList n 0 = Tryd.zeroCells93.toList := by
      unfold rowF
      rw [List.take_of_length_le (by rw [hzl]; exact Nat.le_refl _)]
      show _ ++ [] = _
      rw [List.append_nil]
    rw [h0]
    exact World.ownsRow_lit w Tryd.zeroCells93 65 (Nat.le_refl _) (by unfold maxLen; omega) hzl)
  have hB0 := Lib.hid (below_alloc (Below.refl w.heap.size w) (.cells Tryd.zeroCells93 93))
  have hZ1 := Lib.hid (hZ.out _ hB0.out)
  have hLe : Hid (∀ j, j ≤ 65 → (rowF Tryd.zeroCells93.toList n j).length = 65) := Lib.hid fun j h => rowF_length hzl n h
  have hSe : Hid (∀ j, j < 65 → (rowF Tryd.zeroCells93.toList n j).set (64 - j) (.int .u8 (digI (n / 16 ^ j % 16))) = rowF Tryd.zeroCells93.toList n (j + 1)) := Lib.hid fun j h => rowF_set hzl n h
  have hAt : Hid (∀ j, j ≤ 65 → ∀ i, i < j → (rowF Tryd.zeroCells93.toList n j)[65 - j + i]? = some (.int .u8 ((hexL n j).getD i 0))) := Lib.hid fun j h i hi => rowF_at hzl n h i hi
  have hHl : Hid (∀ j, (hexL n j).length = j) := Lib.hid fun j => hexL_length n j
  generalize rowF Tryd.zeroCells93.toList n = RF at *
  go_enter Tryd.func48, Tryd.ntmps48
  go_wp2_with fail
  refine (hP.out _).mono ?_
  rintro e w1 ⟨rfl, hw1⟩
  rw [← hw1]
  clear hw1 hzl hZ hP
  generalize w.alloc (.cells Tryd.zeroCells93 93) = w2 at *
  go_wp2_with fail
  refine hZ1.out.mono ?_
  rintro e w3 ⟨rfl, hw3⟩
  rw [← hw3]
  clear hw3
  go_wp2_with fail
  generalize hgg : w.heap.size = g at *
  have hGG := Lib.hid hgg
  clear hgg
  go_loopw [1, 13] (fun uv iv wr => ∃ j : Nat, j ≤ 7 ∧ uv = .int .u64 ((n / 16 ^ j : Nat) : Int) ∧ iv = .int .i64 ((65 - j : Nat) : Int) ∧ Hid (wr.ownsRow g 93 1 (.slice (some ⟨g, 0, none⟩) 65 65) 65 (RF j)) ∧ Hid (Below g w wr)) (fun uv _ _ => (intOf uv).toNat)
  case atStart => exact ⟨0, by omega, by rw [Nat.pow_zero, Nat.div_one], rfl, hO0, hB0⟩
  case round =>
    clear hO0 hB0
    obtain ⟨j, hj, rfl, rfl, hO, hB⟩ := hrel
    have hul : n / 16 ^ j < 4294967296 := Nat.lt_of_le_of_lt (Nat.div_le_self _ _) hn
    have hq0 : wr.cell? ⟨g, 64 - j, none⟩ = (RF j)[64 - j]? := hO.out.cellAt (64 - j) (by omega)
    have hl65 := hLe.out j (by omega)
    obtain ⟨x0, hx0⟩ : ∃ x, (RF j)[64 - j]? = some x := ⟨_, List.getElem?_eq_getElem (by omega)⟩
    rw [hx0] at hq0
    have hfr : wr.frozen? ⟨g, 64 - j, none⟩ = false := hO.out.frozenAt (64 - j)
    have hst := hO.out.stored (64 - j) (.int .u8 (digI (n / 16 ^ j % 16)))
    rw [hSe.out j (by omega)] at hst
    have hB2 := Lib.hid (hB.out.setCell (p := ⟨g, 64 - j, none⟩) (Nat.le_refl _) (.int .u8 (digI (n / 16 ^ j % 16))))
    have hO2 := Lib.hid hst.1
    clear hst hx0 hl65
    have hd16 : n / 16 ^ j % 16 < 16 := Nat.mod_lt _ (by omega)
    have han := and15u (n / 16 ^ j) (by omega)
    have hsh : ((n / 16 ^ j : Nat) : Int) / 16 = ((n / 16 ^ (j + 1) : Nat) : Int) := by
      rw [Nat.pow_succ, ← Nat.div_div_eq_div_mul, Int.natCast_ediv (n / 16 ^ j) 16]; rfl
    have hw1 : IntKind.i64.wrap (((65 - j : Nat) : Int) - 1) = ((64 - j : Nat) : Int) := by rw [IntWalk.i64_in _ (by omega)]; omega
    have hlast := Lib.hid (fun (h : n / 16 ^ j < 16) => hex_last h)
    have hmore := Lib.hid (fun (h : 16 ≤ n / 16 ^ j) => hex_more hn h)
    have h65 : ((64 - j : Nat) : Int) < 65 := by omega
    have h640 : (0 : Int) ≤ ((64 - j : Nat) : Int) := by omega
    have h64n : ((64 - j : Nat) : Int).toNat = 64 - j := by omega
    by_cases hge : 16 ≤ n / 16 ^ j
    · have hd : decide ((16 : Int) ≤ ((n / 16 ^ j : Nat) : Int)) = true := decide_eq_true (by omega)
      have hj7 := hmore.out hge
      have hsm : n / 16 ^ (j + 1) < n / 16 ^ j := by
        rw [Nat.pow_succ, ← Nat.div_div_eq_div_mul]; omega
      have hsm2 := Lib.hid hsm
      generalize n / 16 ^ j % 16 = d at *
      have hd36 : d < 36 := by omega
      obtain ⟨D, hD⟩ : ∃ D : Nat, ((⟨#[48, 49, 50, 51, 52, 53, 54, 55, 56, 57, 97, 98, 99, 100, 101, 102, 103, 104, 105, 106, 107, 108, 109, 110, 111, 112, 113, 114, 115, 116, 117, 118, 119, 120, 121, 122]⟩ : ByteArray)[d]'hd36).toNat = D := ⟨_, rfl⟩
      have hDi : digI d = (D : Int) := by rw [← hD]; exact (lit36 d hd16).symm
      rw [hDi] at hO2 hB2
      generalize hu2 : n / 16 ^ (j + 1) = u2 at *
      have hU2 := Lib.hid hu2
      clear hu2
      generalize n / 16 ^ j = u at *
      have hq : (u : Int) < 4294967296 := by omega
      generalize hp : 64 - j = p at *
      have hPp := Lib.hid hp
      have hj65 : (((65 - j : Nat)) : Int) = (p : Int) + 1 := by omega
      clear hp hsm
      rw [hj65] at hw1
      rw [hj65]
      go_wp2_with fail
      go_roundw
      case rel => exact ⟨j + 1, by omega, by rw [hU2.out], by have := hPp.out; show Value.int .i64 _ = Value.int .i64 _; congr 1; omega, hO2, hB2⟩
      case measure => simp [intOf]; have := hsm2.out; omega
    · have hd : decide ((16 : Int) ≤ ((n / 16 ^ j : Nat) : Int)) = false := decide_eq_false (by omega)
      have hmod : n / 16 ^ j % 16 = n / 16 ^ j := Nat.mod_eq_of_lt (by omega)
      have hnk := Lib.hid (hlast.out (by omega))
      rw [hmod] at hO2 hB2 hd16
      clear han hsh hmod hmore hlast
      generalize n / 16 ^ j = d at *
      have hd36 : d < 36 := by omega
      obtain ⟨D, hD⟩ : ∃ D : Nat, ((⟨#[48, 49, 50, 51, 52, 53, 54, 55, 56, 57, 97, 98, 99, 100, 101, 102, 103, 104, 105, 106, 107, 108, 109, 110, 111, 112, 113, 114, 115, 116, 117, 118, 119, 120, 121, 122]⟩ : ByteArray)[d]'hd36).toNat = D := ⟨_, rfl⟩
      have hDi : digI d = (D : Int) := by rw [← hD]; exact (lit36 d hd16).symm
      rw [hDi] at hO2 hB2
      obtain ⟨p, hp⟩ : ∃ p, p = 64 - j := ⟨_, rfl⟩
      have hcv := run_convert_bytes_arg (P := Tryd.prog) (wr.setCell ⟨g, p, none⟩ (.int .u8 (D : Int))) 53 5 Tryd.underlying53 Tryd.underlying5 g p (65 - p) (65 - p) (hexL n (j + 1)) (by rw [hHl.out]; omega) (fun i hi => by
        have h1 := hAt.out (j + 1) (by omega) i (by omega)
        have h2 := hO2.out.cellAt (65 - (j + 1) + i) (by omega)
        rw [h1] at h2
        rw [← hp] at h2
        rw [show p + i = 65 - (j + 1) + i by omega]
        exact h2) 9 Tryd.underlying9
      have hpl : p < 65 := by omega
      have hsl : ∀ W, (Instr.sliceAt 93 (.pointer (some ⟨g, 0, none⟩)) (some (.int .i64 (p : Int))) none none).run Tryd.prog W = .ok (.slice (some ⟨g, p, none⟩) (65 - p) (65 - p)) W := fun W => slice65 g p hpl W
      rw [← hp] at hO2 hB2 hq0 hfr hw1 h65 h640 h64n
      have hPp := Lib.hid hp
      have hj65 : (((65 - j : Nat)) : Int) = (p : Int) + 1 := by omega
      rw [hj65] at hw1
      rw [hj65]
      clear hp
      go_wp2_with fail
      first | exact ⟨⟨j + 1, by omega, by omega, hnk.out, rfl⟩, by rw [hGG.out]; exact hB2.out⟩ | (go_ret2; exact ⟨⟨j + 1, by omega, by omega, hnk.out, rfl⟩, by rw [hGG.out]; exact hB2.out⟩)
end Go.Proofs.YtfidppepchobeaaDoor
