/- A number in eight digits of sixteen: pure facts, and the program's reading of one. -/
import Derived.Test.YtjpmliigepegaaaDoorLetters
import Derived.Test.YtjpmliigepegaaaDoorBits
namespace Go.Proofs.YtjpmliigepegaaaDoor
open Go.RowKit Go.Lst FloatKit

def hexB (c : Nat) : Bool := decide (48 ≤ c ∧ c ≤ 57) || decide (97 ≤ c ∧ c ≤ 102)
def hexV (c : Nat) : Nat := if c ≤ 57 then c - 48 else c - 87
def byteN (x : ByteArray) (k : Nat) : Nat := (x.data.toList.getD k 0).toNat
def hexTo (x : ByteArray) : Nat → Nat
  | 0 => 0
  | k + 1 => 16 * hexTo x k + hexV (byteN x k)
def hexAll (x : ByteArray) : Nat → Bool
  | 0 => true
  | k + 1 => hexAll x k && hexB (byteN x k)
/-- Eight digits, which are the bits of some number as they are told. -/
def okHex (x : ByteArray) : Bool := decide (x.size = 8) && hexAll x 8 && (bitsOf (hexTo x 8) == (hexTo x 8 : Int))
def hexR (x : ByteArray) : Nat := if okHex x then hexTo x 8 else 0
theorem hexV_lt {c : Nat} (h : hexB c = true) : hexV c < 16 := by
  unfold hexB at h
  simp only [Bool.or_eq_true, decide_eq_true_eq] at h
  unfold hexV
  split <;> omega
theorem hexB_high {c : Nat} (h : 128 ≤ c) : hexB c = false := by
  unfold hexB
  rw [decide_eq_false (by omega), decide_eq_false (by omega)]; rfl
theorem hexTo_lt {x : ByteArray} : ∀ {k : Nat}, hexAll x k = true → hexTo x k < 16 ^ k
  | 0, _ => by show (0 : Nat) < 1; omega
  | k + 1, h => by
    unfold hexAll at h
    rw [Bool.and_eq_true] at h
    have h1 := hexTo_lt h.1
    have h2 := hexV_lt h.2
    unfold hexTo
    rw [Nat.pow_succ]
    omega
theorem hexTo_small {x : ByteArray} {k : Nat} (h : hexAll x k = true) (hk : k ≤ 8) : hexTo x k < 4294967296 :=
  Nat.lt_of_lt_of_le (hexTo_lt h) (Nat.pow_le_pow_right (n := 16) (by omega) (i := k) (j := 8) hk)
theorem hexAll_no {x : ByteArray} {k : Nat} (h : hexB (byteN x k) = false) : ∀ n, k < n → hexAll x n = false
  | 0, hn => by omega
  | n + 1, hn => by
    unfold hexAll
    by_cases e : k = n
    · subst e; rw [h, Bool.and_false]
    · rw [hexAll_no h n (by omega), Bool.false_and]
theorem okHex_long {x : ByteArray} (h : x.size ≠ 8) : okHex x = false ∧ hexR x = 0 := by
  have e : okHex x = false := by unfold okHex; rw [decide_eq_false h]; rfl
  exact ⟨e, by unfold hexR; rw [e]; rfl⟩
theorem okHex_bad {x : ByteArray} {k : Nat} (h : hexB (byteN x k) = false) (hk : k < 8) : okHex x = false ∧ hexR x = 0 := by
  have e : okHex x = false := by unfold okHex; rw [hexAll_no h 8 hk]; simp
  exact ⟨e, by unfold hexR; rw [e]; rfl⟩
theorem okHex_all {x : ByteArray} (hs : x.size = 8) (h : hexAll x 8 = true) : okHex x = (bitsOf (hexTo x 8) == (hexTo x 8 : Int)) := by unfold okHex; rw [decide_eq_true hs, h]; rfl
theorem hexR_yes {x : ByteArray} (h : okHex x = true) : hexR x = hexTo x 8 := by unfold hexR; rw [h]; rfl
theorem hexR_no {x : ByteArray} (h : okHex x = false) : hexR x = 0 := by unfold hexR; rw [h]; rfl
theorem hexR_lt (x : ByteArray) : hexR x < 4294967296 := by
  unfold hexR
  split
  · rename_i h
    unfold okHex at h
    rw [Bool.and_eq_true, Bool.and_eq_true] at h
    exact hexTo_small h.1.2 (Nat.le_refl _)
  · omega

set_option maxHeartbeats 1000000 in
theorem hexDigit_any (r : Nat) (w : World) :
    Calls Tryd.prog 21 #[.int .i32 (r : Int)] w fun e w' => e = .returned (.tuple #[.int .i64 (if hexB r then (hexV r : Int) else 0), .bool (hexB r)]) ∧ w = w' := by
  by_cases h1 : 48 ≤ r
  · by_cases h2 : r ≤ 57
    · have hb : hexB r = true := by unfold hexB; rw [decide_eq_true ⟨h1, h2⟩]; rfl
      have hv : (hexV r : Int) = (r : Int) - 48 := by unfold hexV; rw [if_pos h2]; omega
      have d1 : decide ((48 : Int) ≤ (r : Int)) = true := decide_eq_true (by omega)
      have d2 : decide ((r : Int) ≤ 57) = true := decide_eq_true (by omega)
      have w1 : IntKind.i32.wrap ((r : Int) - 48) = (r : Int) - 48 := by rw [IntKind.wrap_i32]; omega
      have w2 : IntKind.i64.wrap ((r : Int) - 48) = (r : Int) - 48 := IntWalk.i64_in _ (by omega)
      rw [hb, if_pos rfl, hv]
      clear hb hv
      go_enter Tryd.func21, Tryd.ntmps21
      go_wp2_with fail
      first | exact ⟨rfl, rfl⟩ | (go_ret2; exact ⟨rfl, rfl⟩)
    · have d1 : decide ((48 : Int) ≤ (r : Int)) = true := decide_eq_true (by omega)
      have d2 : decide ((r : Int) ≤ 57) = false := decide_eq_false (by omega)
      by_cases h3 : 97 ≤ r
      · have d3 : decide ((97 : Int) ≤ (r : Int)) = true := decide_eq_true (by omega)
        by_cases h4 : r ≤ 102
        · have d4 : decide ((r : Int) ≤ 102) = true := decide_eq_true (by omega)
          have hb : hexB r = true := by unfold hexB; rw [decide_eq_true (show 97 ≤ r ∧ r ≤ 102 from ⟨h3, h4⟩), Bool.or_true]
          have hv : (hexV r : Int) = (r : Int) - 97 + 10 := by unfold hexV; rw [if_neg h2]; omega
          have w1 : IntKind.i32.wrap ((r : Int) - 97) = (r : Int) - 97 := by rw [IntKind.wrap_i32]; omega
          have w2 : IntKind.i64.wrap ((r : Int) - 97) = (r : Int) - 97 := IntWalk.i64_in _ (by omega)
          have w3 : IntKind.i64.wrap ((r : Int) - 97 + 10) = (r : Int) - 97 + 10 := IntWalk.i64_in _ (by omega)
          rw [hb, if_pos rfl, hv]
          clear hb hv
          go_enter Tryd.func21, Tryd.ntmps21
          go_wp2_with fail
          first | exact ⟨rfl, rfl⟩ | (go_ret2; exact ⟨rfl, rfl⟩)
        · have d4 : decide ((r : Int) ≤ 102) = false := decide_eq_false (by omega)
          have hb : hexB r = false := by unfold hexB; rw [decide_eq_false (by omega), decide_eq_false (by omega)]; rfl
          rw [hb, if_neg (by simp)]
          clear hb
          go_enter Tryd.func21, Tryd.ntmps21
          go_wp2_with fail
          first | exact ⟨rfl, rfl⟩ | (go_ret2; exact ⟨rfl, rfl⟩)
      · have d3 : decide ((97 : Int) ≤ (r : Int)) = false := decide_eq_false (by omega)
        have hb : hexB r = false := by unfold hexB; rw [decide_eq_false (by omega), decide_eq_false (by omega)]; rfl
        rw [hb, if_neg (by simp)]
        clear hb
        go_enter Tryd.func21, Tryd.ntmps21
        go_wp2_with fail
        first | exact ⟨rfl, rfl⟩ | (go_ret2; exact ⟨rfl, rfl⟩)
  · have d1 : decide ((48 : Int) ≤ (r : Int)) = false := decide_eq_false (by omega)
    have d3 : decide ((97 : Int) ≤ (r : Int)) = false := decide_eq_false (by omega)
    have hb : hexB r = false := by unfold hexB; rw [decide_eq_false (by omega), decide_eq_false (by omega)]; rfl
    rw [hb, if_neg (by simp)]
    clear hb
    go_enter Tryd.func21, Tryd.ntmps21
    go_wp2_with fail
    first | exact ⟨rfl, rfl⟩ | (go_ret2; exact ⟨rfl, rfl⟩)
theorem hexDigit_is {q : Bool} (r : Nat) (hq : hexB r = q) (w : World) :
    Calls Tryd.prog 21 #[.int .i32 (r : Int)] w fun e w' => e = .returned (.tuple #[.int .i64 (if q then (hexV r : Int) else 0), .bool q]) ∧ w = w' := by
  rw [← hq]; exact hexDigit_any r w
set_option maxHeartbeats 400000 in
theorem fromBitsIn_any (n : Nat) (hn : n < 4294967296) (w : World) : Calls Tryd.prog 22 #[.int .i64 (n : Int)] w (Ret (.tuple #[.float .f32 n, .bool true]) w) := by
  have d1 : decide ((n : Int) < 0) = false := decide_eq_false (by omega)
  have d2 : decide ((4294967295 : Int) < (n : Int)) = false := decide_eq_false (by omega)
  have hw : IntKind.u32.wrap (n : Int) = n := by rw [IntKind.wrap_u32]; omega
  go_enter Tryd.func22, Tryd.ntmps22
  go_wp2_with fail
  go_ret2
  exact Ret.now _ _
set_option maxHeartbeats 4000000 in
set_option maxRecDepth 100000 in
theorem readNumber_any (s : ByteArray) (hs : s.size ≤ 1048576) (w : World) :
    Calls Tryd.prog 16 #[.string s] w fun e w' => e = .returned (.tuple #[.float .f32 (hexR s), .bool (okHex s)]) ∧ Below w.heap.size w w' := by
  by_cases h8 : s.size = 8
  · have hd : ((s.size : Int) != 8) = false := by rw [bne_eq_false_iff_eq]; omega
    have hd2 : (s.size != 8) = false := by rw [bne_eq_false_iff_eq]; exact h8
    have hBad := Lib.hid (fun k (hk : k < 8) (h : hexB (byteN s k) = false) => okHex_bad h hk)
    have hEnd : Hid (hexAll s 8 = true → okHex s = (bitsOf (hexTo s 8) == (hexTo s 8 : Int))) := Lib.hid fun h => okHex_all h8 h
    have hLt : Hid (∀ k, hexAll s k = true → k ≤ 8 → hexTo s k < 4294967296) := Lib.hid fun k h hk => hexTo_small h hk
    have hS1 : Hid (∀ k, hexTo s (k + 1) = 16 * hexTo s k + hexV (byteN s k)) := Lib.hid fun k => rfl
    have hS2 : Hid (∀ k, hexAll s (k + 1) = (hexAll s k && hexB (byteN s k))) := Lib.hid fun k => rfl
    have h01 : Hid (hexTo s 0 = 0) := Lib.hid rfl
    have h02 : Hid (hexAll s 0 = true) := Lib.hid rfl
    have hRy := Lib.hid (fun (h : okHex s = true) => hexR_yes h)
    have hRn := Lib.hid (fun (h : okHex s = false) => hexR_no h)
    have hG : Hid (∀ p, Below w.heap.size w (w.iter s p)) := Lib.hid fun p => below_iter w s p
    generalize okHex s = Q at *
    generalize hexR s = R at *
    generalize hexTo s = HT at *
    generalize hexAll s = HA at *
    go_enter Tryd.func16, Tryd.ntmps16
    go_wp2_with fail
    go_loopw [4] (fun bv wr => ∃ k : Nat, k ≤ 8 ∧ wr = w.iter s k ∧ bv = .int .i64 (HT k : Int) ∧ Hid (HA k = true)) (fun _ wr => s.size - wr.iterPos w.heap.size)
    case atStart => exact ⟨0, Nat.zero_le _, rfl, by rw [h01.out]; rfl, h02⟩
    case round =>
      obtain ⟨k, hk, rfl, rfl, hA⟩ := hrel
      by_cases hlt : k < s.size
      · have hgd := byte_getD s k hlt
        have hbn : byteN s k = (s[k]'hlt).toNat := by unfold byteN; rw [hgd]
        have hlk := hLt.out k hA.out hk
        by_cases h128 : (s[k]'hlt).toNat < 128
        · have hnx : ∀ ty, _ := fun ty => run_next_ascii (P := Tryd.prog) w s k ty hlt h128
          have hz1 := hS1.out k
          have hz2 := hS2.out k
          rw [hbn] at hz1 hz2
          cases hq : hexB (s[k]'hlt).toNat
          · have hF := Lib.hid (hBad.out k (by omega) (by rw [hbn]; exact hq))
            have hH := Lib.hid (fun w' => hexDigit_is (s[k]'hlt).toNat hq w')
            clear hq hgd hbn hz1 hz2
            go_wp2_with (go_at_call 21; (with_reducible refine (hH.out _).mono ?_); rintro e w' ⟨rfl, rfl⟩)
            first | exact ⟨by rw [hF.out.1, hF.out.2]; rfl, hG.out _⟩ | (go_ret2; exact ⟨by rw [hF.out.1, hF.out.2]; rfl, hG.out _⟩)
          · have hH := Lib.hid (fun w' => hexDigit_is (s[k]'hlt).toNat hq w')
            have hv16 := hexV_lt hq
            have hA2 : Hid (HA (k + 1) = true) := Lib.hid (by rw [hz2, hA.out, hq]; rfl)
            generalize hexV (s[k]'hlt).toNat = d at *
            have hw1 : IntKind.i64.wrap ((HT k : Int) * 16) = (HT k : Int) * 16 := IntWalk.i64_in _ (by omega)
            have hw2 : IntKind.i64.wrap ((HT k : Int) * 16 + (d : Int)) = ((HT (k + 1) : Nat) : Int) := by rw [IntWalk.i64_in _ (by omega), hz1]; omega
            clear hq hgd hbn hz1 hz2
            go_wp2_with (go_at_call 21; (with_reducible refine (hH.out _).mono ?_); rintro e w' ⟨rfl, rfl⟩)
            go_roundw
            case rel => exact ⟨k + 1, by omega, rfl, rfl, hA2⟩
            case measure => simp; omega
        · have hnx : ∀ ty, _ := fun ty => run_next_any (P := Tryd.prog) w s k ty hlt
          have hd4 := (decode_high s k hlt (by omega)).1
          have hF := Lib.hid (hBad.out k (by omega) (by rw [hbn]; exact hexB_high (by omega)))
          have hH := Lib.hid (fun w' => hexDigit_is (Utf8.decode s k).1 (hexB_high (by omega)) w')
          clear hgd hbn
          go_wp2_with (go_at_call 21; (with_reducible refine (hH.out _).mono ?_); rintro e w' ⟨rfl, rfl⟩)
          first | exact ⟨by rw [hF.out.1, hF.out.2]; rfl, hG.out _⟩ | (go_ret2; exact ⟨by rw [hF.out.1, hF.out.2]; rfl, hG.out _⟩)
      · have hnx : ∀ ty, _ := fun ty => run_next_end (P := Tryd.prog) w s k ty hlt
        obtain rfl : k = 8 := by omega
        have hlk := hLt.out 8 hA.out (Nat.le_refl _)
        have hok := Lib.hid (hEnd.out hA.out)
        have hFb := Lib.hid (fun w' => fromBitsIn_any (HT 8) hlk w')
        have hBb := Lib.hid (fun w' => bitsOf_any (HT 8) hlk w')
        generalize HT 8 = z at *
        generalize bitsOf z = bz at *
        have hBl : Hid (∀ m, Below w.heap.size w ((w.iter s 8).drewN m)) := Lib.hid fun m => below_drewN (hG.out 8) m
        cases hq : (bz == (z : Int))
        · have hq2 : (bz != (z : Int)) = true := by rw [bne, hq]; rfl
          have hR0 := Lib.hid (hRn.out (by rw [hok.out]; exact hq))
          have hok2 := Lib.hid (hok.out.trans hq)
          clear hq
          go_wp2_with (first | (go_at_call 22; (with_reducible refine (hFb.out _).mono ?_); rintro e w' ⟨m, rfl, rfl⟩) | (go_at_call 23; (with_reducible refine (hBb.out _).mono ?_); rintro e w' ⟨m2, rfl, rfl⟩))
          go_ret2
          exact ⟨by rw [hR0.out, hok2.out]; rfl, hBl.out _⟩
        · have hq2 : (bz != (z : Int)) = false := by rw [bne, hq]; rfl
          have hR0 := Lib.hid (hRy.out (by rw [hok.out]; exact hq))
          have hok2 := Lib.hid (hok.out.trans hq)
          clear hq
          go_wp2_with (first | (go_at_call 22; (with_reducible refine (hFb.out _).mono ?_); rintro e w' ⟨m, rfl, rfl⟩) | (go_at_call 23; (with_reducible refine (hBb.out _).mono ?_); rintro e w' ⟨m2, rfl, rfl⟩))
          go_ret2
          exact ⟨by rw [hR0.out, hok2.out]; rfl, hBl.out _⟩
  · have hd : ((s.size : Int) != 8) = true := by rw [bne_iff_ne]; omega
    have hd2 : (s.size != 8) = true := by rw [bne_iff_ne]; exact h8
    have hF := Lib.hid (okHex_long h8)
    clear h8
    go_enter Tryd.func16, Tryd.ntmps16
    go_wp2_with fail
    first | exact ⟨by rw [hF.out.1, hF.out.2]; rfl, Below.refl _ _⟩ | (go_ret2; exact ⟨by rw [hF.out.1, hF.out.2]; rfl, Below.refl _ _⟩)
end Go.Proofs.YtjpmliigepegaaaDoor
