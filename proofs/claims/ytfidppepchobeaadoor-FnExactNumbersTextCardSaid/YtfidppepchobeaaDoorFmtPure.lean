/- Pure facts: the digits of a number to the base of sixteen. -/
import Derived.Test.YtfidppepchobeaaDoorJoinPure
import Derived.Lib.Repeat
import Derived.Laws.BytesArg
namespace Go.Proofs.YtfidppepchobeaaDoor
open Go

/-- The byte of the digit d. -/
def digI (d : Nat) : Int := if d < 10 then 48 + d else 87 + d
/-- The last j digits of n. -/
def hexL (n : Nat) : Nat → List Int
  | 0 => []
  | j + 1 => hexL (n / 16) j ++ [digI (n % 16)]
theorem hexL_length (n : Nat) : ∀ j, (hexL n j).length = j := by
  intro j
  induction j generalizing n with
  | zero => rfl
  | succ j ih => unfold hexL; rw [List.length_append, ih]; rfl
theorem hexL_cons (n : Nat) : ∀ j, hexL n (j + 1) = digI (n / 16 ^ j % 16) :: hexL n j := by
  intro j
  induction j generalizing n with
  | zero => show [] ++ [digI (n % 16)] = [digI (n / 16 ^ 0 % 16)]; rw [Nat.pow_zero, Nat.div_one]; rfl
  | succ j ih =>
    show hexL (n / 16) (j + 1) ++ [digI (n % 16)] = _
    rw [ih]
    show digI (n / 16 / 16 ^ j % 16) :: (hexL (n / 16) j ++ [digI (n % 16)]) = digI (n / 16 ^ (j + 1) % 16) :: hexL n (j + 1)
    rw [Nat.div_div_eq_div_mul, Nat.pow_succ, Nat.mul_comm 16 (16 ^ j)]; rfl
theorem hexL_zero (m : Nat) : hexL 0 m = List.replicate m 48 := by
  induction m with
  | zero => rfl
  | succ m ih => unfold hexL; rw [show 0 / 16 = 0 by omega, ih, List.replicate_succ']; rfl
/-- Digits that are not needed are zeros. -/
theorem hexL_pad (m : Nat) : ∀ k n : Nat, n < 16 ^ k → hexL n (k + m) = List.replicate m 48 ++ hexL n k
  | 0, n, h => by
    have h0 : n = 0 := by rw [Nat.pow_zero] at h; omega
    rw [h0, Nat.zero_add, hexL_zero]
    show _ = _ ++ []
    rw [List.append_nil]
  | k + 1, n, h => by
    have h1 : n / 16 < 16 ^ k := by
      rw [Nat.pow_succ] at h
      exact Nat.div_lt_of_lt_mul (by rw [Nat.mul_comm]; exact h)
    rw [show k + 1 + m = (k + m) + 1 by omega]
    unfold hexL
    rw [hexL_pad m k (n / 16) h1, List.append_assoc]
theorem hexL_get (n : Nat) : ∀ (J t : Nat), t < J → (hexL n J)[t]? = some (digI (n / 16 ^ (J - 1 - t) % 16))
  | 0, t, h => by omega
  | J + 1, t, h => by
    rw [hexL_cons]
    match t with
    | 0 => rw [show J + 1 - 1 - 0 = J by omega]; rfl
    | t + 1 =>
      rw [List.getElem?_cons_succ, hexL_get n J t (by omega), show J - 1 - t = J + 1 - 1 - (t + 1) by omega]
theorem hexL_take (n : Nat) {t : Nat} (h : t < 8) : (hexL n 8).take (t + 1) = (hexL n 8).take t ++ [digI (n / 16 ^ (7 - t) % 16)] := by
  rw [List.take_add_one, hexL_get n 8 t h, show 8 - 1 - t = 7 - t by omega]; rfl
/-- The eight digits of a number of 32 bits. -/
def hex8 (n : Nat) : ByteArray := strOfNums (hexL n 8)
theorem strOf_size (xs : List Int) : (strOfNums xs).size = xs.length := by
  unfold strOfNums
  simp [ByteArray.size]
theorem strOf_app (xs ys : List Int) : strOfNums (xs ++ ys) = strOfNums xs ++ strOfNums ys := by
  apply ByteArray.ext
  apply Array.toList_inj.1
  rw [data_app, strOfNums_data, strOfNums_data, strOfNums_data, List.map_append]
theorem hex8_size (n : Nat) : (hex8 n).size = 8 := by unfold hex8; rw [strOf_size, hexL_length]
theorem rep_zero (m : Nat) : (⟨(Lib.repeatL [48] m).toArray⟩ : ByteArray) = strOfNums (List.replicate m 48) := by
  have h : Lib.repeatL [48] m = (List.replicate m (48 : Int)).map fun n => UInt8.ofNat n.toNat := by
    induction m with
    | zero => rfl
    | succ m ih =>
      show [48] ++ Lib.repeatL [48] m = _
      rw [ih, List.replicate_succ, List.map_cons]; rfl
  rw [h]; rfl
/-- Zeros and the digits that are needed are eight digits. -/
theorem pad8 {n k : Nat} (hk : k ≤ 8) (h : n < 16 ^ k) : strOfNums (List.replicate (8 - k) 48) ++ strOfNums (hexL n k) = hex8 n := by
  unfold hex8
  rw [← strOf_app, ← hexL_pad (8 - k) k n h, show k + (8 - k) = 8 by omega]
end Go.Proofs.YtfidppepchobeaaDoor
