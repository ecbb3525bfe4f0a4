/- The decimal text of a number, as lists of bytes: how a loop makes it from its last digit on; the pure side. -/
import Derived.Lib.ItoaNum
import Derived.Lib.ItoaMem
import Derived.Laws.BytesArg
import Derived.IntWalk
namespace Go.Proofs.YtfidppepchobeaaDoor
open Go.Lib Go

/-- The digits of u as numbers. -/
def decI (u : Nat) : List Int := (decDigits u).map fun b => (b.toNat : Int)
theorem dig_nat {d : Nat} (h : d < 10) : (UInt8.ofNat (48 + d)).toNat = 48 + d := by
  rw [UInt8.toNat_ofNat']; omega
theorem decI_small {u : Nat} (h : u < 10) : decI u = [48 + (u : Int)] := by
  unfold decI
  rw [decDigits, dif_pos h]
  simp only [List.map_cons, List.map_nil, dig_nat h]
  rfl
theorem decI_big {u : Nat} (h : ¬ u < 10) : decI u = decI (u / 10) ++ [48 + ((u % 10 : Nat) : Int)] := by
  unfold decI
  rw [decDigits, dif_neg h]
  simp only [List.map_append, List.map_cons, List.map_nil, dig_nat (Nat.mod_lt u (by decide))]
  rfl
theorem decI_pos (u : Nat) : 1 ≤ (decI u).length := by
  by_cases h : u < 10
  · rw [decI_small h]; simp
  · rw [decI_big h]; simp
/-- What is still to be made ahead of the digits. -/
def decPre (r : Nat) : List Int := if r = 0 then [] else decI r
theorem decI_step (r : Nat) : decI r = decPre (r / 10) ++ [48 + ((r % 10 : Nat) : Int)] := by
  by_cases h : r < 10
  · rw [decI_small h]; unfold decPre
    rw [if_pos (by omega), Nat.mod_eq_of_lt h]; rfl
  · rw [decI_big h]; unfold decPre
    rw [if_neg (by omega)]
/-- out: the digits that are made; r: what is left of m. -/
def DecInv (m : Nat) (out : List Int) (r : Nat) : Prop := (out = [] ∧ r = m) ∨ (out ≠ [] ∧ decI m = decPre r ++ out)
theorem DecInv.start (m : Nat) : DecInv m [] m := .inl ⟨rfl, rfl⟩
theorem DecInv.step {m r : Nat} {out : List Int} (h : DecInv m out r) (hgo : out = [] ∨ r ≠ 0) : DecInv m ((48 + ((r % 10 : Nat) : Int)) :: out) (r / 10) := by
  refine .inr ⟨by simp, ?_⟩
  rcases h with ⟨rfl, rfl⟩ | ⟨hne, he⟩
  · exact decI_step r
  · rcases hgo with h0 | h0
    · exact absurd h0 hne
    · rw [he, show decPre r = decI r by unfold decPre; rw [if_neg h0], decI_step r, List.append_assoc]; rfl
theorem DecInv.fin {m : Nat} {out : List Int} (h : DecInv m out 0) (ho : out ≠ []) : out = decI m := by
  rcases h with ⟨h, _⟩ | ⟨_, h⟩
  · exact absurd h ho
  · rw [h]; rfl
theorem nums_str (l : List UInt8) : strOfNums (l.map fun b => (b.toNat : Int)) = ⟨l.toArray⟩ := by
  unfold strOfNums
  rw [List.map_map]
  have e : ((fun n : Int => UInt8.ofNat n.toNat) ∘ fun b : UInt8 => (b.toNat : Int)) = id := by
    funext b; simp
  rw [e, List.map_id]
/-- The text of n. -/
def decS (n : Int) : ByteArray := ⟨(itoa n).toArray⟩
theorem decS_pos {n : Int} (h : ¬ n < 0) : decS n = strOfNums (decI n.natAbs) := by
  unfold decS decI
  rw [nums_str]
  unfold itoa
  rw [if_neg h, show n.toNat = n.natAbs by omega]
theorem decS_neg {n : Int} (h : n < 0) : decS n = strOfNums (45 :: decI n.natAbs) := by
  have e : (45 : Int) :: decI n.natAbs = ((45 : UInt8) :: decDigits n.natAbs).map fun b => (b.toNat : Int) := rfl
  rw [e, nums_str]
  unfold decS itoa
  rw [if_pos h]
theorem decI_len : ∀ (k u : Nat), u < 10 ^ (k + 1) → (decI u).length ≤ k + 1
  | 0, u, h => by rw [decI_small (by simpa using h)]; simp
  | k + 1, u, h => by
    by_cases hs : u < 10
    · rw [decI_small hs]; simp
    · rw [decI_big hs, List.length_append]
      have := decI_len k (u / 10) (by rw [Nat.pow_succ] at h; omega)
      simp; omega
theorem decS_size (n : Int) (h0 : -9223372036854775808 ≤ n) (h1 : n ≤ 9223372036854775807) : 1 ≤ (decS n).size ∧ (decS n).size ≤ 20 := by
  have hl := decI_len 18 n.natAbs (by have : (10 : Nat) ^ 19 = 10000000000000000000 := by decide
                                      omega)
  have hp := decI_pos n.natAbs
  by_cases h : n < 0
  · rw [decS_neg h, strOfNums_size, List.length_cons]; omega
  · rw [decS_pos h, strOfNums_size]; omega
end Go.Proofs.YtfidppepchobeaaDoor
