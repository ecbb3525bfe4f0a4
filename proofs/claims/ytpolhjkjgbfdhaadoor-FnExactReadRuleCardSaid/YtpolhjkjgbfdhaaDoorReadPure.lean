/- The number that a text spells in decimal: what Go's ParseInt reads and what the model's loop reads are the same of the text of a number; the pure side. -/
import Derived.Test.YtpolhjkjgbfdhaaDoorDecPure
import Derived.Lib.ParseIntB
namespace Go.Proofs.YtpolhjkjgbfdhaaDoor
open Go.Lib Go

theorem digits_step {u : Nat} (h : ¬ u < 10) : decDigits u = decDigits (u / 10) ++ [UInt8.ofNat (48 + u % 10)] := by rw [decDigits, dif_neg h]
theorem digits_small {u : Nat} (h : u < 10) : decDigits u = [UInt8.ofNat (48 + u)] := by rw [decDigits, dif_pos h]
theorem parse_snoc (M d : Nat) (hd : d < 10) : ∀ (l : List UInt8) (acc v : Nat), parseUintM M acc l = .ok v → v < 1844674407370955162 → v * 10 + d ≤ M → parseUintM M acc (l ++ [UInt8.ofNat (48 + d)]) = .ok (v * 10 + d)
  | [], acc, v, h, h1, h2 => by
    obtain rfl : acc = v := by simpa [parseUintM] using h
    simp only [List.nil_append, parseUintM, dig_nat hd]
    rw [if_pos (by omega), if_neg (by omega), if_neg (by omega)]
    simp
  | c :: l, acc, v, h, h1, h2 => by
    rw [List.cons_append]
    unfold parseUintM at h ⊢
    split at h
    · rename_i hc
      rw [if_pos hc]
      split at h
      · cases h
      · rename_i h3
        rw [if_neg h3]
        split at h
        · cases h
        · rename_i h4
          rw [if_neg h4]
          exact parse_snoc M d hd l _ v h h1 h2
    · cases h
theorem parse_digits : ∀ (k u : Nat), u ≤ k → u ≤ 10000000000000000 → parseUintM (2 ^ 64 - 1) 0 (decDigits u) = .ok u
  | 0, u, hk, _ => by
    obtain rfl : u = 0 := by omega
    rw [digits_small (by omega)]
    have := parse_snoc (2 ^ 64 - 1) 0 (by omega) [] 0 0 (by simp [parseUintM]) (by omega) (by omega)
    simpa using this
  | k + 1, u, hk, hu => by
    by_cases h : u < 10
    · rw [digits_small h]
      have := parse_snoc (2 ^ 64 - 1) u h [] 0 0 (by simp [parseUintM]) (by omega) (by omega)
      simpa using this
    · rw [digits_step h]
      have := parse_snoc (2 ^ 64 - 1) (u % 10) (by omega) _ 0 _ (parse_digits k (u / 10) (by omega) (by omega)) (by omega) (by omega)
      rw [this]; congr 1; omega
/-- A digit of the model's loop. -/
def numStep (n : Nat) (c : UInt8) : Nat := if 48 ≤ c.toNat ∧ c.toNat ≤ 57 then 10 * n + (c.toNat - 48) else n
def numOf (l : List UInt8) : Nat := l.foldl numStep 0
theorem numOf_digits : ∀ (k u : Nat), u ≤ k → numOf (decDigits u) = u
  | 0, u, hk => by
    obtain rfl : u = 0 := by omega
    rw [digits_small (by omega)]; rfl
  | k + 1, u, hk => by
    by_cases h : u < 10
    · rw [digits_small h]
      show numStep 0 _ = u
      unfold numStep
      rw [dig_nat h, if_pos (by omega)]; omega
    · rw [digits_step h]
      unfold numOf
      rw [List.foldl_append]
      have := numOf_digits k (u / 10) (by omega)
      unfold numOf at this
      rw [this]
      show numStep _ _ = u
      unfold numStep
      rw [dig_nat (Nat.mod_lt u (by decide)), if_pos (by omega)]; omega
theorem digits_head : ∀ (k u : Nat), u ≤ k → ∃ c r, decDigits u = c :: r ∧ 48 ≤ c.toNat ∧ c.toNat ≤ 57
  | 0, u, hk => by
    obtain rfl : u = 0 := by omega
    exact ⟨_, _, digits_small (by omega), by rw [dig_nat (by omega)]; omega, by rw [dig_nat (by omega)]; omega⟩
  | k + 1, u, hk => by
    by_cases h : u < 10
    · exact ⟨_, _, digits_small h, by rw [dig_nat h]; omega, by rw [dig_nat h]; omega⟩
    · obtain ⟨c, r, he, h1, h2⟩ := digits_head k (u / 10) (by omega)
      exact ⟨c, _, by rw [digits_step h, he]; rfl, h1, h2⟩
theorem parse_itoa (n : Int) (h0 : -1000000000000000 ≤ n) (h1 : n ≤ 1000000000000000) : parseIntB 64 (itoa n) = .ok n := by
  have hp := parse_digits n.natAbs n.natAbs (Nat.le_refl _) (by omega)
  obtain ⟨c, r, he, hc0, hc1⟩ := digits_head n.natAbs n.natAbs (Nat.le_refl _)
  unfold itoa
  by_cases h : n < 0
  · rw [if_pos h]
    unfold parseIntB
    simp only
    rw [if_pos (by decide)]
    unfold parseUintB
    rw [if_neg (by rw [he]; simp), hp]
    simp only
    have e : (45 : UInt8).toNat = 45 := rfl
    simp only [e, not_true_eq_false, false_and, if_false, true_and, if_true]
    rw [if_neg (by omega)]
    congr 1; omega
  · rw [if_neg h, show n.toNat = n.natAbs by omega, he]
    unfold parseIntB
    simp only
    rw [if_neg (by omega), ← he]
    unfold parseUintB
    rw [if_neg (by rw [he]; simp), hp]
    simp only
    rw [if_neg (by omega), if_neg (by omega), if_neg (by omega)]
    congr 1; omega
/-- The number of a text, and whether it is the text of a number that is not too great. -/
def valI (s : ByteArray) : Int := match parseIntB 64 s.data.toList with | .ok v => v | _ => 0
def isNum (s : ByteArray) : Bool := match parseIntB 64 s.data.toList with | .ok v => decide (-1000000000000000 ≤ v) && decide (v ≤ 1000000000000000) && decide (itoa v = s.data.toList) | _ => false
def numR (s : ByteArray) : Int := if isNum s then valI s else 0
theorem decS_data (n : Int) : (decS n).data.toList = itoa n := by unfold decS; simp
theorem decS_iff {n : Int} {s : ByteArray} : itoa n = s.data.toList ↔ decS n = s := by
  constructor
  · intro h
    unfold decS
    rw [h]
  · rintro rfl
    exact (decS_data n).symm
theorem num_yes {n : Int} (h0 : -1000000000000000 ≤ n) (h1 : n ≤ 1000000000000000) : isNum (decS n) = true ∧ valI (decS n) = n := by
  unfold isNum valI
  rw [decS_data, parse_itoa n h0 h1]
  simp [h0, h1]
theorem num_of {s : ByteArray} (h : isNum s = true) : -1000000000000000 ≤ valI s ∧ valI s ≤ 1000000000000000 ∧ decS (valI s) = s := by
  unfold isNum at h
  unfold valI
  split at h
  · simp only [Bool.and_eq_true, decide_eq_true_eq] at h
    exact ⟨h.1.1, h.1.2, decS_iff.1 h.2⟩
  · cases h
theorem num_not {s : ByteArray} (h : isNum s = false) {n : Int} (h0 : -1000000000000000 ≤ n) (h1 : n ≤ 1000000000000000) : ¬ decS n = s := fun e => by
  subst e
  rw [(num_yes h0 h1).1] at h
  cases h
theorem numR_small (s : ByteArray) : -1000000000000000 ≤ numR s ∧ numR s ≤ 1000000000000000 := by
  unfold numR
  cases h : isNum s
  · simp
  · have := num_of h
    simpa using ⟨this.1, this.2.1⟩
/-- What the model's loop makes of a text: its first k bytes; with its sign. -/
def numTo (s : ByteArray) (k : Nat) : Nat := numOf (s.data.toList.take k)
theorem numTo_step {s : ByteArray} {k : Nat} {c : UInt8} (h : s.data.toList[k]? = some c) : numTo s (k + 1) = numStep (numTo s k) c := by
  unfold numTo numOf
  rw [List.take_add_one, h, List.foldl_append]
  rfl
theorem numStep_le (n : Nat) (c : UInt8) : numStep n c ≤ 10 * n + 9 := by
  unfold numStep
  split <;> omega
theorem numTo_le (s : ByteArray) : ∀ k, numTo s k < 10 ^ k
  | 0 => by simp [numTo, numOf]
  | k + 1 => by
    have ih := numTo_le s k
    by_cases h : k < s.data.toList.length
    · rw [numTo_step (List.getElem?_eq_getElem h)]
      have := numStep_le (numTo s k) (s.data.toList[k])
      rw [Nat.pow_succ]; omega
    · unfold numTo at ih ⊢
      rw [List.take_of_length_le (by omega)] at ih ⊢
      rw [Nat.pow_succ]; omega
theorem numTo_all (s : ByteArray) : numTo s s.size = numOf s.data.toList := by
  unfold numTo
  rw [List.take_of_length_le (by rw [Array.length_toList]; exact Nat.le_refl _)]
/-- The model's number behind its loop. -/
def signed (s : ByteArray) : Int := if s.data.toList.head? = some 45 then -(numTo s s.size : Int) else numTo s s.size
theorem signed_of {n : Int} : signed (decS n) = n := by
  unfold signed
  rw [numTo_all, decS_data]
  obtain ⟨c, r, he, hc0, hc1⟩ := digits_head n.natAbs n.natAbs (Nat.le_refl _)
  have hn := numOf_digits n.natAbs n.natAbs (Nat.le_refl _)
  unfold itoa
  by_cases h : n < 0
  · rw [if_pos h]
    rw [List.head?_cons, if_pos rfl]
    have : numOf (45 :: decDigits n.natAbs) = numOf (decDigits n.natAbs) := rfl
    rw [this, hn]; omega
  · rw [if_neg h, show n.toNat = n.natAbs by omega]
    rw [if_neg (by rw [he]; intro e; simp only [List.head?_cons, Option.some.injEq] at e; subst e; revert hc0; decide), hn]
    omega
theorem decS_small (n : Int) (h0 : -1000000000000000 ≤ n) (h1 : n ≤ 1000000000000000) : (decS n).size ≤ 17 := by
  have hl := decI_len 15 n.natAbs (by have : (10 : Nat) ^ 16 = 10000000000000000 := by decide
                                      omega)
  by_cases h : n < 0
  · rw [decS_neg h, strOfNums_size, List.length_cons]; omega
  · rw [decS_pos h, strOfNums_size]; omega
/-- The model's test behind its loop. -/
theorem num_signed (s : ByteArray) : isNum s = (decide (-1000000000000000 ≤ signed s) && decide (signed s ≤ 1000000000000000) && decide (decS (signed s) = s)) := by
  cases h : isNum s
  · symm
    by_cases h0 : -1000000000000000 ≤ signed s
    · by_cases h1 : signed s ≤ 1000000000000000
      · have := num_not h h0 h1
        simp [this]
      · simp [h1]
    · simp [h0]
  · obtain ⟨h0, h1, h2⟩ := num_of h
    have : signed s = valI s := by rw [← h2, signed_of]; rw [h2]
    rw [this]
    simp [h0, h1, h2]
theorem num_len {s : ByteArray} (h : isNum s = true) : 1 ≤ s.size ∧ s.size ≤ 17 := by
  obtain ⟨h0, h1, h2⟩ := num_of h
  have a := decS_size (valI s) (by omega) (by omega)
  have b := decS_small (valI s) h0 h1
  rw [h2] at a b
  exact ⟨a.1, b⟩
theorem num_val {s : ByteArray} (h : isNum s = true) : numR s = signed s := by
  obtain ⟨h0, h1, h2⟩ := num_of h
  unfold numR
  rw [if_pos h]
  conv => rhs; rw [← h2]
  rw [signed_of]
end Go.Proofs.YtpolhjkjgbfdhaaDoor
