/- Pure facts: tasks are given to stations, the one with the greatest time first of those that are free. -/
import Derived.Test.YtfidppepchobeaaLine
import Derived.Test.YtfidppepchobeaaCallsPure
namespace Go.Proofs.Ytfidppepchobeaa
open Go.RowKit Go.Lst

theorem andNot_zero (a b : Nat) (ha : a < 4096) (hb : b < 4096) (h : ∀ j, a.testBit j = true → b.testBit j = true) : bits .andNot .i64 (a : Int) (b : Int) = 0 := by
  have h1 : (BitVec.ofInt 64 (a : Int)).toNat = a := by
    rw [BitVec.ofInt_natCast, BitVec.toNat_ofNat]; exact Nat.mod_eq_of_lt (by omega)
  have h2 : (BitVec.ofInt 64 (b : Int)).toNat = b := by
    rw [BitVec.ofInt_natCast, BitVec.toNat_ofNat]; exact Nat.mod_eq_of_lt (by omega)
  show IntKind.i64.wrap ((BitVec.ofInt 64 (a : Int) &&& ~~~ BitVec.ofInt 64 (b : Int)).toNat : Int) = _
  have : BitVec.ofInt 64 (a : Int) &&& ~~~ BitVec.ofInt 64 (b : Int) = 0#64 := by
    apply BitVec.eq_of_getLsbD_eq
    intro i hi
    rw [BitVec.getLsbD_and, BitVec.getLsbD_not, BitVec.getLsbD_zero, ← BitVec.testBit_toNat, ← BitVec.testBit_toNat, h1, h2]
    cases hq : a.testBit i
    · rfl
    · rw [h i hq]; simp
  rw [this]
  rfl

/-- Whether the task k can be put into a station behind what is done. -/
def fits (ts bs : List Int) (c : Int) (d : Nat) (ld : Int) (k : Nat) : Bool := !d.testBit k && (bits .andNot .i64 (bs.getD k 0) (d : Int) == 0) && decide (ld + ts.getD k 0 ≤ c)
def pickTo (ts bs : List Int) (c : Int) (d : Nat) (ld : Int) : Nat → Int
  | 0 => -1
  | k + 1 => if fits ts bs c d ld k then (if pickTo ts bs c d ld k < 0 then (k : Int) else if ts.getD (pickTo ts bs c d ld k).toNat 0 < ts.getD k 0 then (k : Int) else pickTo ts bs c d ld k) else pickTo ts bs c d ld k
theorem pickTo_in (ts bs : List Int) (c : Int) (d : Nat) (ld : Int) : ∀ k : Nat, -1 ≤ pickTo ts bs c d ld k ∧ pickTo ts bs c d ld k < k
  | 0 => ⟨Int.le_refl _, by show (-1 : Int) < 0; omega⟩
  | k + 1 => by
    have := pickTo_in ts bs c d ld k
    unfold pickTo
    split
    · split
      · omega
      · split <;> omega
    · omega
theorem pickTo_fits (ts bs : List Int) (c : Int) (d : Nat) (ld : Int) : ∀ k : Nat, 0 ≤ pickTo ts bs c d ld k → fits ts bs c d ld (pickTo ts bs c d ld k).toNat = true
  | 0, h => by change (0 : Int) ≤ -1 at h; omega
  | k + 1, h => by
    have ih := pickTo_fits ts bs c d ld k
    unfold pickTo at h ⊢
    split at h
    · rename_i hf
      rw [if_pos hf]
      split at h
      · rename_i hn; rw [if_pos hn]; exact hf
      · rename_i hn; rw [if_neg hn]
        split at h
        · rename_i hl; rw [if_pos hl]; exact hf
        · rename_i hl; rw [if_neg hl]; exact ih h
    · rename_i hf
      rw [if_neg hf]; exact ih h
theorem pickTo_up (ts bs : List Int) (c : Int) (d : Nat) (ld : Int) (i : Nat) (hi : fits ts bs c d ld i = true) : ∀ k : Nat, i < k → 0 ≤ pickTo ts bs c d ld k
  | 0, h => by omega
  | k + 1, h => by
    have ih := pickTo_up ts bs c d ld i hi k
    unfold pickTo
    split
    · split
      · omega
      · split <;> omega
    · rename_i hf
      by_cases e : i = k
      · subst e; exact absurd hi hf
      · exact ih (by omega)
/-- The first open task. -/
theorem open_least {d n : Nat} (hd : d < 2 ^ n) (hne : d ≠ 2 ^ n - 1) : ∃ i, i < n ∧ d.testBit i = false ∧ ∀ j, j < i → d.testBit j = true := by
  have hex : ∃ i, i < n ∧ d.testBit i = false := by
    by_cases h : ∃ i, i < n ∧ d.testBit i = false
    · exact h
    · refine absurd ?_ hne
      apply Nat.eq_of_testBit_eq
      intro i
      rw [Nat.testBit_two_pow_sub_one]
      by_cases hi : i < n
      · rw [decide_eq_true hi]
        cases hq : d.testBit i
        · exact absurd ⟨i, hi, hq⟩ h
        · rfl
      · rw [decide_eq_false hi]
        exact Nat.testBit_lt_two_pow (Nat.lt_of_lt_of_le hd (Nat.pow_le_pow_right (by omega) (by omega)))
  obtain ⟨i, hi⟩ := hex
  have : ∀ m i : Nat, i ≤ m → i < n → d.testBit i = false → ∃ i, i < n ∧ d.testBit i = false ∧ ∀ j, j < i → d.testBit j = true := by
    intro m
    induction m with
    | zero => intro i h0 h1 h2; exact ⟨i, h1, h2, fun j hj => by omega⟩
    | succ m ih =>
      intro i h0 h1 h2
      by_cases hj : ∃ j, j < i ∧ d.testBit j = false
      · obtain ⟨j, hj1, hj2⟩ := hj
        exact ih j (by omega) (by omega) hj2
      · refine ⟨i, h1, h2, fun j hj2 => ?_⟩
        cases hq : d.testBit j
        · exact absurd ⟨j, hj2, hq⟩ hj
        · rfl
  exact this i i (Nat.le_refl _) hi.1 hi.2
theorem p2_nat {n : Nat} (hn : n ≤ 12) : p2 n = ((2 ^ n : Nat) : Int) := by
  have h : (2 : Nat) ^ n ≤ 2 ^ 12 := Nat.pow_le_pow_right (by omega) hn
  unfold p2
  rw [Int.one_mul, IntKind.wrap_i64, show (2 : Int) ^ n = ((2 ^ n : Nat) : Int) by rw [Int.natCast_pow]; rfl]
  generalize (2 : Nat) ^ n = P at *
  omega
theorem setsAt_nat {n : Nat} (hn : n ≤ 12) : setsAt n = ((2 ^ n - 1 : Nat) : Int) := by
  have h : (2 : Nat) ^ n ≤ 2 ^ 12 := Nat.pow_le_pow_right (by omega) hn
  have h1 : 1 ≤ (2 : Nat) ^ n := Nat.one_le_two_pow
  unfold setsAt
  rw [p2_nat hn, IntKind.wrap_i64]
  generalize (2 : Nat) ^ n = P at *
  omega
theorem okSets_at {bs : List Int} : ∀ {n i : Nat}, okSets bs n = true → i < n → inB (bs.getD i 0) 0 (setsAt i) = true
  | 0, _, _, h => by omega
  | n + 1, i, h, hi => by
    unfold okSets at h
    rw [Bool.and_eq_true] at h
    by_cases e : i = n
    · subst e; exact h.2
    · exact okSets_at h.1 (by omega)
/-- A task fits into an empty station while not all are done. -/
theorem pick_some {ts bs : List Int} {c : Int} {d n : Nat} (hn : n ≤ 12) (hd : d < 2 ^ n) (hne : d ≠ 2 ^ n - 1) (hs : okSets bs n = true) (hc : ∀ i, i < n → ts.getD i 0 ≤ c) : 0 ≤ pickTo ts bs c d 0 n := by
  obtain ⟨i, hi, ho, hall⟩ := open_least hd hne
  refine pickTo_up ts bs c d 0 i ?_ n hi
  have hb := okSets_at hs hi
  rw [setsAt_nat (by omega)] at hb
  obtain ⟨b0, b1⟩ := inB_true hb
  have h12 : (2 : Nat) ^ n ≤ 2 ^ 12 := Nat.pow_le_pow_right (by omega) hn
  have hi12 : (2 : Nat) ^ i ≤ 2 ^ 12 := Nat.pow_le_pow_right (by omega) (by omega)
  have h1 : 1 ≤ (2 : Nat) ^ i := Nat.one_le_two_pow
  obtain ⟨z, hz⟩ : ∃ z : Nat, bs.getD i 0 = (z : Int) := ⟨(bs.getD i 0).toNat, by omega⟩
  have hzl : z < 2 ^ i := by omega
  have h0 := andNot_zero z d (by omega) (by omega) fun j hj => by
    by_cases hji : j < i
    · exact hall j hji
    · rw [Nat.testBit_lt_two_pow (Nat.lt_of_lt_of_le hzl (Nat.pow_le_pow_right (by omega) (by omega)))] at hj
      exact absurd hj (by simp)
  have := hc i hi
  unfold fits
  rw [ho, hz, h0]
  simp only [Bool.not_false, Bool.true_and, BEq.rfl, decide_eq_true_eq]
  omega

/-- How many of n tasks are open. -/
def openN (d : Nat) : Nat → Nat
  | 0 => 0
  | k + 1 => openN d k + if d.testBit k then 0 else 1
theorem openN_le (d : Nat) : ∀ n, openN d n ≤ n
  | 0 => Nat.le_refl _
  | n + 1 => by have := openN_le d n; unfold openN; split <;> omega
theorem testBit_put (d b i : Nat) : (d ||| 2 ^ b).testBit i = (d.testBit i || decide (b = i)) := by rw [Nat.testBit_or, Nat.testBit_two_pow]
theorem openN_far (d b : Nat) : ∀ n, n ≤ b → openN (d ||| 2 ^ b) n = openN d n
  | 0, _ => rfl
  | n + 1, h => by
    unfold openN
    rw [openN_far d b n (by omega), testBit_put, decide_eq_false (show ¬ b = n by omega), Bool.or_false]
theorem openN_put (d b : Nat) (hb : d.testBit b = false) : ∀ n, b < n → openN (d ||| 2 ^ b) n + 1 = openN d n
  | 0, h => by omega
  | n + 1, h => by
    unfold openN
    rw [testBit_put]
    by_cases e : b = n
    · subst e
      rw [openN_far d b b (Nat.le_refl _), hb]; simp
    · have := openN_put d b hb n (by omega)
      rw [decide_eq_false e, Bool.or_false]
      omega

/-- What stands behind some rounds: what is done, the station, its load, and where the tasks are. -/
structure St where
  d : Nat
  st : Int
  ld : Int
  out : List Int
def stNext (ts bs : List Int) (c : Int) (s : St) : St :=
  if s.d = 2 ^ ts.length - 1 then s
  else if pickTo ts bs c s.d s.ld ts.length < 0 then { s with st := s.st + 1, ld := 0 }
  else { d := s.d ||| 2 ^ (pickTo ts bs c s.d s.ld ts.length).toNat, st := s.st, ld := s.ld + ts.getD (pickTo ts bs c s.d s.ld ts.length).toNat 0, out := s.out.set (pickTo ts bs c s.d s.ld ts.length).toNat s.st }
def stTo (ts bs : List Int) (c : Int) : Nat → St
  | 0 => ⟨0, 0, 0, List.replicate ts.length 0⟩
  | k + 1 => stNext ts bs c (stTo ts bs c k)
def stLeft (n : Nat) (s : St) : Nat := 2 * openN s.d n + if s.ld = 0 then 0 else 1
def stations (ts bs : List Int) (c : Int) : List Int := (stTo ts bs c (2 * ts.length)).out
/-- What the rounds keep. -/
structure StOk (ts bs : List Int) (c : Int) (k : Nat) (s : St) : Prop where
  is : s = stTo ts bs c k
  d : s.d < 2 ^ ts.length
  st0 : 0 ≤ s.st
  st1 : s.st ≤ k
  ld0 : 0 ≤ s.ld
  ld1 : s.ld ≤ c
  len : s.out.length = ts.length
  left : k + stLeft ts.length s ≤ 2 * ts.length
theorem stTo_stop {ts bs : List Int} {c : Int} {k : Nat} (h : (stTo ts bs c k).d = 2 ^ ts.length - 1) : ∀ m, k ≤ m → stTo ts bs c m = stTo ts bs c k
  | 0, hm => by rw [show k = 0 by omega]
  | m + 1, hm => by
    by_cases e : k = m + 1
    · rw [e]
    · have ih := stTo_stop h m (by omega)
      show stNext ts bs c (stTo ts bs c m) = _
      rw [ih]
      unfold stNext
      rw [if_pos h]
theorem st_start (ts bs : List Int) (c : Int) (hc : 0 ≤ c) : StOk ts bs c 0 (stTo ts bs c 0) :=
  ⟨rfl, Nat.two_pow_pos _, Int.le_refl _, Int.le_refl _, Int.le_refl _, hc, List.length_replicate, by
    show 0 + (2 * openN 0 ts.length + 0) ≤ _
    have := openN_le 0 ts.length
    omega⟩
theorem st_end {ts bs : List Int} {c : Int} {k : Nat} {s : St} (h : StOk ts bs c k s) (hd : s.d = 2 ^ ts.length - 1) : s.out = stations ts bs c := by
  have h1 := h.is
  have h2 := h.left
  rw [h1] at hd
  unfold stations
  rw [stTo_stop hd (2 * ts.length) (by omega), ← h1]
theorem st_new {ts bs : List Int} {c : Int} {k : Nat} {s : St} (h : StOk ts bs c k s) (hn : ts.length ≤ 12) (hs : okSets bs ts.length = true) (hc : ∀ i, i < ts.length → ts.getD i 0 ≤ c)
    (hd : s.d ≠ 2 ^ ts.length - 1) (hp : pickTo ts bs c s.d s.ld ts.length < 0) : StOk ts bs c (k + 1) ⟨s.d, s.st + 1, 0, s.out⟩ ∧ s.ld ≠ 0 := by
  have hl : s.ld ≠ 0 := fun e => by
    rw [e] at hp
    have := pick_some hn h.d hd hs hc
    omega
  have h2 := h.left
  unfold stLeft at h2
  rw [if_neg hl] at h2
  have h3 := h.st0
  have h4 := h.st1
  have h5 := h.ld0
  have h6 := h.ld1
  refine ⟨⟨?_, h.d, by show 0 ≤ s.st + 1; omega, by show s.st + 1 ≤ _; omega, Int.le_refl _, by show (0 : Int) ≤ c; omega, h.len, ?_⟩, hl⟩
  · show _ = stNext ts bs c (stTo ts bs c k)
    rw [← h.is]
    unfold stNext
    rw [if_neg hd, if_pos hp]
  · show k + 1 + (2 * openN s.d ts.length + if (0 : Int) = 0 then 0 else 1) ≤ _
    rw [if_pos rfl]
    omega
theorem st_put {ts bs : List Int} {c : Int} {k : Nat} {s : St} (h : StOk ts bs c k s) (ht : ∀ i, i < ts.length → 1 ≤ ts.getD i 0)
    (hd : s.d ≠ 2 ^ ts.length - 1) {b : Nat} (hb : pickTo ts bs c s.d s.ld ts.length = (b : Int)) :
    StOk ts bs c (k + 1) ⟨s.d ||| 2 ^ b, s.st, s.ld + ts.getD b 0, s.out.set b s.st⟩ ∧ b < ts.length ∧ s.d.testBit b = false ∧ s.ld + ts.getD b 0 ≤ c := by
  have hin := pickTo_in ts bs c s.d s.ld ts.length
  have hf := pickTo_fits ts bs c s.d s.ld ts.length (by omega)
  rw [hb] at hf hin
  rw [show ((b : Nat) : Int).toNat = b by omega] at hf
  unfold fits at hf
  simp only [Bool.and_eq_true, decide_eq_true_eq, Bool.not_eq_true', Bool.not_eq_eq_eq_not, Bool.not_true] at hf
  obtain ⟨⟨f1, _⟩, f3⟩ := hf
  have hbl : b < ts.length := by omega
  have ho := openN_put s.d b f1 ts.length hbl
  have h2 := h.left
  unfold stLeft at h2
  have h3 := h.st0
  have h4 := h.st1
  have h5 := h.ld0
  have h7 := ht b hbl
  refine ⟨⟨?_, Nat.or_lt_two_pow h.d (Nat.pow_lt_pow_right (by omega) hbl), h3, by show s.st ≤ _; omega, by show 0 ≤ s.ld + _; omega, f3, by show (List.set _ _ _).length = _; rw [List.length_set]; exact h.len, ?_⟩, hbl, f1, f3⟩
  · show _ = stNext ts bs c (stTo ts bs c k)
    rw [← h.is]
    unfold stNext
    rw [if_neg hd, if_neg (by omega), hb, show ((b : Nat) : Int).toNat = b by omega]
  · show k + 1 + (2 * openN (s.d ||| 2 ^ b) ts.length + if s.ld + ts.getD b 0 = 0 then 0 else 1) ≤ _
    rw [if_neg (by omega)]
    split at h2 <;> omega
end Go.Proofs.Ytfidppepchobeaa
