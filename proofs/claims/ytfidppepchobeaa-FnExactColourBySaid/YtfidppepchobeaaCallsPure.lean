/- Pure facts: who is called on each day. -/
import Derived.Test.YtfidppepchobeaaAreJobs
import Derived.IntWalk
namespace Go.Proofs.Ytfidppepchobeaa
open Go.RowKit Go.Lst

theorem and1_nat (a : Nat) (ha : a < 4611686018427387904) : bits .and .i64 (a : Int) 1 = ((a % 2 : Nat) : Int) := by
  have h1 : (BitVec.ofInt 64 (a : Int)).toNat = a := by
    rw [BitVec.ofInt_natCast, BitVec.toNat_ofNat]; exact Nat.mod_eq_of_lt (by omega)
  have h2 : (BitVec.ofInt 64 (1 : Int)).toNat = 1 := by decide
  show IntKind.i64.wrap ((BitVec.ofInt 64 (a : Int) &&& BitVec.ofInt 64 (1 : Int)).toNat : Int) = _
  rw [BitVec.toNat_and, h1, h2, Nat.and_one_is_mod, IntKind.wrap_i64]
  omega
theorem or_nat (a b : Nat) (ha : a < 4096) (hb : b < 4096) : bits .or .i64 (a : Int) (b : Int) = ((a ||| b : Nat) : Int) := by
  have hx : a ||| b < 2 ^ 12 := Nat.or_lt_two_pow (by omega) (by omega)
  have h1 : (BitVec.ofInt 64 (a : Int)).toNat = a := by
    rw [BitVec.ofInt_natCast, BitVec.toNat_ofNat]; exact Nat.mod_eq_of_lt (by omega)
  have h2 : (BitVec.ofInt 64 (b : Int)).toNat = b := by
    rw [BitVec.ofInt_natCast, BitVec.toNat_ofNat]; exact Nat.mod_eq_of_lt (by omega)
  show IntKind.i64.wrap ((BitVec.ofInt 64 (a : Int) ||| BitVec.ofInt 64 (b : Int)).toNat : Int) = _
  rw [BitVec.toNat_or, h1, h2, IntKind.wrap_i64]
  omega
/-- The binary digit k of a set. -/
theorem digit_of (z k : Nat) (hz : z < 4611686018427387904) : bits .and .i64 ((z : Int) / 2 ^ k) 1 = if z.testBit k then 1 else 0 := by
  have e : (z : Int) / 2 ^ k = ((z / 2 ^ k : Nat) : Int) := by
    rw [Int.natCast_ediv, Int.natCast_pow]; rfl
  have hlt : z / 2 ^ k < 4611686018427387904 := Nat.lt_of_le_of_lt (Nat.div_le_self _ _) hz
  rw [e, and1_nat _ hlt, Nat.testBit_eq_decide_div_mod_eq]
  have : z / 2 ^ k % 2 = 0 ∨ z / 2 ^ k % 2 = 1 := by omega
  rcases this with h | h <;> rw [h] <;> rfl
/-- The first one of those that are not away with the fewest calls, of the first k; -1 for none. -/
def bestTo (cs : List Int) (away : Nat → Bool) : Nat → Int
  | 0 => -1
  | k + 1 => if away k then bestTo cs away k else if bestTo cs away k = -1 then (k : Int) else if cs.getD k 0 < cs.getD (bestTo cs away k).toNat 0 then (k : Int) else bestTo cs away k
theorem bestTo_in (cs : List Int) (away : Nat → Bool) : ∀ k : Nat, -1 ≤ bestTo cs away k ∧ bestTo cs away k < k
  | 0 => ⟨Int.le_refl _, by show (-1 : Int) < 0; omega⟩
  | k + 1 => by
    have := bestTo_in cs away k
    unfold bestTo
    split
    · omega
    · split
      · omega
      · split <;> omega
theorem best_away {cs : List Int} {away : Nat → Bool} {k : Nat} (h : away k = true) : bestTo cs away (k + 1) = bestTo cs away k := by
  show (if away k then _ else _) = _
  rw [h]; rfl
theorem best_first {cs : List Int} {away : Nat → Bool} {k : Nat} (h : away k = false) (h2 : bestTo cs away k = -1) : bestTo cs away (k + 1) = (k : Int) := by
  show (if away k then _ else _) = _
  rw [h, if_neg (by simp), if_pos h2]
theorem best_less {cs : List Int} {away : Nat → Bool} {k q : Nat} (h : away k = false) (h2 : bestTo cs away k = (q : Int)) (h3 : cs.getD k 0 < cs.getD q 0) : bestTo cs away (k + 1) = (k : Int) := by
  show (if away k then _ else _) = _
  rw [h, if_neg (by simp), h2, if_neg (by omega), Int.toNat_natCast, if_pos h3]
theorem best_not {cs : List Int} {away : Nat → Bool} {k q : Nat} (h : away k = false) (h2 : bestTo cs away k = (q : Int)) (h3 : ¬ cs.getD k 0 < cs.getD q 0) : bestTo cs away (k + 1) = bestTo cs away k := by
  show (if away k then _ else _) = _
  rw [h, if_neg (by simp), h2, if_neg (by omega), Int.toNat_natCast, if_neg h3]
theorem bestTo_congr {cs : List Int} {a b : Nat → Bool} : ∀ k : Nat, (∀ i, i < k → a i = b i) → bestTo cs a k = bestTo cs b k
  | 0, _ => rfl
  | k + 1, h => by
    unfold bestTo
    rw [bestTo_congr k fun i hi => h i (by omega), h k (by omega)]
/-- Those that are away, and who was called the day before. -/
def outOf (z : Nat) (last : Int) (i : Nat) : Bool := z.testBit i || decide ((i : Int) = last)
/-- Where nobody is left, and who was called the day before is left alone. -/
theorem none_left {cs : List Int} {z : Nat} {last : Int} : ∀ k : Nat, bestTo cs (outOf z last) k = -1 → bestTo cs (fun i => z.testBit i) k = if 0 ≤ last ∧ last < k ∧ z.testBit last.toNat = false then last else -1
  | 0, _ => by rw [if_neg (by omega)]; rfl
  | k + 1, h => by
    have hin := bestTo_in cs (outOf z last) k
    have ha : outOf z last k = true ∧ bestTo cs (outOf z last) k = -1 := by
      cases ho : outOf z last k
      · exfalso
        unfold bestTo at h
        rw [ho, if_neg (by simp)] at h
        split at h
        · omega
        · split at h <;> omega
      · rw [best_away ho] at h
        exact ⟨rfl, h⟩
    have ih := none_left k ha.2
    have ho := ha.1
    unfold outOf at ho
    cases hz : z.testBit k
    · rw [hz, Bool.false_or, decide_eq_true_eq] at ho
      rw [if_neg (by omega)] at ih
      rw [best_first (away := fun i => z.testBit i) hz ih, if_pos ⟨by omega, by omega, by rw [← ho, Int.toNat_natCast]; exact hz⟩, ho]
    · rw [best_away (away := fun i => z.testBit i) hz, ih]
      by_cases hk : (k : Int) = last
      · rw [if_neg (by omega), if_neg]
        rintro ⟨_, _, h3⟩
        rw [← hk, Int.toNat_natCast, hz] at h3
        cases h3
      · by_cases hc : 0 ≤ last ∧ last < (k : Int) ∧ z.testBit last.toNat = false
        · rw [if_pos hc, if_pos ⟨hc.1, by omega, hc.2.2⟩]
        · rw [if_neg hc, if_neg]
          rintro ⟨h1, h2, h3⟩
          exact hc ⟨h1, by omega, h3⟩
/-- Who is called. -/
def pick (cs : List Int) (z : Nat) (last : Int) (p : Nat) : Int := if bestTo cs (outOf z last) p = -1 then bestTo cs (fun i => z.testBit i) p else bestTo cs (outOf z last) p
def lastOf (out : List Int) : Int := out.getD (out.length - 1) (-1)
theorem lastOf_snoc (out : List Int) (x : Int) : lastOf (out ++ [x]) = x := by unfold lastOf; simp
/-- The calls of each one, and those of the first days; none where all are away on a day. -/
def callsAt (p : Nat) (zs : List Int) : Nat → Option (List Int × List Int)
  | 0 => some (List.replicate p 0, [])
  | d + 1 => (callsAt p zs d).bind fun s => if pick s.1 (zs.getD d 0).toNat (lastOf s.2) p = -1 then none
    else some (s.1.set (pick s.1 (zs.getD d 0).toNat (lastOf s.2) p).toNat (s.1.getD (pick s.1 (zs.getD d 0).toNat (lastOf s.2) p).toNat 0 + 1), s.2 ++ [pick s.1 (zs.getD d 0).toNat (lastOf s.2) p])
theorem pick_in (cs : List Int) (z : Nat) (last : Int) (p : Nat) : -1 ≤ pick cs z last p ∧ pick cs z last p < p := by
  unfold pick
  split <;> exact bestTo_in _ _ _
theorem callsAt_no {p : Nat} {zs : List Int} {d : Nat} {cs out : List Int} (h : callsAt p zs d = some (cs, out)) (h2 : pick cs (zs.getD d 0).toNat (lastOf out) p = -1) : callsAt p zs (d + 1) = none := by
  unfold callsAt; rw [h]; exact if_pos h2
theorem callsAt_yes {p : Nat} {zs : List Int} {d q : Nat} {cs out : List Int} (h : callsAt p zs d = some (cs, out)) (h2 : pick cs (zs.getD d 0).toNat (lastOf out) p = (q : Int)) : callsAt p zs (d + 1) = some (cs.set q (cs.getD q 0 + 1), out ++ [(q : Int)]) := by
  unfold callsAt; rw [h]
  show (if pick cs (zs.getD d 0).toNat (lastOf out) p = -1 then none else some (cs.set (pick cs (zs.getD d 0).toNat (lastOf out) p).toNat (cs.getD (pick cs (zs.getD d 0).toNat (lastOf out) p).toNat 0 + 1), out ++ [pick cs (zs.getD d 0).toNat (lastOf out) p])) = _
  rw [h2, if_neg (by omega), Int.toNat_natCast]
theorem callsAt_none {p : Nat} {zs : List Int} {d : Nat} (h : callsAt p zs d = none) : ∀ n, d ≤ n → callsAt p zs n = none := fun n hn => by
  induction n with
  | zero => rw [show d = 0 by omega] at h; exact h
  | succ n ih =>
    by_cases e : d = n + 1
    · rw [← e]; exact h
    · unfold callsAt; rw [ih (by omega)]; rfl
theorem callsAt_in {p : Nat} {zs : List Int} : ∀ {d : Nat} {cs out : List Int}, callsAt p zs d = some (cs, out) → cs.length = p ∧ out.length = d ∧ (∀ i, 0 ≤ cs.getD i 0 ∧ cs.getD i 0 ≤ d) ∧ ((d = 0 ∧ lastOf out = -1) ∨ (0 < d ∧ 0 ≤ lastOf out ∧ lastOf out < p))
  | 0, cs, out, h => by
    unfold callsAt at h
    injection h with h
    injection h with h1 h2
    subst h1 h2
    refine ⟨by simp, rfl, fun i => ?_, .inl ⟨rfl, rfl⟩⟩
    rw [List.getD_eq_getElem?_getD, List.getElem?_replicate]
    split <;> simp
  | d + 1, cs, out, h => by
    cases hp : callsAt p zs d with
    | none => rw [callsAt_none hp (d + 1) (by omega)] at h; cases h
    | some s =>
      obtain ⟨cs0, out0⟩ := s
      have ih := callsAt_in hp
      have hpi := pick_in cs0 (zs.getD d 0).toNat (lastOf out0) p
      by_cases hk : pick cs0 (zs.getD d 0).toNat (lastOf out0) p = -1
      · rw [callsAt_no hp hk] at h; cases h
      · obtain ⟨q, hq⟩ := Int.eq_ofNat_of_zero_le (show 0 ≤ pick cs0 (zs.getD d 0).toNat (lastOf out0) p by omega)
        rw [callsAt_yes hp hq] at h
        injection h with h
        injection h with h1 h2
        subst h1 h2
        refine ⟨by rw [List.length_set]; exact ih.1, by rw [List.length_append, ih.2.1]; rfl, fun i => ?_, .inr ⟨by omega, by rw [lastOf_snoc]; omega, by rw [lastOf_snoc]; omega⟩⟩
        rw [List.getD_eq_getElem?_getD, List.getElem?_set]
        have h3 := ih.2.2.1 i
        have h4 := ih.2.2.1 q
        rw [List.getD_eq_getElem?_getD] at h3
        split
        · split
          · show 0 ≤ cs0.getD q 0 + 1 ∧ cs0.getD q 0 + 1 ≤ _; omega
          · simp; omega
        · omega
def canCall (p days : Int) (zs : List Int) : Bool := inB p 1 12 && inB days 1 128 && decide ((zs.length : Int) = days) && allIn zs 0 ((2 : Int) ^ p.toNat - 1)
def callsOk (p days : Int) (zs : List Int) : Bool := canCall p days zs && (callsAt p.toNat zs zs.length).isSome
def callsRes (p days : Int) (zs : List Int) : List Int := if canCall p days zs then ((callsAt p.toNat zs zs.length).getD ([], [])).2 else []
theorem canCall_of {p days : Int} {zs : List Int} (h : canCall p days zs = true) : 1 ≤ p ∧ p ≤ 12 ∧ 1 ≤ days ∧ days ≤ 128 ∧ (zs.length : Int) = days ∧ ∀ (i : Nat) (x : Int), zs[i]? = some x → 0 ≤ x ∧ x ≤ (2 : Int) ^ p.toNat - 1 := by
  simp only [canCall, Bool.and_eq_true, decide_eq_true_eq] at h
  exact ⟨(inB_true h.1.1.1).1, (inB_true h.1.1.1).2, (inB_true h.1.1.2).1, (inB_true h.1.1.2).2, h.1.2, fun i x hx => allIn_of h.2 hx⟩
theorem pow_few {p : Nat} (h : p ≤ 12) : (2 : Int) ^ p ≤ 4096 ∧ 1 ≤ (2 : Int) ^ p ∧ 2 ^ p ≤ 4096 := by
  have : p = 0 ∨ p = 1 ∨ p = 2 ∨ p = 3 ∨ p = 4 ∨ p = 5 ∨ p = 6 ∨ p = 7 ∨ p = 8 ∨ p = 9 ∨ p = 10 ∨ p = 11 ∨ p = 12 := by omega
  rcases this with rfl | rfl | rfl | rfl | rfl | rfl | rfl | rfl | rfl | rfl | rfl | rfl | rfl <;> decide
theorem pow_less {p : Nat} (h : p ≤ 11) : 2 ^ p < 4096 := by
  have : p = 0 ∨ p = 1 ∨ p = 2 ∨ p = 3 ∨ p = 4 ∨ p = 5 ∨ p = 6 ∨ p = 7 ∨ p = 8 ∨ p = 9 ∨ p = 10 ∨ p = 11 := by omega
  rcases this with rfl | rfl | rfl | rfl | rfl | rfl | rfl | rfl | rfl | rfl | rfl | rfl <;> decide
theorem last_is {out : List Int} {d : Nat} {x : Int} (hl : out.length = d) (h : out[d - 1]? = some x) : lastOf out = x := by
  unfold lastOf
  rw [hl, List.getD_eq_getElem?_getD, h]; rfl
theorem pick_last {cs : List Int} {z p : Nat} {last : Int} (h : bestTo cs (outOf z last) p = -1) (h2 : 0 ≤ last ∧ last < p ∧ z.testBit last.toNat = false) : pick cs z last p = last := by
  unfold pick; rw [if_pos h, none_left p h, if_pos h2]
theorem pick_none {cs : List Int} {z p : Nat} {last : Int} (h : bestTo cs (outOf z last) p = -1) (h2 : ¬ (0 ≤ last ∧ last < p ∧ z.testBit last.toNat = false)) : pick cs z last p = -1 := by
  unfold pick; rw [if_pos h, none_left p h, if_neg h2]
theorem pick_best {cs : List Int} {z p q : Nat} {last : Int} (h : bestTo cs (outOf z last) p = (q : Int)) : pick cs z last p = (q : Int) := by
  unfold pick; rw [h, if_neg (by omega)]
theorem out_of {z : Nat} {last : Int} {i : Nat} (h : z.testBit i = false) (h2 : ¬ (i : Int) = last) : outOf z last i = false := by unfold outOf; rw [h, decide_eq_false h2]; rfl
theorem out_bit {z : Nat} {last : Int} {i : Nat} (h : z.testBit i = true) : outOf z last i = true := by unfold outOf; rw [h]; rfl
theorem out_last {z : Nat} {last : Int} {i : Nat} (h2 : (i : Int) = last) : outOf z last i = true := by unfold outOf; rw [decide_eq_true h2, Bool.or_true]
def alone (z : Nat) (last : Int) (i : Nat) : Bool := decide (0 ≤ last ∧ last < (i : Int) ∧ z.testBit last.toNat = false)
theorem alone_same {z : Nat} {last : Int} {i : Nat} (h : ¬ (i : Int) = last ∨ z.testBit i = true) : alone z last (i + 1) = alone z last i := by
  unfold alone
  rw [Bool.eq_iff_iff, decide_eq_true_eq, decide_eq_true_eq]
  constructor
  · rintro ⟨h1, h2, h3⟩
    refine ⟨h1, ?_, h3⟩
    rcases h with h | h
    · omega
    · by_cases e : (i : Int) = last
      · rw [← e, Int.toNat_natCast, h] at h3; cases h3
      · omega
  · rintro ⟨h1, h2, h3⟩
    exact ⟨h1, by omega, h3⟩
theorem alone_yes {z : Nat} {last : Int} {i : Nat} (h : (i : Int) = last) (h2 : z.testBit i = false) : alone z last (i + 1) = true := by
  unfold alone
  exact decide_eq_true ⟨by omega, by omega, by rw [← h, Int.toNat_natCast]; exact h2⟩
theorem no_calls {p days : Int} {zs : List Int} (h : canCall p days zs = false) : callsRes p days zs = [] ∧ callsOk p days zs = false := by
  unfold callsRes callsOk; rw [h]; exact ⟨rfl, rfl⟩
theorem none_calls {p : Nat} {days : Int} {zs : List Int} {d : Nat} (h : callsAt p zs d = none) (hd : d ≤ zs.length) : callsRes p days zs = [] ∧ callsOk p days zs = false := by
  have := callsAt_none h zs.length hd
  unfold callsRes callsOk
  rw [show (p : Int).toNat = p by omega, this]
  constructor
  · split <;> rfl
  · simp
theorem some_calls {p : Nat} {days : Int} {zs : List Int} {cs out : List Int} (hc : canCall p days zs = true) (h : callsAt p zs zs.length = some (cs, out)) : callsRes p days zs = out ∧ callsOk p days zs = true := by
  unfold callsRes callsOk
  rw [hc, show (p : Int).toNat = p by omega, h]
  exact ⟨rfl, rfl⟩
theorem callsRes_length (p days : Int) (zs : List Int) : (callsRes p days zs).length ≤ 1048576 := by
  unfold callsRes
  split
  · rename_i hc
    obtain ⟨_, _, h1, h2, h3, _⟩ := canCall_of hc
    cases h : callsAt p.toNat zs zs.length with
    | none => simp
    | some s =>
      obtain ⟨cs, out⟩ := s
      have := (callsAt_in h).2.1
      show out.length ≤ _
      omega
  · simp
theorem two_bit (q i : Nat) : (2 ^ q).testBit i = decide ((i : Int) = (q : Int)) := by
  rw [Nat.testBit_two_pow]
  by_cases h : q = i
  · subst h; simp
  · rw [decide_eq_false h, decide_eq_false]
    omega
end Go.Proofs.Ytfidppepchobeaa
