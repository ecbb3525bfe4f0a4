/- A text cut at each mark: as a loop over its bytes makes it, and as the library's Split tells it; the pure side. -/
import Derived.Lib.Split
import Derived.Lib.SplitLaws
import Derived.Lib.IndexBytes
import Derived.Lib.IndexMore
namespace Go.Proofs.YtjpmliigepegaaaDoor
open Go.Lib Go

/-- The parts of bytes between marks. -/
def cutL (c : UInt8) : List UInt8 → List (List UInt8)
  | [] => [[]]
  | b :: r => if b = c then [] :: cutL c r else (b :: (cutL c r).headD []) :: (cutL c r).tail
theorem cutL_ne (c : UInt8) (l : List UInt8) : cutL c l ≠ [] := by
  cases l with
  | nil => simp [cutL]
  | cons b r => unfold cutL; split <;> simp
theorem cutL_head (c : UInt8) (l : List UInt8) : (cutL c l).headD [] :: (cutL c l).tail = cutL c l := by
  have := cutL_ne c l
  match h : cutL c l with
  | [] => exact absurd h this
  | x :: t => rfl
theorem splitK_cut (c : UInt8) : ∀ s : List UInt8, splitK [c] 0 (s.count c) s = cutL c s
  | [] => rfl
  | b :: r => by
    have ih := splitK_cut c r
    by_cases hb : b = c
    · subst hb
      rw [List.count_cons_self]
      show splitK [b] 0 (r.count b + 1) (b :: r) = _
      unfold splitK cutL
      rw [if_pos rfl, index_one]
      have e : indexByte (b :: r) b = 0 := by unfold indexByte; rw [if_pos (by simp)]
      rw [e]
      simp only [Int.toNat_zero, Nat.add_zero, List.take_zero, List.length_singleton, Nat.zero_add, List.drop_succ_cons, List.drop_zero]
      rw [if_neg (by decide), ih]
    · rw [List.count_cons_of_ne (by simpa using hb)]
      conv => rhs; unfold cutL
      rw [if_neg hb, ← ih]
      match hk : r.count c with
      | 0 => rfl
      | m + 1 =>
        have e : indexByte (b :: r) c = if indexByte r c == -1 then -1 else indexByte r c + 1 := by
          conv => lhs; unfold indexByte
          rw [if_neg (by simpa using hb)]
        unfold splitK
        rw [index_one, index_one, e]
        by_cases hm : indexByte r c = -1
        · rw [hm]; rfl
        · have hge := indexByte_ge r c
          have h1 : (indexByte r c == -1) = false := by simpa using hm
          rw [h1]
          simp only [Bool.false_eq_true, if_false]
          have h2 : (indexByte r c + 1 == -1) = false := by simp; omega
          rw [h2]
          simp only [Bool.false_eq_true, if_false, List.length_singleton, Nat.add_zero]
          obtain ⟨i, hi⟩ := Int.eq_ofNat_of_zero_le (show 0 ≤ indexByte r c by omega)
          rw [hi]
          have e2 : ((i : Int) + 1).toNat = i + 1 := by omega
          have e3 : ((i : Nat) : Int).toNat = i := by omega
          rw [e2, e3]
          rfl
/-- The parts of a text between marks. -/
def cutS (c : UInt8) (s : ByteArray) : List ByteArray := (cutL c s.data.toList).map fun l => ⟨l.toArray⟩
theorem split_cut (c : UInt8) (s : ByteArray) : splitB ⟨#[c]⟩ 0 (countB s ⟨#[c]⟩) s = cutS c s := by
  have h := splitB_data ⟨#[c]⟩ 0 (countB s ⟨#[c]⟩) s
  have hc : countB s ⟨#[c]⟩ = s.data.toList.count c := count_one c s.data.toList
  rw [hc] at h ⊢
  have h2 : (splitB ⟨#[c]⟩ 0 (s.data.toList.count c) s).map (·.data.toList) = cutL c s.data.toList := h.trans (splitK_cut c _)
  unfold cutS
  rw [← h2, List.map_map]
  have e : ((fun l : List UInt8 => (⟨l.toArray⟩ : ByteArray)) ∘ fun x : ByteArray => x.data.toList) = id := by funext x; simp
  rw [e, List.map_id]
theorem cutS_len (c : UInt8) (s : ByteArray) : (cutS c s).length = countB s ⟨#[c]⟩ + 1 := by
  rw [← split_cut]
  exact splitB_all ⟨#[c]⟩ (Nat.le_refl 1) 0 _ s rfl
theorem cutS_le (c : UInt8) (s : ByteArray) : (cutS c s).length ≤ s.size + 1 := by
  rw [cutS_len]
  have := countB_le ⟨#[c]⟩ (Nat.le_refl 1) s.size s (Nat.le_refl _)
  omega
/-- A beginning is put ahead of the first part. -/
def glue (p : List UInt8) (xs : List (List UInt8)) : List (List UInt8) := (p ++ xs.headD []) :: xs.tail
/-- The loop's bytes from 'fr' on are not cut off yet, those from i on not looked at. -/
def CutInv (c : UInt8) (l : List UInt8) (parts : List (List UInt8)) (fr i : Nat) : Prop := fr ≤ i ∧ cutL c l = parts ++ glue ((l.drop fr).take (i - fr)) (cutL c (l.drop i))
theorem CutInv.start (c : UInt8) (l : List UInt8) : CutInv c l [] 0 0 := ⟨Nat.le_refl _, by
  unfold glue
  simp only [List.drop_zero, Nat.sub_self, List.take_zero, List.nil_append]
  exact (cutL_head c l).symm⟩
theorem CutInv.mark {c : UInt8} {l : List UInt8} {parts : List (List UInt8)} {fr i : Nat} (h : CutInv c l parts fr i) (hi : l[i]? = some c) : CutInv c l (parts ++ [(l.drop fr).take (i - fr)]) (i + 1) (i + 1) := by
  refine ⟨Nat.le_refl _, ?_⟩
  have hl : i < l.length := (List.getElem?_eq_some_iff.1 hi).1
  have hd : l.drop i = c :: l.drop (i + 1) := by
    rw [List.drop_eq_getElem_cons hl]
    rw [List.getElem?_eq_getElem hl] at hi
    rw [Option.some.inj hi]
  rw [h.2, hd]
  unfold glue
  conv => lhs; unfold cutL
  rw [if_pos rfl]
  simp only [List.headD_cons, List.tail_cons, List.append_nil, Nat.sub_self, List.take_zero, List.nil_append, List.append_assoc, List.singleton_append]
  rw [cutL_head]
theorem CutInv.pass {c b : UInt8} {l : List UInt8} {parts : List (List UInt8)} {fr i : Nat} (h : CutInv c l parts fr i) (hi : l[i]? = some b) (hb : b ≠ c) : CutInv c l parts fr (i + 1) := by
  refine ⟨by have := h.1; omega, ?_⟩
  have hl : i < l.length := (List.getElem?_eq_some_iff.1 hi).1
  have hd : l.drop i = b :: l.drop (i + 1) := by
    rw [List.drop_eq_getElem_cons hl]
    rw [List.getElem?_eq_getElem hl] at hi
    rw [Option.some.inj hi]
  rw [h.2, hd]
  unfold glue
  conv => lhs; unfold cutL
  rw [if_neg hb]
  simp only [List.headD_cons, List.tail_cons]
  have hp : (l.drop fr).take (i + 1 - fr) = (l.drop fr).take (i - fr) ++ [b] := by
    rw [show i + 1 - fr = (i - fr) + 1 by have := h.1; omega, List.take_add_one, List.getElem?_drop, show fr + (i - fr) = i by have := h.1; omega, hi]; rfl
  rw [hp]
  simp [List.append_assoc]
theorem CutInv.fin {c : UInt8} {l : List UInt8} {parts : List (List UInt8)} {fr : Nat} (h : CutInv c l parts fr l.length) : parts ++ [(l.drop fr).take (l.length - fr)] = cutL c l := by
  rw [h.2, List.drop_length]
  simp [glue, cutL]
end Go.Proofs.YtjpmliigepegaaaDoor
