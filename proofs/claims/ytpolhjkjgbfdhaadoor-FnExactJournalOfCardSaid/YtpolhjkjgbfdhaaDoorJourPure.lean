/- The journal of lines: its texts and check numbers line by line; the pure side. -/
import Derived.Test.YtpolhjkjgbfdhaaDoorChk
import Derived.Test.YtpolhjkjgbfdhaaDoorDecPure
import Derived.Lib.IndexAny
namespace Go.Proofs.YtpolhjkjgbfdhaaDoor
open Go.Lib Go

/-- A line has a mark of an end. -/
def nlIn (x : ByteArray) : Bool := x.data.toList.contains 10
theorem nlIn_index (x : ByteArray) : decide (0 ≤ Lib.indexByte x.data.toList 10) = nlIn x := (Lib.contains_iff_indexByte _ _).symm
theorem nlIn_at {x : ByteArray} {k : Nat} (h : k < x.size) (he : x[k] = 10) : nlIn x = true := by
  unfold nlIn
  rw [List.contains_iff_mem]
  rw [← he]
  exact List.getElem_mem (show k < x.data.toList.length by rw [Array.length_toList]; exact h)
theorem nlIn_no {x : ByteArray} (h : ∀ k (hk : k < x.size), x[k] ≠ 10) : nlIn x = false := by
  cases hq : nlIn x
  · rfl
  · unfold nlIn at hq
    rw [List.contains_iff_mem] at hq
    obtain ⟨k, hk, he⟩ := List.getElem_of_mem hq
    rw [Array.length_toList] at hk
    exact absurd he (h k hk)
/-- What stands in a journal for a line with the check number c. -/
def entB (c : Int) (x : ByteArray) : ByteArray := decS c ++ ⟨#[32]⟩ ++ x ++ ⟨#[10]⟩
def stepJ (p : Int × ByteArray) (x : ByteArray) : Int × ByteArray := (chk p.1 x.data.toList, p.2 ++ entB (chk p.1 x.data.toList) x)
/-- The check number and the journal of the first k lines. -/
def stJ (xs : List ByteArray) (k : Nat) : Int × ByteArray := (xs.take k).foldl stepJ (0, ⟨#[]⟩)
def totJ (xs : List ByteArray) (k : Nat) : Nat := (xs.take k).foldl (fun n x => n + (x.size + 3)) 0
theorem stJ_succ {xs : List ByteArray} {k : Nat} {x : ByteArray} (h : xs[k]? = some x) : stJ xs (k + 1) = stepJ (stJ xs k) x := by
  unfold stJ; rw [List.take_add_one, h, List.foldl_append]; rfl
theorem totJ_succ {xs : List ByteArray} {k : Nat} {x : ByteArray} (h : xs[k]? = some x) : totJ xs (k + 1) = totJ xs k + (x.size + 3) := by
  unfold totJ; rw [List.take_add_one, h, List.foldl_append]; rfl
theorem stJ_over {xs : List ByteArray} {k : Nat} (h : xs.length ≤ k) : stJ xs (k + 1) = stJ xs k ∧ totJ xs (k + 1) = totJ xs k := by
  unfold stJ totJ; rw [List.take_of_length_le (by omega), List.take_of_length_le (by omega)]; exact ⟨rfl, rfl⟩
theorem stJ_chk (xs : List ByteArray) : ∀ k, 0 ≤ (stJ xs k).1 ∧ (stJ xs k).1 ≤ 65002
  | 0 => by unfold stJ; simp
  | k + 1 => by
    have ih := stJ_chk xs k
    cases hx : xs[k]? with
    | none => rw [(stJ_over (List.getElem?_eq_none_iff.1 hx)).1]; exact ih
    | some x => rw [stJ_succ hx]; exact chk_bound _ _ ih.1 ih.2
theorem entB_size {c : Int} (h0 : 0 ≤ c) (h1 : c ≤ 65002) (x : ByteArray) : x.size + 3 ≤ (entB c x).size ∧ (entB c x).size ≤ x.size + 22 := by
  have := decS_size c (by omega) (by omega)
  unfold entB
  rw [ByteArray.size_append, ByteArray.size_append, ByteArray.size_append]
  have e1 : (⟨#[32]⟩ : ByteArray).size = 1 := rfl
  have e2 : (⟨#[10]⟩ : ByteArray).size = 1 := rfl
  omega
theorem stJ_tot (xs : List ByteArray) : ∀ k, totJ xs k ≤ (stJ xs k).2.size ∧ (stJ xs k).2.size ≤ 8 * totJ xs k
  | 0 => by unfold stJ totJ; simp; rfl
  | k + 1 => by
    have ih := stJ_tot xs k
    cases hx : xs[k]? with
    | none =>
      have := stJ_over (List.getElem?_eq_none_iff.1 hx)
      rw [this.1, this.2]; exact ih
    | some x =>
      have hc := stJ_chk xs k
      have hc' := chk_bound x.data.toList _ hc.1 hc.2
      have he := entB_size hc'.1 hc'.2 x
      rw [stJ_succ hx, totJ_succ hx]
      unfold stepJ
      simp only [ByteArray.size_append]
      omega
theorem stJ_step (xs : List ByteArray) (k : Nat) : (stJ xs k).2.size ≤ (stJ xs (k + 1)).2.size := by
  cases hx : xs[k]? with
  | none => rw [(stJ_over (List.getElem?_eq_none_iff.1 hx)).1]; exact Nat.le_refl _
  | some x =>
    rw [stJ_succ hx]
    unfold stepJ
    simp only [ByteArray.size_append]
    omega
theorem stJ_mono (xs : List ByteArray) (k : Nat) : ∀ d, (stJ xs k).2.size ≤ (stJ xs (k + d)).2.size
  | 0 => Nat.le_refl _
  | d + 1 => Nat.le_trans (stJ_mono xs k d) (stJ_step xs (k + d))
def okJ (xs : List ByteArray) : Bool := xs.all (fun x => !nlIn x) && decide ((stJ xs xs.length).2.size ≤ 16000)
def jR (xs : List ByteArray) : ByteArray := if okJ xs then (stJ xs xs.length).2 else ⟨#[]⟩
theorem jR_no {xs : List ByteArray} (h : okJ xs = false) : okJ xs = false ∧ jR xs = ⟨#[]⟩ := ⟨h, by unfold jR; rw [h]; rfl⟩
theorem j_nl {xs : List ByteArray} {k : Nat} {x : ByteArray} (h : xs[k]? = some x) (hn : nlIn x = true) : okJ xs = false ∧ jR xs = ⟨#[]⟩ := by
  apply jR_no
  unfold okJ
  rw [show xs.all (fun x => !nlIn x) = false by rw [List.all_eq_false]; exact ⟨x, List.mem_of_getElem? h, by simp [hn]⟩]
  rfl
theorem j_big {xs : List ByteArray} {k : Nat} (hk : k ≤ xs.length) (h : 16000 < (stJ xs k).2.size) : okJ xs = false ∧ jR xs = ⟨#[]⟩ := by
  apply jR_no
  have := stJ_mono xs k (xs.length - k)
  rw [show k + (xs.length - k) = xs.length by omega] at this
  unfold okJ
  rw [decide_eq_false (by omega), Bool.and_false]
theorem j_tot {xs : List ByteArray} {k : Nat} (hk : k ≤ xs.length) (h : 16000 < totJ xs k) : okJ xs = false ∧ jR xs = ⟨#[]⟩ := j_big hk (Nat.lt_of_lt_of_le h (stJ_tot xs k).1)
theorem j_yes {xs : List ByteArray} (ha : ∀ (i : Nat) (x : ByteArray), xs[i]? = some x → nlIn x = false) (h : (stJ xs xs.length).2.size ≤ 16000) : okJ xs = true ∧ jR xs = (stJ xs xs.length).2 := by
  have : okJ xs = true := by
    unfold okJ
    rw [decide_eq_true h, List.all_eq_true.2 fun x hx => by
      obtain ⟨i, hi⟩ := List.getElem?_of_mem hx
      rw [ha i x hi]; rfl]
    rfl
  exact ⟨this, by unfold jR; rw [this]; rfl⟩
end Go.Proofs.YtpolhjkjgbfdhaaDoor
