/- Texts joined by a mark: as a loop makes them, and as the library's Join tells them; the text of a list of numbers. -/
import Derived.Test.YtfidppepchobeaaDoorDecPure
import Derived.Lib.Join
namespace Go.Proofs.YtfidppepchobeaaDoor
open Go.Lib Go

/-- Texts with a mark between each two. -/
def joinS (sep : ByteArray) : List ByteArray → ByteArray
  | [] => ⟨#[]⟩
  | x :: r => r.foldl (fun a y => a ++ (sep ++ y)) x
theorem joinS_one (sep x : ByteArray) : joinS sep [x] = x := rfl
theorem joinS_snoc (sep : ByteArray) (xs : List ByteArray) (y : ByteArray) (h : xs ≠ []) : joinS sep (xs ++ [y]) = joinS sep xs ++ (sep ++ y) := by
  match xs, h with
  | x :: r, _ =>
    show (r ++ [y]).foldl _ x = r.foldl _ x ++ _
    rw [List.foldl_append]; rfl
theorem joinS_take (sep : ByteArray) (xs : List ByteArray) (k : Nat) (y : ByteArray) (hk : 0 < k) (h : xs[k]? = some y) : joinS sep (xs.take (k + 1)) = joinS sep (xs.take k) ++ (sep ++ y) := by
  have hl : k < xs.length := (List.getElem?_eq_some_iff.1 h).1
  rw [List.take_add_one, h]
  exact joinS_snoc sep _ y (fun e => by have := congrArg List.length e; rw [List.length_take, List.length_nil] at this; omega)
theorem data_app (a b : ByteArray) : (a ++ b).data.toList = a.data.toList ++ b.data.toList := by rw [ByteArray.data_append]; simp
theorem foldl_tail (sep : ByteArray) : ∀ (r : List ByteArray) (x : ByteArray), (r.foldl (fun a y => a ++ (sep ++ y)) x).data.toList = x.data.toList ++ joinTail sep.data.toList (r.map (·.data.toList))
  | [], x => by simp [joinTail]
  | y :: r, x => by
    rw [List.foldl_cons, foldl_tail sep r, data_app, data_app]
    simp [joinTail, List.append_assoc]
theorem joinS_lib (sep : ByteArray) (xs : List ByteArray) : (⟨(join (xs.map (·.data.toList)) sep.data.toList).toArray⟩ : ByteArray) = joinS sep xs := by
  match xs with
  | [] => rfl
  | x :: r =>
    have e := foldl_tail sep r x
    show (⟨(join (x.data.toList :: r.map (·.data.toList)) sep.data.toList).toArray⟩ : ByteArray) = r.foldl (fun a y => a ++ (sep ++ y)) x
    rw [join_cons, ← e]
theorem foldl_size (sep : ByteArray) (m : Nat) : ∀ (r : List ByteArray) (x : ByteArray), (∀ y ∈ r, y.size ≤ m) → (r.foldl (fun a y => a ++ (sep ++ y)) x).size ≤ x.size + r.length * (sep.size + m)
  | [], x, _ => by simp
  | y :: r, x, h => by
    rw [List.foldl_cons]
    have h1 := foldl_size sep m r (x ++ (sep ++ y)) (fun z hz => h z (List.mem_cons_of_mem _ hz))
    have h2 := h y (by simp)
    rw [ByteArray.size_append, ByteArray.size_append] at h1
    rw [List.length_cons, Nat.succ_mul]
    omega
theorem joinS_size (sep : ByteArray) (m : Nat) (xs : List ByteArray) (h : ∀ y ∈ xs, y.size ≤ m) : (joinS sep xs).size ≤ xs.length * (sep.size + m) := by
  match xs, h with
  | [], _ => show 0 ≤ _; exact Nat.zero_le _
  | x :: r, h =>
    have h1 := foldl_size sep m r x (fun z hz => h z (List.mem_cons_of_mem _ hz))
    have h2 := h x (by simp)
    show (r.foldl _ x).size ≤ _
    rw [List.length_cons, Nat.succ_mul]
    omega
def comma : ByteArray := ⟨#[44]⟩
/-- The text of a list of numbers. -/
def listB (xs : List Int) : ByteArray := if xs = [] then ⟨#[110, 111, 110, 101]⟩ else joinS comma (xs.map decS)
/-- Numbers that an int64 holds. -/
def Wide (xs : List Int) : Prop := ∀ x ∈ xs, -9223372036854775808 ≤ x ∧ x ≤ 9223372036854775807
theorem decs_size {xs : List Int} (h : Wide xs) : ∀ y ∈ xs.map decS, y.size ≤ 20 := fun y hy => by
  obtain ⟨x, hx, rfl⟩ := List.mem_map.1 hy
  exact (decS_size x (h x hx).1 (h x hx).2).2
theorem Wide.take {xs : List Int} (h : Wide xs) (k : Nat) : Wide (xs.take k) := fun x hx => h x (List.mem_of_mem_take hx)
theorem decTo_size {xs : List Int} (h : Wide xs) (k : Nat) (hk : k ≤ xs.length) : (joinS comma ((xs.map decS).take k)).size ≤ k * 21 := by
  have := joinS_size comma 20 ((xs.map decS).take k) (fun y hy => decs_size h y (List.mem_of_mem_take hy))
  rw [List.length_take, List.length_map, Nat.min_eq_left hk] at this
  exact this
end Go.Proofs.YtfidppepchobeaaDoor
