/- Lists of Job: a word for them, and contracts of the law's own functions on them. -/
import Derived.Test.YtncbohecppdfnaaInts
import Derived.StillTailTactics
namespace Go.Proofs.Ytncbohecppdfnaa
open Go.RowKit Go.Lst Go.ChangeShapes Go.WideShapes

structure JobD where
  (Time Release Due Weight : Int)
deriving Inhabited
namespace JobD
def wf (x : JobD) : Prop := (Lit.int .i64 x.Time).wf = true ∧ (Lit.int .i64 x.Release).wf = true ∧ (Lit.int .i64 x.Due).wf = true ∧ (Lit.int .i64 x.Weight).wf = true
def row (x : JobD) : List Value := [Value.int .i64 x.Time, Value.int .i64 x.Release, Value.int .i64 x.Due, Value.int .i64 x.Weight]
theorem row_length (x : JobD) : x.row.length = 4 := rfl
end JobD
def sizeJob : Nat := 4
def cellsJob (xs : List JobD) : List Value := xs.flatMap JobD.row
def LstJob (B : Nat) (w : World) (v : Value) (xs : List JobD) : Prop := LstK 4 B w v xs.length (cellsJob xs)

theorem cellsJob_length (xs : List JobD) : (cellsJob xs).length = xs.length * 4 := by
  induction xs with
  | nil => rfl
  | cons x xs ih => simp only [cellsJob, List.flatMap_cons, List.length_append, List.length_cons, JobD.row_length] at ih ⊢; rw [ih]; omega
theorem cellsJob_get (xs : List JobD) (k i : Nat) (x : JobD) (hx : xs[k]? = some x) (hi : i < 4) : (cellsJob xs)[k * 4 + i]? = x.row[i]? := by
  induction xs generalizing k with
  | nil => simp at hx
  | cons y ys ih =>
    cases k with
    | zero =>
      obtain rfl : y = x := by simpa using hx
      unfold cellsJob
      rw [List.flatMap_cons, List.getElem?_append_left (by rw [JobD.row_length]; omega), Nat.zero_mul, Nat.zero_add]
    | succ k =>
      have := ih k (by simpa using hx)
      unfold cellsJob at this ⊢
      rw [List.flatMap_cons, List.getElem?_append_right (by rw [JobD.row_length]; omega), JobD.row_length, show (k + 1) * 4 + i - 4 = k * 4 + i by omega]
      exact this
/-- What the cells of the slice are, one element's after another. -/
theorem LstJob.at_ {B : Nat} {w : World} {v : Value} {xs : List JobD} (h : LstJob B w v xs) : ∃ a cap, v = .slice a xs.length cap ∧ xs.length ≤ maxLen ∧ xs.length ≤ cap ∧ cap ≤ maxLen ∧
    ∀ k, k < xs.length → ∃ b o x, a = some ⟨b, o, none⟩ ∧ b < B ∧ xs[k]? = some x ∧ w.cell? ⟨b, o + k * 4, none⟩ = some (.int .i64 x.Time) ∧ w.cell? ⟨b, o + k * 4 + 1, none⟩ = some (.int .i64 x.Release) ∧ w.cell? ⟨b, o + k * 4 + 2, none⟩ = some (.int .i64 x.Due) ∧ w.cell? ⟨b, o + k * 4 + 3, none⟩ = some (.int .i64 x.Weight) := by
  obtain ⟨a, cap, hv, hl, h1, h2, h3, hc⟩ := h
  refine ⟨a, cap, hv, hl, h1, h2, fun k hk => ?_⟩
  obtain ⟨b, o, ha, hb, hcell⟩ := hc (by omega)
  have e1 : xs[k]? = some xs[k] := List.getElem?_eq_getElem _
  refine ⟨b, o, xs[k], ha, hb, e1, ?_, ?_, ?_, ?_⟩
  · have := hcell (k * 4 + 0) _ ((cellsJob_get xs k 0 _ e1 (by omega)).trans rfl)
    rw [← Nat.add_assoc] at this
    exact this
  · have := hcell (k * 4 + 1) _ ((cellsJob_get xs k 1 _ e1 (by omega)).trans rfl)
    rw [← Nat.add_assoc] at this
    exact this
  · have := hcell (k * 4 + 2) _ ((cellsJob_get xs k 2 _ e1 (by omega)).trans rfl)
    rw [← Nat.add_assoc] at this
    exact this
  · have := hcell (k * 4 + 3) _ ((cellsJob_get xs k 3 _ e1 (by omega)).trans rfl)
    rw [← Nat.add_assoc] at this
    exact this
theorem LstJob.below {B B' : Nat} {w w' : World} {v : Value} {xs : List JobD} (h : LstJob B w v xs) (hb : Below B' w w') (hB : B ≤ B') : LstJob B w' v xs := LstK.below h hb hB
theorem LstJob.mono {B B' : Nat} {w : World} {v : Value} {xs : List JobD} (h : LstJob B w v xs) (hB : B ≤ B') : LstJob B' w v xs := LstK.mono h hB
/-- Numbers, as many as 4 for each of n rows, are rows. -/
theorem groupJob : ∀ (n : Nat) (zs : List Int), zs.length = n * 4 → (∀ z ∈ zs, (Lit.int .i64 z).wf = true) → ∃ xs : List JobD, xs.length = n ∧ zs.map (Value.int .i64) = cellsJob xs ∧ ∀ y ∈ xs, y.wf
  | 0, zs, h, _ => ⟨[], rfl, by have : zs = [] := List.length_eq_zero_iff.1 (by omega); rw [this]; rfl, by simp⟩
  | n + 1, zs, h, hw => by
    match zs, h with
    | a :: b :: c :: d :: rest, h =>
      obtain ⟨xs, hl, hm, hy⟩ := groupJob n rest (by simp at h; omega) (fun z hz => hw z (by simp [hz]))
      exact ⟨⟨a, b, c, d⟩ :: xs, by simp [hl], by simp only [List.map_cons, hm, cellsJob, List.flatMap_cons, JobD.row, List.cons_append, List.nil_append], fun y hy' => by
        rcases List.mem_cons.1 hy' with rfl | h'
        · exact ⟨hw _ (by simp), hw _ (by simp), hw _ (by simp), hw _ (by simp)⟩
        · exact hy y h'⟩
    | [], h => exact absurd h (by simp only [List.length_nil]; omega)
    | [_], h => exact absurd h (by simp only [List.length_cons, List.length_nil]; omega)
    | [_, _], h => exact absurd h (by simp only [List.length_cons, List.length_nil]; omega)
    | [_, _, _], h => exact absurd h (by simp only [List.length_cons, List.length_nil]; omega)













end Go.Proofs.Ytncbohecppdfnaa
