/- Contracts: a game as the key of a map. -/
import Derived.Test.YtpmglmpopmppbaaPairs
import Derived.DeepKeys4
import Derived.Maps.OwnIn
import Derived.Maps.OwnSet
namespace Go.Proofs.Ytpmglmpopmppbaa
open Go.RowKit Go.Lst Go.Maps

theorem laidOut : laidOutB Try.prog = true := by kernel_rfl
theorem lawGame : Keyed Try.prog 58 := Keyed.of_law (deep_law_laid laidOut (m := 2) (by omega) (of_decide_eq_true (by kernel_rfl)) (by kernel_rfl) (by kernel_rfl))
def keyG (a b : Int) : Lit := .string (keyBytes [.int .i64 a, .int .i64 b])
abbrev gameV (a b : Int) : Value := .agg #[.int .i64 a, .int .i64 b]
theorem gameType : Try.prog.keyType 58 = true := by kernel_rfl
theorem gameCells : Try.prog.cellsOf 58 = 2 := by kernel_rfl
theorem intCells : Try.prog.cellsOf 2 = 1 := by kernel_rfl
theorem keyG_is (a b : Int) (ha : (Lit.int .i64 a).wf = true) (hb : (Lit.int .i64 b).wf = true) : keyOf Try.prog 58 (gameV a b) = some (keyG a b) := by
  have hu := Try.underlying58
  have hi := Try.underlying2
  obtain ⟨S, hS⟩ : ∃ S, Try.prog.types.size = S + 1 := ⟨Try.prog.types.size - 1, (Nat.sub_add_cancel (of_decide_eq_true (by kernel_rfl))).symm⟩
  have hF : (gameV a b).formed Try.prog 58 = true := by simp [gameV, Value.formed, hu, gameCells]
  have hL : Try.prog.keyLits (S + 1 + 1) 58 [.int .i64 a, .int .i64 b] = some [.int .i64 a, .int .i64 b] := by
    have h1 : ∀ x : Int, (Lit.int .i64 x).wf = true → Try.prog.keyLits (S + 1) 2 [.int .i64 x] = some [.int .i64 x] := fun x hx => by
      simp only [Program.keyLits, hi]
      rw [if_pos ⟨trivial, hx⟩]
    unfold Program.keyLits
    rw [hu]
    simp [gameCells, intCells, h1 a ha, h1 b hb]
  unfold keyOf keyG
  rw [hu]
  simp only [gameType, hF, Bool.and_self, if_true, hS]
  show (Try.prog.keyLits (S + 1 + 1) 58 [.int .i64 a, .int .i64 b]).map _ = _
  rw [hL]
  rfl
theorem keyG_inj {a b c d : Int} (ha : (Lit.int .i64 a).wf = true) (hb : (Lit.int .i64 b).wf = true) (hc : (Lit.int .i64 c).wf = true) (hd : (Lit.int .i64 d).wf = true) (h : keyG a b = keyG c d) : (a, b) = (c, d) := by
  have := lawGame.inj (keyG_is a b ha hb) (by rw [h]; exact keyG_is c d hc hd)
  injection this with e
  injection e with e
  injection e with e1 e2
  injection e2 with e2 _
  injection e1 with _ e1
  injection e2 with _ e2
  rw [e1, e2]
/-- The map has just the games of a list. -/
def Played (D : DataW Unit) (l : List (Int × Int)) : Prop := ∀ a b : Int, (Lit.int .i64 a).wf = true → (Lit.int .i64 b).wf = true → D.atKey (keyG a b) (.lit (.bool false)) = .lit (.bool (l.contains (a, b)))
theorem played_none : Played (.map []) [] := fun a b _ _ => rfl
theorem Played.put {D : DataW Unit} {l : List (Int × Int)} (h : Played D l) (hD : IsMap D) {a b : Int} (ha : (Lit.int .i64 a).wf = true) (hb : (Lit.int .i64 b).wf = true) : Played (D.put (keyG a b) (.lit (.bool true))) (l ++ [(a, b)]) := fun c d hc hd => by
  by_cases e : (c, d) = (a, b)
  · injection e with e1 e2
    subst e1 e2
    rw [atKey_put_same hD (lawGame.key (keyG_is c d ha hb))]
    simp
  · rw [atKey_put_other (fun he => e (keyG_inj hc hd ha hb he)), h c d hc hd, List.contains_append]
    have h1 : ((c, d) == (a, b)) = false := by rw [beq_eq_false_iff_ne]; exact e
    have h2 : [(a, b)].contains (c, d) = false := by rw [List.contains_cons, h1]; rfl
    rw [h2, Bool.or_false]
theorem bool_elem {v : Value} {x : Bool} {ps : List MemPlace} (h : plainElem (H := Unit) Try.prog 4 v = some (.lit (.bool x), ps)) : v = .bool x := by
  have he := Try.underlying4
  unfold plainElem at h
  rw [he] at h
  cases v <;> simp at h
  rename_i y
  rw [h.1]
end Go.Proofs.Ytpmglmpopmppbaa
