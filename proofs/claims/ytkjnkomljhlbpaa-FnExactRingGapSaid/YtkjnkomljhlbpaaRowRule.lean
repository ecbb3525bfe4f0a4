/- Lists of Rule: a word for them, and contracts of the law's own functions on them. -/
import Derived.Test.YtkjnkomljhlbpaaInts
import Derived.StillTailTactics
namespace Go.Proofs.Ytkjnkomljhlbpaa
open Go.RowKit Go.Lst Go.ChangeShapes Go.WideShapes

structure RuleD where
  (From To Least Most : Int)
deriving Inhabited
namespace RuleD
def wf (x : RuleD) : Prop := (Lit.int .i64 x.From).wf = true ∧ (Lit.int .i64 x.To).wf = true ∧ (Lit.int .i64 x.Least).wf = true ∧ (Lit.int .i64 x.Most).wf = true
def row (x : RuleD) : List Value := [Value.int .i64 x.From, Value.int .i64 x.To, Value.int .i64 x.Least, Value.int .i64 x.Most]
theorem row_length (x : RuleD) : x.row.length = 4 := rfl
end RuleD
def sizeRule : Nat := 4
def cellsRule (xs : List RuleD) : List Value := xs.flatMap RuleD.row
def LstRule (B : Nat) (w : World) (v : Value) (xs : List RuleD) : Prop := LstK 4 B w v xs.length (cellsRule xs)

theorem cellsRule_length (xs : List RuleD) : (cellsRule xs).length = xs.length * 4 := by
  induction xs with
  | nil => rfl
  | cons x xs ih => simp only [cellsRule, List.flatMap_cons, List.length_append, List.length_cons, RuleD.row_length] at ih ⊢; rw [ih]; omega
theorem cellsRule_get (xs : List RuleD) (k i : Nat) (x : RuleD) (hx : xs[k]? = some x) (hi : i < 4) : (cellsRule xs)[k * 4 + i]? = x.row[i]? := by
  induction xs generalizing k with
  | nil => simp at hx
  | cons y ys ih =>
    cases k with
    | zero =>
      obtain rfl : y = x := by simpa using hx
      unfold cellsRule
      rw [List.flatMap_cons, List.getElem?_append_left (by rw [RuleD.row_length]; omega), Nat.zero_mul, Nat.zero_add]
    | succ k =>
      have := ih k (by simpa using hx)
      unfold cellsRule at this ⊢
      rw [List.flatMap_cons, List.getElem?_append_right (by rw [RuleD.row_length]; omega), RuleD.row_length, show (k + 1) * 4 + i - 4 = k * 4 + i by omega]
      exact this
/-- What the cells of the slice are, one element's after another. -/
theorem LstRule.at_ {B : Nat} {w : World} {v : Value} {xs : List RuleD} (h : LstRule B w v xs) : ∃ a cap, v = .slice a xs.length cap ∧ xs.length ≤ maxLen ∧ xs.length ≤ cap ∧ cap ≤ maxLen ∧
    ∀ k, k < xs.length → ∃ b o x, a = some ⟨b, o, none⟩ ∧ b < B ∧ xs[k]? = some x ∧ w.cell? ⟨b, o + k * 4, none⟩ = some (.int .i64 x.From) ∧ w.cell? ⟨b, o + k * 4 + 1, none⟩ = some (.int .i64 x.To) ∧ w.cell? ⟨b, o + k * 4 + 2, none⟩ = some (.int .i64 x.Least) ∧ w.cell? ⟨b, o + k * 4 + 3, none⟩ = some (.int .i64 x.Most) := by
  obtain ⟨a, cap, hv, hl, h1, h2, h3, hc⟩ := h
  refine ⟨a, cap, hv, hl, h1, h2, fun k hk => ?_⟩
  obtain ⟨b, o, ha, hb, hcell⟩ := hc (by omega)
  have e1 : xs[k]? = some xs[k] := List.getElem?_eq_getElem _
  refine ⟨b, o, xs[k], ha, hb, e1, ?_, ?_, ?_, ?_⟩
  · have := hcell (k * 4 + 0) _ ((cellsRule_get xs k 0 _ e1 (by omega)).trans rfl)
    rw [← Nat.add_assoc] at this
    exact this
  · have := hcell (k * 4 + 1) _ ((cellsRule_get xs k 1 _ e1 (by omega)).trans rfl)
    rw [← Nat.add_assoc] at this
    exact this
  · have := hcell (k * 4 + 2) _ ((cellsRule_get xs k 2 _ e1 (by omega)).trans rfl)
    rw [← Nat.add_assoc] at this
    exact this
  · have := hcell (k * 4 + 3) _ ((cellsRule_get xs k 3 _ e1 (by omega)).trans rfl)
    rw [← Nat.add_assoc] at this
    exact this
theorem LstRule.below {B B' : Nat} {w w' : World} {v : Value} {xs : List RuleD} (h : LstRule B w v xs) (hb : Below B' w w') (hB : B ≤ B') : LstRule B w' v xs := LstK.below h hb hB
theorem LstRule.mono {B B' : Nat} {w : World} {v : Value} {xs : List RuleD} (h : LstRule B w v xs) (hB : B ≤ B') : LstRule B' w v xs := LstK.mono h hB
/-- Numbers, as many as 4 for each of n rows, are rows. -/
theorem groupRule : ∀ (n : Nat) (zs : List Int), zs.length = n * 4 → (∀ z ∈ zs, (Lit.int .i64 z).wf = true) → ∃ xs : List RuleD, xs.length = n ∧ zs.map (Value.int .i64) = cellsRule xs ∧ ∀ y ∈ xs, y.wf
  | 0, zs, h, _ => ⟨[], rfl, by have : zs = [] := List.length_eq_zero_iff.1 (by omega); rw [this]; rfl, by simp⟩
  | n + 1, zs, h, hw => by
    match zs, h with
    | a :: b :: c :: d :: rest, h =>
      obtain ⟨xs, hl, hm, hy⟩ := groupRule n rest (by simp at h; omega) (fun z hz => hw z (by simp [hz]))
      exact ⟨⟨a, b, c, d⟩ :: xs, by simp [hl], by simp only [List.map_cons, hm, cellsRule, List.flatMap_cons, RuleD.row, List.cons_append, List.nil_append], fun y hy' => by
        rcases List.mem_cons.1 hy' with rfl | h'
        · exact ⟨hw _ (by simp), hw _ (by simp), hw _ (by simp), hw _ (by simp)⟩
        · exact hy y h'⟩
    | [], h => exact absurd h (by simp only [List.length_nil]; omega)
    | [_], h => exact absurd h (by simp only [List.length_cons, List.length_nil]; omega)
    | [_, _], h => exact absurd h (by simp only [List.length_cons, List.length_nil]; omega)
    | [_, _, _], h => exact absurd h (by simp only [List.length_cons, List.length_nil]; omega)


set_option maxRecDepth 100000 in
theorem openRow_Rule {H : Type} {enc : TypeId × Value → H} {W : World} {v : Value} {d : DataW H} {ps : List MemPlace}
    (hval : Value.okWide Try.prog W .any 0 22 v) (h : DataW.Trod enc Try.prog W 0 (fun _ => true) true 22 v d ps) :
    ∃ xs : List RuleD, LstRule W.heap.size W v xs ∧ ∀ y ∈ xs, y.wf := by
  obtain ⟨n, zs, hl, hL, hw⟩ := open_int_rows' (fs := Try.prog.fieldsOf 43) (q := .i64) Try.underlying22 Try.underlying43 (by kernel_rfl) (by kernel_rfl) (by decide +kernel) (fun j f hj => by
    have hlt : j < 4 := (Array.getElem?_eq_some_iff.1 hj).1
    have hq : ∀ j, j < 4 → ∀ f, (Try.prog.fieldsOf 43)[j]? = some f → f.type = 2 := by decide +kernel
    rw [hq j hlt f hj]; exact Try.underlying2) hval h
  obtain ⟨xs, hx, hm, hy⟩ := groupRule n zs hl hw
  refine ⟨xs, ?_, hy⟩
  unfold LstRule
  rw [hx, ← hm]
  exact hL

set_option maxHeartbeats 400000 in
set_option maxRecDepth 100000 in
theorem szRuleS_fits (a : Option Addr) (n cap : Nat) (left : Int) (w : World) (h : (n : Int) ≤ left) (h1 : left ≤ 1048576) (_ : n ≤ 9223372036854775807) :
    Calls Try.prog 4 #[.slice a n cap, .int .i64 left] w fun e w' => e = .returned (.int .i64 (left - n)) ∧ w = w' := by
  have h0 : 0 ≤ left := by omega
  go_enter Try.func4, Try.ntmps4
  go_wp2
  go_ret
  exact ⟨rfl, rfl⟩
set_option maxHeartbeats 400000 in
set_option maxRecDepth 100000 in
theorem szRuleS_over (a : Option Addr) (n cap : Nat) (left : Int) (w : World) (h : left < n) (h1 : left ≤ 1048576) (hn : n ≤ 9223372036854775807) (h0 : 0 ≤ left := by omega) :
    Calls Try.prog 4 #[.slice a n cap, .int .i64 left] w fun e w' => e = .returned (.int .i64 (-1)) ∧ w = w' := by
  go_enter Try.func4, Try.ntmps4
  go_wp2
  go_ret
  exact ⟨rfl, rfl⟩

set_option maxHeartbeats 1000000 in
set_option maxRecDepth 100000 in
theorem toRule_any (a b c d : Int) (w : World) : Calls Try.prog 16 #[.agg #[.int .i64 a, .int .i64 b, .int .i64 c, .int .i64 d]] w fun e w' => e = .returned (.agg #[.int .i64 a, .int .i64 b, .int .i64 c, .int .i64 d]) ∧ Below w.heap.size w w' := by
  go_enter Try.func16, Try.ntmps16
  go_wp2
  exact bodyPost_ret (v := .agg #[.int .i64 a, .int .i64 b, .int .i64 c, .int .i64 d]) (by simp [results, Try.results16, go_sem]) rfl ⟨rfl, by repeat (first | exact Below.refl _ _ | refine below_alloc ?_ _)⟩


theorem infoRule : (Try.prog.info? 41).map (fun i => (i.zero, i.size, i.bytes)) = some (some (.agg #[.int .i64 0, .int .i64 0, .int .i64 0, .int .i64 0]), 4, 32) := by kernel_rfl

/-- The first 4 k cells are those. -/
def UptoRule (cs : List Value) (k : Nat) (xs : List Value) : Prop := ∀ i, i < k * 4 → xs[i]? = cs[i]?
theorem uptoRule_step {xs : List RuleD} {k : Nat} {x : RuleD} {ys : List Value} (hx : xs[k]? = some x) (hy : ys.length = xs.length * 4) (h : UptoRule (cellsRule xs) k ys) : UptoRule (cellsRule xs) (k + 1) (setAll ys (k * 4) x.row) := by
  intro i hi
  have hk : k < xs.length := (List.getElem?_eq_some_iff.1 hx).1
  by_cases h1 : i < k * 4
  · rw [setAll_before _ _ _ _ h1]; exact h i h1
  · have e : i = k * 4 + (i - k * 4) := by omega
    have hr : x.row.length = 4 := rfl
    rw [e, setAll_at _ _ _ _ (by omega) (by omega), cellsRule_get xs k _ x hx (by omega)]
theorem uptoRule_all {xs : List RuleD} {ys : List Value} (hy : ys.length = xs.length * 4) (h : UptoRule (cellsRule xs) xs.length ys) : ys = cellsRule xs := by
  apply List.ext_getElem?
  intro i
  by_cases hi : i < xs.length * 4
  · exact h i hi
  · rw [List.getElem?_eq_none (by omega), List.getElem?_eq_none (by rw [cellsRule_length]; omega)]

set_option maxHeartbeats 2000000 in
set_option maxRecDepth 100000 in
theorem toRuleS_any (B : Nat) (v : Value) (xs : List RuleD) (w : World) (h : LstRule B w v xs) (hB : B ≤ w.heap.size) (hlen : xs.length ≤ 1048576) :
    Calls Try.prog 6 #[v] w fun e w' => ∃ v', e = .returned v' ∧ w'.ownsRow w.heap.size 41 4 v' xs.length (cellsRule xs) ∧ Below w.heap.size w w' := by
  obtain ⟨a, cap, rfl, hl, _, _, hc⟩ := h.at_
  obtain ⟨i0, hi, hz0, hz1, hz2⟩ := info_parts infoRule
  have hAll : Hid (∀ ys : List Value, ys.length = xs.length * 4 → UptoRule (cellsRule xs) xs.length ys → ys = cellsRule xs) := Lib.hid fun ys h1 h2 => uptoRule_all h1 h2
  have hStep : Hid (∀ (k : Nat) (x : RuleD) (ys : List Value), xs[k]? = some x → ys.length = xs.length * 4 → UptoRule (cellsRule xs) k ys → UptoRule (cellsRule xs) (k + 1) (setAll ys (k * 4) x.row)) := Lib.hid fun k x ys h1 h2 h3 => uptoRule_step h1 h2 h3
  generalize hn : xs.length = n at *
  unfold maxLen at hl
  have hC := Lib.hid hc
  clear hn hc
  go_enter Try.func6, Try.ntmps6
  go_wp2_with (at_make; refine wpList_make_full _ rfl _ _ _ rfl w.heap.size _ i0 (.agg #[.int .i64 0, .int .i64 0, .int .i64 0, .int .i64 0]) 4 Try.underlying28 hi hz0 hz1 _ _ _ _ n rfl rfl rfl rfl ?c1 ?c2 ?c3 ?_)
  case c1 => rw [hz2]; omega
  case c2 => unfold maxLen; omega
  case c3 => exact Nat.le_refl _
  intro w0 hown0 hg0
  have hB0 := Lib.hid (show Below w.heap.size w w0 from (Below.refl _ _).grown hg0 (Nat.le_refl _) (fun k hk => by cases hk))
  have hs0 : w.heap.size < w0.heap.size := (hown0.lt _ rfl).2
  generalize (madeCells _ _).toList = ys0 at hown0
  have hO := Lib.hid hown0
  clear hown0 hg0 hz0 hz1 hz2 hi
  go_wp2
  go_loopw [4] (fun i wr => ∃ (k : Nat) (ys : List Value), k ≤ n ∧ i = .int .i64 k ∧ Hid (UptoRule (cellsRule xs) k ys) ∧ Hid (wr.ownsRow w.heap.size 41 4 (.slice (some ⟨w.heap.size, 0, none⟩) n n) n ys) ∧ Hid (Below w.heap.size w wr) ∧ w.heap.size < wr.heap.size) (fun i _ => n - (intOf i).toNat)
  case atStart => exact ⟨0, ys0, Nat.zero_le _, rfl, Lib.hid (fun i hi => by omega), hO, hB0, hs0⟩
  case round =>
    obtain ⟨k, ys, hk, rfl, hU, hO1, hB1, hs1⟩ := hrel
    by_cases hlt : k < n
    · obtain ⟨b, o, x, rfl, hbB, hx, h0, h1, h2, h3⟩ := hC.out k hlt
      rw [← hB1.out.cell (p := ⟨b, o + k * 4, none⟩) (show b < w.heap.size by omega)] at h0
      rw [← hB1.out.cell (p := ⟨b, o + k * 4 + 1, none⟩) (show b < w.heap.size by omega)] at h1
      rw [← hB1.out.cell (p := ⟨b, o + k * 4 + 2, none⟩) (show b < w.heap.size by omega)] at h2
      rw [← hB1.out.cell (p := ⟨b, o + k * 4 + 3, none⟩) (show b < w.heap.size by omega)] at h3
      go_wp2_with fail
      refine (toRule_any _ _ _ _ _).mono ?_
      rintro e w1 ⟨rfl, hb1⟩
      have hO2 : w1.ownsRow w.heap.size 41 4 (.slice (some ⟨w.heap.size, 0, none⟩) n n) n ys := ownsRow_kept hO1.out hb1
      have hs1' : w.heap.size < w1.heap.size := Nat.lt_of_lt_of_le hs1 hb1.size
      have hB2 := Lib.hid (below_on hB1.out (Nat.le_refl _) hb1)
      have hy := hO2.1
      obtain ⟨u0, hd0⟩ : ∃ u, w1.cell? ⟨w.heap.size, k * 4, none⟩ = some u := ⟨_, (hO2.cellAt (k * 4 + 0) (by omega)).trans (List.getElem?_eq_getElem (by omega))⟩
      have hf0 : w1.frozen? ⟨w.heap.size, k * 4, none⟩ = false := hO2.frozenAt (k * 4 + 0)
      obtain ⟨u1, hd1⟩ : ∃ u, w1.cell? ⟨w.heap.size, k * 4 + 1, none⟩ = some u := ⟨_, (hO2.cellAt (k * 4 + 1) (by omega)).trans (List.getElem?_eq_getElem (by omega))⟩
      have hf1 : w1.frozen? ⟨w.heap.size, k * 4 + 1, none⟩ = false := hO2.frozenAt (k * 4 + 1)
      obtain ⟨u2, hd2⟩ : ∃ u, w1.cell? ⟨w.heap.size, k * 4 + 2, none⟩ = some u := ⟨_, (hO2.cellAt (k * 4 + 2) (by omega)).trans (List.getElem?_eq_getElem (by omega))⟩
      have hf2 : w1.frozen? ⟨w.heap.size, k * 4 + 2, none⟩ = false := hO2.frozenAt (k * 4 + 2)
      obtain ⟨u3, hd3⟩ : ∃ u, w1.cell? ⟨w.heap.size, k * 4 + 3, none⟩ = some u := ⟨_, (hO2.cellAt (k * 4 + 3) (by omega)).trans (List.getElem?_eq_getElem (by omega))⟩
      have hf3 : w1.frozen? ⟨w.heap.size, k * 4 + 3, none⟩ = false := hO2.frozenAt (k * 4 + 3)
      have hst := ownsRow_setMany (j := k * 4) (us := x.row) hO2
      have hB3 := Lib.hid (setMany_below (j := k * 4) (us := x.row) hB2.out (Nat.le_refl w.heap.size))
      have hs2 : w.heap.size < (setMany w1 w.heap.size (k * 4) x.row).heap.size := by rw [setMany_size]; exact hs1'
      have hU2 := Lib.hid (hStep.out k x ys hx hy hU.out)
      have hO5 := Lib.hid hst.1
      have hS2 := Lib.hid hs2
      clear hst hs2 hy hO2 hx hb1 hU hO1 hB1 hB2 h0 h1 h2 h3 hs1 hs1'
      go_wp2_with fail
      go_roundw
      case rel => exact ⟨k + 1, _, by omega, by go_num, hU2, hO5, hB3, hS2.out⟩
      case measure => simp [intOf]; omega
    · have hkn : k = n := by omega
      have hO3 := hO1.out
      have hU3 := hU.out
      rw [hkn] at hU3
      rw [hAll.out ys hO3.1 hU3] at hO3
      have hO4 := Lib.hid hO3
      clear hO3 hkn hO1 hU3 hU
      go_wp2
      go_ret
      exact ⟨_, rfl, hO4.out, hB1.out⟩


theorem copiedRule (B : Nat) (v : Value) (xs : List RuleD) (w : World) (h : LstRule B w v xs) (hB : B ≤ w.heap.size) (hlen : xs.length ≤ 1048576) :
    Calls Try.prog 6 #[v] w fun e w' => ∃ v', e = .returned v' ∧ Own w.heap.size w'.heap.size w' v' 41 4 xs.length (cellsRule xs) ∧ Below w.heap.size w w' :=
  (toRuleS_any B v xs w h hB hlen).mono fun _ _ ⟨v', he, ho, hb⟩ => ⟨v', he, Own.new ho (by unfold maxLen; omega), hb⟩

set_option maxHeartbeats 1000000 in
set_option maxRecDepth 100000 in
theorem eqRule_yes (a b c d : Int) (w : World) : Calls Try.prog 20 #[.agg #[.int .i64 a, .int .i64 b, .int .i64 c, .int .i64 d], .agg #[.int .i64 a, .int .i64 b, .int .i64 c, .int .i64 d]] w fun e w' => e = .returned (.bool true) ∧ Below w.heap.size w w' := by
  go_enter Try.func20, Try.ntmps20
  go_wp2
  go_ret
  exact ⟨rfl, by repeat (first | exact Below.refl _ _ | refine below_alloc ?_ _ | refine below_drew ?_ _)⟩

set_option maxHeartbeats 1000000 in
set_option maxRecDepth 100000 in
theorem eqRuleS_yes (B : Nat) (v1 v2 : Value) (xs : List RuleD) (w : World) (h1 : LstRule B w v1 xs) (h2 : LstRule B w v2 xs) (hB : B ≤ w.heap.size := by exact Nat.le_refl _) :
    Calls Try.prog 10 #[v1, v2] w fun e w' => e = .returned (.bool true) ∧ Below w.heap.size w w' := by
  obtain ⟨a1, cap1, rfl, hl1, _, _, hc1⟩ := h1.at_
  obtain ⟨a2, cap2, rfl, hl2, _, _, hc2⟩ := h2.at_
  have hX : Hid (∀ k, k < xs.length → ∃ (b1 o1 b2 o2 : Nat) (x : RuleD), a1 = some ⟨b1, o1, none⟩ ∧ a2 = some ⟨b2, o2, none⟩ ∧ b1 < B ∧ b2 < B ∧ (w.cell? ⟨b1, o1 + k * 4, none⟩ = some (.int .i64 x.From) ∧ w.cell? ⟨b1, o1 + k * 4 + 1, none⟩ = some (.int .i64 x.To) ∧ w.cell? ⟨b1, o1 + k * 4 + 2, none⟩ = some (.int .i64 x.Least) ∧ w.cell? ⟨b1, o1 + k * 4 + 3, none⟩ = some (.int .i64 x.Most)) ∧ (w.cell? ⟨b2, o2 + k * 4, none⟩ = some (.int .i64 x.From) ∧ w.cell? ⟨b2, o2 + k * 4 + 1, none⟩ = some (.int .i64 x.To) ∧ w.cell? ⟨b2, o2 + k * 4 + 2, none⟩ = some (.int .i64 x.Least) ∧ w.cell? ⟨b2, o2 + k * 4 + 3, none⟩ = some (.int .i64 x.Most))) := Lib.hid fun k hk => by
    obtain ⟨b1, o1, x1, e1, hb1, hx1, hr1⟩ := hc1 k hk
    obtain ⟨b2, o2, x2, e2, hb2, hx2, hr2⟩ := hc2 k hk
    obtain rfl : x1 = x2 := by rw [hx1] at hx2; exact Option.some.inj hx2
    exact ⟨b1, o1, b2, o2, x1, e1, e2, hb1, hb2, hr1, hr2⟩
  clear hc1 hc2 hl2
  generalize xs.length = n at *
  unfold maxLen at hl1
  go_enter Try.func10, Try.ntmps10
  go_wp2
  go_loopw [5] (fun i wr => ∃ k : Nat, k ≤ n ∧ i = .int .i64 k ∧ Hid (Below w.heap.size w wr)) (fun i _ => n - (intOf i).toNat)
  case atStart => exact ⟨0, Nat.zero_le _, rfl, Lib.hid (Below.refl _ _)⟩
  case round =>
    obtain ⟨k, hk, rfl, hB1⟩ := hrel
    by_cases hlt : k < n
    · obtain ⟨b1, o1, b2, o2, x, rfl, rfl, hb1, hb2, ⟨p0, p1, p2, p3⟩, ⟨q0, q1, q2, q3⟩⟩ := hX.out k hlt
      rw [← hB1.out.cell (p := ⟨b1, o1 + k * 4, none⟩) (show b1 < w.heap.size by omega)] at p0
      rw [← hB1.out.cell (p := ⟨b1, o1 + k * 4 + 1, none⟩) (show b1 < w.heap.size by omega)] at p1
      rw [← hB1.out.cell (p := ⟨b1, o1 + k * 4 + 2, none⟩) (show b1 < w.heap.size by omega)] at p2
      rw [← hB1.out.cell (p := ⟨b1, o1 + k * 4 + 3, none⟩) (show b1 < w.heap.size by omega)] at p3
      rw [← hB1.out.cell (p := ⟨b2, o2 + k * 4, none⟩) (show b2 < w.heap.size by omega)] at q0
      rw [← hB1.out.cell (p := ⟨b2, o2 + k * 4 + 1, none⟩) (show b2 < w.heap.size by omega)] at q1
      rw [← hB1.out.cell (p := ⟨b2, o2 + k * 4 + 2, none⟩) (show b2 < w.heap.size by omega)] at q2
      rw [← hB1.out.cell (p := ⟨b2, o2 + k * 4 + 3, none⟩) (show b2 < w.heap.size by omega)] at q3
      clear hb1 hb2
      go_wp2_with fail
      go_still_tail 8, (by kernel_rfl)
      change wpList _ _ _ _ _ wr.drew
      have hB2 := Lib.hid (show Below w.heap.size w wr.drew from hB1.out.drew)
      generalize wr.drew = w2 at *
      go_wp2_with fail
      refine (eqRule_yes _ _ _ _ w2).mono ?_
      rintro e w3 ⟨rfl, hb3⟩
      have hB3 := Lib.hid (below_on hB2.out (Nat.le_refl _) hb3)
      clear hb3 hB2 hB1
      go_wp2_with fail
      go_roundw
      case rel => exact ⟨k + 1, by omega, by go_num, hB3⟩
      case measure => simp [intOf]; omega
    · go_wp2
      go_ret
      exact ⟨rfl, hB1.out⟩



end Go.Proofs.Ytkjnkomljhlbpaa
