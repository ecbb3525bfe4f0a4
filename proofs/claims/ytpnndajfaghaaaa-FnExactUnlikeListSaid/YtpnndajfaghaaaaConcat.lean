/- Contracts: slices.Clone and slices.Concat of int64. -/
import Derived.Test.YtpnndajfaghaaaaGrow
namespace Go.Proofs.Ytpnndajfaghaaaa
open Go.RowKit Go.Lst

def cat (xs : Nat → List Int) : Nat → List Int
  | 0 => []
  | k + 1 => cat xs k ++ xs k
theorem cells_ofG {B : Nat} {w : World} {v : Value} {xs : List Int} (h : LstI B w v xs) (h1 : 1 ≤ xs.length) : ∃ b o cap, v = .slice (some ⟨b, o, none⟩) xs.length cap ∧ b < B ∧ xs.length ≤ maxLen ∧ ∀ (k : Nat) (x : Int), xs[k]? = some x → w.cell? ⟨b, o + k, none⟩ = some (.int .i64 x) := by
  obtain ⟨a, cap, rfl, hl, _, _, hc⟩ := h.at_
  obtain ⟨b, o, x0, rfl, hb, _, _⟩ := hc 0 (by omega)
  refine ⟨b, o, cap, rfl, hb, hl, fun k x hx => ?_⟩
  have hk : k < xs.length := (List.getElem?_eq_some_iff.1 hx).1
  obtain ⟨b', o', x', he, _, hx', hcell⟩ := hc k hk
  injection he with he
  injection he with e1 e2 _
  subst e1 e2
  rw [hx] at hx'
  obtain rfl := Option.some.inj hx'
  exact hcell
theorem row_openG {w : World} {A n : Nat} {e : TypeId} {v : Value} {cs : List Value} (h : w.ownsRow A e 1 v n cs) (hn : 1 ≤ n) : ∃ g cap, v = .slice (some ⟨g, 0, none⟩) n cap ∧ A ≤ g := by
  rcases h.2 with ⟨_, h0⟩ | ⟨g, cap, cur, rfl, hAg, _⟩
  · omega
  · exact ⟨g, cap, rfl, hAg⟩
/-- Cells of a list, as an append reads them. -/
theorem src_cells {w : World} {b o : Nat} {xs : List Int} (h : ∀ (k : Nat) (x : Int), xs[k]? = some x → w.cell? ⟨b, o + k, none⟩ = some (.int .i64 x)) : ∀ j u, (xs.map (Value.int .i64))[j]? = some u → w.cell? ((⟨b, o, none⟩ : Addr).add j) = some u := fun j u hu => by
  rw [List.getElem?_map] at hu
  cases hx : xs[j]? with
  | none => rw [hx] at hu; cases hu
  | some x =>
    rw [hx] at hu
    obtain rfl : Value.int .i64 x = u := Option.some.inj hu
    rw [growG_addr]
    exact h j x hx

set_option maxHeartbeats 1000000 in
theorem cloneG_any (b o cap n : Nat) (xs : List Int) (w : World) (hb : b < w.heap.size) (hxn : xs.length = n) (h1 : 1 ≤ n) (hn : n ≤ 1048576) (hc : ∀ (k : Nat) (x : Int), xs[k]? = some x → w.cell? ⟨b, o + k, none⟩ = some (.int .i64 x)) :
    Calls Try.prog 61 #[.slice (some ⟨b, o, none⟩) n cap] w fun e w' => ∃ g c, e = .returned (.slice (some ⟨g, 0, none⟩) n c) ∧ w.heap.size ≤ g ∧ w'.ownsRow w.heap.size 2 1 (.slice (some ⟨g, 0, none⟩) n c) n (xs.map (Value.int .i64)) ∧ Below w.heap.size w w' := by
  have hB0 : Below w.heap.size w (w.alloc (Obj.cells #[] 2)) := below_alloc (Below.refl _ _) _
  have hO0 : (w.alloc (Obj.cells #[] 2)).ownsRow w.heap.size 2 1 (.slice (some ⟨w.heap.size, 0, none⟩) 0 0) 0 [] := World.ownsRow_lit w #[] 0 (Nat.le_refl _) (Nat.zero_le _) rfl
  have hsrc := src_cells (w := w.alloc (Obj.cells #[] 2)) (b := b) (o := o) (xs := xs) (fun k x hx => by rw [hB0.cell (p := ⟨b, o + k, none⟩) hb]; exact hc k x hx)
  have hle : w.heap.size ≤ (w.alloc (Obj.cells #[] 2)).heap.size := hB0.size
  have hone := ints_cellG xs
  have hlm : (xs.map (Value.int .i64)).length = n * 1 := by rw [List.length_map, Nat.mul_one, hxn]
  obtain ⟨i0, hi, hz0, hz1, hz2⟩ := info_parts infoI
  have hSrc := Lib.hid hsrc
  have hB0h := Lib.hid hB0
  have hnil : (binOp .eql 22 (.slice (some ⟨b, o, none⟩) n cap) (.slice none 0 0)).run Try.prog w = .ok (.bool false) w := by
    simp only [binOp]
    simp [run_equal_slice_nil w 22 2 (some ⟨b, o, none⟩) n cap Try.underlying22]
  clear hc hsrc hB0 hxn
  generalize xs.map (Value.int .i64) = cs at *
  go_enter Try.func61, Try.ntmps61
  go_wp2_with (at_builtin; refine wpList_append_own _ rfl _ _ _ rfl w.heap.size 2 i0 (.int .i64 0) 1 8 Try.underlying22 hi hz0 hz1 hz2 rfl (by decide) _ 0 _ rfl hO0 ⟨b, o, none⟩ n cap cs rfl hlm hSrc.out hone (by unfold maxLen; omega) (by omega) hle ?_; intro v8 w8 hown8 hgrow8 hnil8; have hO8 := Lib.hid hown8; have hB8 := Lib.hid (hB0h.out.grown hgrow8 hle (fun g hg => by cases hg; exact Nat.le_refl _)); clear hown8 hgrow8 hnil8)
  have hO9 := hO8.out
  rw [Nat.zero_add, List.nil_append] at hO9
  obtain ⟨g, c8, rfl, hg⟩ := row_openG hO9 h1
  have hO10 := Lib.hid hO9
  clear hO9 hO8
  go_ret
  exact ⟨g, c8, rfl, hg, hO10.out, hB8.out⟩
set_option maxHeartbeats 4000000 in
theorem concat0_any (b o n cap : Nat) (xs : Nat → List Int) (w : World) (hb : b < w.heap.size) (hn : 1 ≤ n) (hn2 : n ≤ 1000)
    (hrow : ∀ i, i < n → ∃ bi oi ci, w.cell? ⟨b, o + i, none⟩ = some (.slice (some ⟨bi, oi, none⟩) (xs i).length ci) ∧ bi < w.heap.size ∧ ∀ (j : Nat) (x : Int), (xs i)[j]? = some x → w.cell? ⟨bi, oi + j, none⟩ = some (.int .i64 x))
    (hpos : ∀ i, i < n → (xs i).length ≤ 1000) (hone1 : 1 ≤ (cat xs n).length) :
    Calls Try.prog 104 #[.slice (some ⟨b, o, none⟩) n cap] w fun e w' => ∃ v', e = .returned v' ∧ w'.ownsRow w.heap.size 2 1 v' (cat xs n).length ((cat xs n).map (Value.int .i64)) ∧ Below w.heap.size w w' := by
  have hLen : ∀ k, k ≤ n → (cat xs k).length ≤ 1000 * k := fun k => by
    induction k with
    | zero => intro _; simp [cat]
    | succ k ih =>
      intro hk
      have h1 := ih (by omega)
      have h2 := hpos k (by omega)
      show (cat xs k ++ xs k).length ≤ _
      rw [List.length_append]
      omega
  have hStep : Hid (∀ k, cat xs (k + 1) = cat xs k ++ xs k) := Lib.hid fun k => rfl
  have hStepL : Hid (∀ k, (cat xs (k + 1)).length = (cat xs k).length + (xs k).length) := Lib.hid fun k => by show (cat xs k ++ xs k).length = _; rw [List.length_append]
  have hLn := Lib.hid hLen
  have hRow := Lib.hid hrow
  have hPos := Lib.hid hpos
  have h0 : (cat xs 0).length = 0 := rfl
  have hc0 : cat xs 0 = [] := rfl
  have hT := hLen n (Nat.le_refl _)
  have hGr := Lib.hid (growNil_any (cat xs n).length w (by omega) (by omega))
  obtain ⟨i0, hi, hz0, hz1, hz2⟩ := info_parts infoI
  clear hLen hrow hpos
  go_enter Try.func104, Try.ntmps104
  go_wp2_with fail
  go_loopw [3, 11] (fun sv iv wr => ∃ k : Nat, k ≤ n ∧ iv = .int .i64 k ∧ sv = .int .i64 (((cat xs k).length : Nat) : Int) ∧ wr = w) (fun _ iv _ => n - (intOf iv).toNat)
  case atStart => exact ⟨0, Nat.zero_le _, rfl, by rw [h0]; rfl, rfl⟩
  case round =>
    obtain ⟨k, hk, rfl, rfl, rfl⟩ := hrel
    by_cases hlt : k < n
    · obtain ⟨bi, oi, ci, hcell, _, _⟩ := hRow.out k hlt
      have hp := hPos.out k hlt
      have hl := hLn.out k hk
      have hs := Lib.hid (hStepL.out k)
      have hkn : (k : Int) < (n : Int) := by omega
      generalize (cat xs k).length = z at *
      generalize (xs k).length = y at *
      have hw1 : IntKind.i64.wrap ((z : Int) + (y : Int)) = (z : Int) + (y : Int) := IntWalk.i64_in _ (by omega)
      have hnn : ¬ ((z : Int) + (y : Int)) < 0 := by omega
      go_wp2_with fail
      go_roundw
      case rel => exact ⟨k + 1, by omega, by go_num, by rw [hs.out]; go_num, by trivial⟩
      case measure => simp [intOf]; omega
    · obtain rfl : n = k := by omega
      generalize hTT : (cat xs n).length = T at *
      have hTh := Lib.hid hTT
      clear hTT
      go_wp2_with (go_at_call 167; (with_reducible refine (hGr.out).mono ?_); rintro e w3 ⟨g, c3, rfl, ho3, hb3⟩; have hO3 := Lib.hid ho3; have hB3 := Lib.hid hb3; clear ho3 hb3)
      generalize hgg : wr.heap.size = G at *
      have hGG := Lib.hid hgg
      clear hgg hGr
      go_loopw [6, 27] (fun gv iv wq => ∃ k : Nat, k ≤ n ∧ iv = .int .i64 k ∧ Hid (wq.ownsRow G 2 1 gv (cat xs k).length ((cat xs k).map (Value.int .i64))) ∧ Hid (Below G wr wq)) (fun _ iv _ => n - (intOf iv).toNat)
      case atStart => exact ⟨0, Nat.zero_le _, rfl, Lib.hid (by rw [h0, hc0]; exact hO3.out), hB3⟩
      case round =>
        clear hO3 hB3
        obtain ⟨k, hk, rfl, hO, hBb⟩ := hrel
        by_cases hlt : k < n
        · obtain ⟨bi, oi, ci, hcell, hbi, hxs⟩ := hRow.out k hlt
          rw [← hBb.out.cell (p := ⟨b, o + k, none⟩) (show b < G from hb)] at hcell
          have hsrc := src_cells (w := wr) (b := bi) (o := oi) (xs := xs k) (fun j x hx => by rw [hBb.out.cell (p := ⟨bi, oi + j, none⟩) (show bi < G from hbi)]; exact hxs j x hx)
          have hSrc := Lib.hid hsrc
          have hs := Lib.hid (hStepL.out k)
          have hst := Lib.hid (hStep.out k)
          have hgs : G ≤ wr.heap.size := by have := hBb.out.size; rw [hGG.out] at this; exact this
          have hone := ints_cellG (xs k)
          have hlm : ((xs k).map (Value.int .i64)).length = (xs k).length * 1 := by rw [List.length_map, Nat.mul_one]
          have hl := hLn.out k hk
          have hp := hPos.out k hlt
          have hkn : (k : Int) < (n : Int) := by omega
          clear hxs hsrc
          generalize (cat xs k).length = z at *
          generalize (xs k).length = y at *
          go_wp2_with (at_builtin; refine wpList_append_own _ rfl _ _ _ rfl G 2 i0 (.int .i64 0) 1 8 Try.underlying22 hi hz0 hz1 hz2 rfl (by decide) _ z _ rfl hO.out ⟨bi, oi, none⟩ y ci ((xs k).map (Value.int .i64)) rfl hlm hSrc.out hone (by unfold maxLen; omega) (by omega) hgs ?_; intro v8 w8 hown8 hgrow8 hnil8; have hB8 := Lib.hid (hBb.out.grown hgrow8 hgs (fun q hq => (hO.out.lt q hq).1)); have hO8 := Lib.hid (show w8.ownsRow G 2 1 v8 (cat xs (k + 1)).length ((cat xs (k + 1)).map (Value.int .i64)) by rw [hs.out, hst.out, List.map_append]; exact hown8); clear hown8 hgrow8 hnil8)
          go_roundw
          case rel => exact ⟨k + 1, by omega, by go_num, hO8, hB8⟩
          case measure => simp [intOf]; omega
        · obtain rfl : n = k := by omega
          have hO9 := hO.out
          rw [hTh.out] at hO9
          have hO10 := Lib.hid hO9
          clear hO9 hO
          go_wp2_with fail
          go_ret
          exact ⟨_, rfl, by have := hO10.out; rw [← hGG.out, ← hTh.out] at this; exact this, by have := hBb.out; rw [← hGG.out] at this; exact this⟩
theorem concat_any (b o n cap : Nat) (xs : Nat → List Int) (w : World) (hb : b < w.heap.size) (hn : 1 ≤ n) (hn2 : n ≤ 1000)
    (hrow : ∀ i, i < n → ∃ bi oi ci, w.cell? ⟨b, o + i, none⟩ = some (.slice (some ⟨bi, oi, none⟩) (xs i).length ci) ∧ bi < w.heap.size ∧ ∀ (j : Nat) (x : Int), (xs i)[j]? = some x → w.cell? ⟨bi, oi + j, none⟩ = some (.int .i64 x))
    (hpos : ∀ i, i < n → 1 ≤ (xs i).length ∧ (xs i).length ≤ 1000) :
    Calls Try.prog 104 #[.slice (some ⟨b, o, none⟩) n cap] w fun e w' => ∃ v', e = .returned v' ∧ w'.ownsRow w.heap.size 2 1 v' (cat xs n).length ((cat xs n).map (Value.int .i64)) ∧ Below w.heap.size w w' :=
  concat0_any b o n cap xs w hb hn hn2 hrow (fun i hi => (hpos i hi).2) (by
    obtain ⟨m, rfl⟩ : ∃ m, n = m + 1 := ⟨n - 1, by omega⟩
    have := (hpos m (Nat.lt_succ_self m)).1
    show 1 ≤ (cat xs m ++ xs m).length
    rw [List.length_append]; omega)
end Go.Proofs.Ytpnndajfaghaaaa
