/- Contracts: the rules of a ring as they are gone, in the program. No condition. -/
import Derived.Test.YtkjnkomljhlbpaaGonePure
import Derived.Test.YtkjnkomljhlbpaaBools
import Derived.Test.YtkjnkomljhlbpaaBlk
import Derived.Deep.RegionHeld3
namespace Go.Proofs.Ytkjnkomljhlbpaa
open Go.RowKit Go.Lst

def aggRule (x : RuleD) : Value := .agg #[.int .i64 x.From, .int .i64 x.To, .int .i64 x.Least, .int .i64 x.Most]
set_option maxHeartbeats 1000000 in
theorem goneBy_any (x1 x2 x3 x4 : Int) (b : Bool) (w : World) (h1 : -1000 ≤ x3 ∧ x3 ≤ 1000) (h2 : -1000 ≤ x4 ∧ x4 ≤ 1000) : Calls Try.prog 26 #[.agg #[.int .i64 x1, .int .i64 x2, .int .i64 x3, .int .i64 x4], .bool b] w fun e w' => e = .returned (aggRule (goneD ⟨x1, x2, x3, x4⟩ b)) ∧ Below w.heap.size w w' := by
  obtain ⟨h1a, h1b⟩ := h1
  obtain ⟨h2a, h2b⟩ := h2
  have hW := Whole.made w 41 #[.int .i64 x1, .int .i64 x2, .int .i64 x3, .int .i64 x4] rfl
  have hW2 := hW.more (Obj.cells #[.int .i64 0, .int .i64 0, .int .i64 0, .int .i64 0] 41)
  have c0 := hW2.at_ (i := 0) rfl
  have c1 := hW2.at_ (i := 1) rfl
  have c2 := hW2.at_ (i := 2) rfl
  have c3 := hW2.at_ (i := 3) rfl
  cases b
  · have hZ := Whole.made (w.alloc (.cells #[.int .i64 x1, .int .i64 x2, .int .i64 x3, .int .i64 x4] 41)) 41 #[.int .i64 x2, .int .i64 x1, .int .i64 (-x4), .int .i64 (-x3)] (b := w.heap.size + 1) (by simp)
    have r0 := hZ.at_ (i := 0) rfl
    have r1 := hZ.at_ (i := 1) rfl
    have r2 := hZ.at_ (i := 2) rfl
    have r3 := hZ.at_ (i := 3) rfl
    clear hZ
    go_enter Try.func26, Try.ntmps26
    go_wp2_with fail
    exact bodyPost_ret (v := .agg #[.int .i64 x2, .int .i64 x1, .int .i64 (-x4), .int .i64 (-x3)]) (by simp [results, Try.results26, go_sem, r0, r1, r2, r3]) rfl ⟨rfl, below_alloc (below_alloc (Below.refl _ _) _) _⟩
  · have hZ := Whole.made (w.alloc (.cells #[.int .i64 x1, .int .i64 x2, .int .i64 x3, .int .i64 x4] 41)) 41 #[.int .i64 x1, .int .i64 x2, .int .i64 x3, .int .i64 x4] (b := w.heap.size + 1) (by simp)
    have r0 := hZ.at_ (i := 0) rfl
    have r1 := hZ.at_ (i := 1) rfl
    have r2 := hZ.at_ (i := 2) rfl
    have r3 := hZ.at_ (i := 3) rfl
    clear hZ
    go_enter Try.func26, Try.ntmps26
    go_wp2_with fail
    exact bodyPost_ret (v := .agg #[.int .i64 x1, .int .i64 x2, .int .i64 x3, .int .i64 x4]) (by simp [results, Try.results26, go_sem, r0, r1, r2, r3]) rfl ⟨rfl, below_alloc (below_alloc (Below.refl _ _) _) _⟩
def RingPost (xs : List RuleD) (rs : List Int) (bs : List Bool) (w : World) (e : Ending) (w' : World) : Prop :=
  (ringOk xs rs bs = false ∧ e = .returned (.tuple #[.slice none 0 0, .bool false]) ∧ Below w.heap.size w w') ∨
  (ringOk xs rs bs = true ∧ ∃ v', e = .returned (.tuple #[v', .bool true]) ∧ Own w.heap.size w'.heap.size w' v' 41 4 rs.length (cellsRule (goneTo xs rs bs rs.length)) ∧ Below w.heap.size w w')
theorem row_grown {n : Nat} {ys : List Value} (_ : ys.length = n) (w : World) (b i : Nat) (v : Value) : w.grownBy (w.setCell ⟨b, i, none⟩ v) (some b) := ⟨rfl, rfl, rfl, by simp [World.setCell], fun k hk hne => Below.heap_setCell w ⟨b, i, none⟩ v k (fun e => hne (by rw [e]))⟩
theorem lit32 : #[Value.bool false, .bool false, .bool false, .bool false, .bool false, .bool false, .bool false, .bool false, .bool false, .bool false, .bool false, .bool false, .bool false, .bool false, .bool false, .bool false, .bool false, .bool false, .bool false, .bool false, .bool false, .bool false, .bool false, .bool false, .bool false, .bool false, .bool false, .bool false, .bool false, .bool false, .bool false, .bool false] = Array.replicate 32 (Value.bool false) := by kernel_rfl
def TakenIn (rs : List Int) (k : Nat) (cs : Array Value) : Prop := cs.size = 32 ∧ ∀ j, j < 32 → cs[j]? = some (.bool ((rs.take k).contains (j : Int)))
theorem takenIn_zero (rs : List Int) : TakenIn rs 0 (Array.replicate 32 (Value.bool false)) := ⟨by simp, fun j hj => by simp [hj]⟩
theorem takenIn_put {rs : List Int} {k q : Nat} {cs : Array Value} (h : TakenIn rs k cs) (hk : k < rs.length) (hq : rs.getD k 0 = (q : Int)) : TakenIn rs (k + 1) (cs.setIfInBounds q (.bool true)) := by
  refine ⟨by simp [h.1], fun j hj => ?_⟩
  have e : rs.take (k + 1) = rs.take k ++ [(q : Int)] := by
    rw [List.take_add_one, List.getElem?_eq_getElem hk]
    rw [List.getD_eq_getElem?_getD, List.getElem?_eq_getElem hk] at hq
    simp at hq
    simp [hq]
  rw [e, Array.getElem?_setIfInBounds]
  by_cases hjq : q = j
  · subst hjq
    rw [if_pos rfl, if_pos (by rw [h.1]; exact hj)]
    simp
  · rw [if_neg hjq, h.2 j hj]
    have : ¬ ((j : Int) = (q : Int)) := by omega
    simp [this]
set_option maxHeartbeats 8000000 in
set_option maxRecDepth 100000 in
theorem goneRing_run (B : Nat) (v vr vb : Value) (xs : List RuleD) (e p : Int) (rs : List Int) (bs : List Bool) (w : World) (h : LstRule B w v xs) (hr : LstI B w vr rs) (hb : LstB B w vb bs) (hB : B ≤ w.heap.size) (hok : ∀ (i : Nat) (x : RuleD), xs[i]? = some x → okRule e p x = true) (hp : 1 ≤ p ∧ p ≤ 60) (hx32 : xs.length ≤ 32) (hq2 : ringLen rs bs = true) :
    Calls Try.prog 18 #[v, vr, vb] w (RingPost xs rs bs w) := by
  have l123 : 1 ≤ rs.length ∧ rs.length ≤ 32 ∧ bs.length = rs.length := by unfold ringLen at hq2; simp only [Bool.and_eq_true, decide_eq_true_eq] at hq2; exact ⟨hq2.1.1, hq2.1.2, hq2.2⟩
  obtain ⟨l1, l32, hbl⟩ := l123
  have hRo : ringOk xs rs bs = (freshTo xs.length rs rs.length && joinTo xs rs bs rs.length && ringShut xs rs bs) := by unfold ringOk; rw [hq2, Bool.true_and]
  have hP : Hid (ringOk xs rs bs = false → ∀ w', Below w.heap.size w w' → RingPost xs rs bs w (.returned (.tuple #[.slice none 0 0, .bool false])) w') := Lib.hid fun h1 w' h2 => .inl ⟨h1, rfl, h2⟩
  have hPy : Hid (ringOk xs rs bs = true → ∀ (w' : World) (v' : Value), Own w.heap.size w'.heap.size w' v' 41 4 rs.length (cellsRule (goneTo xs rs bs rs.length)) → Below w.heap.size w w' → RingPost xs rs bs w (.returned (.tuple #[v', .bool true])) w') := Lib.hid fun h1 w' v' h3 h2 => .inr ⟨h1, v', rfl, h3, h2⟩
  generalize RingPost xs rs bs w = Q at *
  rw [hRo] at hP hPy
  obtain ⟨a1, c1, rfl, hl1, _, _, hc1⟩ := h.at_
  obtain ⟨a2, c2, rfl, hl2, hc2a, hc2b, hc2l, hc2⟩ := id hr
  obtain ⟨b2, o2, rfl, hb2B, hc2c⟩ := hc2 (by omega)
  obtain ⟨a3, c3, rfl, hl3, hc3a, hc3b, hc3l, hc3⟩ := id hb
  obtain ⟨b3, o3, rfl, hb3B, hc3c⟩ := hc3 (by omega)
  have hRing : Hid (∀ k, k < rs.length → w.cell? ⟨b2, o2 + k, none⟩ = some (.int .i64 (rs.getD k 0))) := Lib.hid fun k hk => hc2c k _ (by rw [List.getElem?_map, List.getD_eq_getElem?_getD, List.getElem?_eq_getElem hk]; rfl)
  have hAlong : Hid (∀ k, k < rs.length → w.cell? ⟨b3, o3 + k, none⟩ = some (.bool (bs.getD k false))) := Lib.hid fun k hk => hc3c k _ (by rw [List.getElem?_map, List.getD_eq_getElem?_getD, List.getElem?_eq_getElem (by omega : k < bs.length)]; rfl)
  have hRl : Hid (∀ q, q < xs.length → ∃ b o x, a1 = some ⟨b, o, none⟩ ∧ b < B ∧ xs[q]? = some x ∧ w.cell? ⟨b, o + q * 4, none⟩ = some (.int .i64 x.From) ∧ w.cell? ⟨b, o + q * 4 + 1, none⟩ = some (.int .i64 x.To) ∧ w.cell? ⟨b, o + q * 4 + 2, none⟩ = some (.int .i64 x.Least) ∧ w.cell? ⟨b, o + q * 4 + 3, none⟩ = some (.int .i64 x.Most)) := Lib.hid hc1
  have hNf : Hid (∀ k, k < rs.length → freshAt xs.length rs k = false → freshTo xs.length rs rs.length = false) := Lib.hid fun k hk hf => freshTo_no hf hk
  have hOk := Lib.hid hok
  have hFs : Hid (∀ k, freshTo xs.length rs (k + 1) = (freshTo xs.length rs k && freshAt xs.length rs k)) := Lib.hid fun k => freshTo_succ _ _ _
  have hF0 : Hid (freshTo xs.length rs 0 = true) := Lib.hid rfl
  have hFa : Hid (∀ k y hs, rs.getD k 0 = y → (rs.take k).contains y = hs → freshAt xs.length rs k = (inB y 0 ((xs.length : Int) - 1) && !hs)) := Lib.hid fun k y hs h1 h2 => by subst h1; subst h2; rfl
  have hRa : Hid (∀ k (q : Nat) x, rs.getD k 0 = (q : Int) → xs[q]? = some x → ringAt xs rs bs k = goneD x (bs.getD k false)) := Lib.hid fun k q x h1 h2 => by
    unfold ringAt; rw [h1, Int.toNat_natCast, List.getD_eq_getElem?_getD, h2]; rfl
  have hGl := Lib.hid (goneTo_length xs rs bs rs.length)
  have hGg : Hid (∀ k, k < rs.length → (goneTo xs rs bs rs.length)[k]? = some (ringAt xs rs bs k)) := Lib.hid fun k hk => goneTo_get hk
  have hAll : Hid (∀ ys : List Value, ys.length = rs.length * 4 → UptoRule (cellsRule (goneTo xs rs bs rs.length)) rs.length ys → ys = cellsRule (goneTo xs rs bs rs.length)) := Lib.hid fun ys h1 h2 => uptoRule_all (by rw [hGl.out]; exact h1) (by rw [hGl.out]; exact h2)
  have hTp : Hid (∀ (k q : Nat) (cs : Array Value), TakenIn rs k cs → k < rs.length → rs.getD k 0 = (q : Int) → TakenIn rs (k + 1) (cs.setIfInBounds q (.bool true))) := Lib.hid fun k q cs h1 h2 h3 => takenIn_put h1 h2 h3
  rw [show bs.length = rs.length from hbl]
  obtain ⟨i0, hi, hz0, hz1, hz2⟩ := info_parts infoRule
  have hW1 := Lib.hid (Whole.made w 52 (Array.replicate 32 (Value.bool false)) rfl)
  rw [← lit32] at hW1
  have hb1 := Lib.hid (below_alloc (Below.refl w.heap.size w) (.cells (Array.replicate 32 (Value.bool false)) 52))
  rw [← lit32] at hb1
  have hc0 := Lib.hid (takenIn_zero rs)
  rw [← lit32] at hc0
  clear h hr hb hc1 hc2 hc3 hc2c hc3c hok hRo hq2
  generalize hgn : goneTo xs rs bs rs.length = gs at *
  generalize freshTo xs.length rs = fT at *
  generalize xs.length = m at *
  generalize hn : rs.length = n at *
  unfold maxLen at hl1
  have e1 : ¬ (n : Int) < 1 := by omega
  have e2 : ¬ (32 : Int) < (n : Int) := by omega
  go_enter Try.func18, Try.ntmps18
  go_wp2_with (at_make; refine wpList_make_full _ rfl _ _ _ rfl w.heap.size _ i0 (.agg #[.int .i64 0, .int .i64 0, .int .i64 0, .int .i64 0]) 4 Try.underlying28 hi hz0 hz1 _ _ _ _ n rfl rfl rfl rfl ?c1 ?c2 ?c3 ?_)
  case c1 => first | omega | (rw [hz2]; omega)
  intro w0 hown0 hg0
  have hT0 := Lib.hid (hW1.out.beside hg0 (by simp))
  have hB0 := Lib.hid (hb1.out.grown hg0 hb1.out.size (fun k hk => by cases hk))
  generalize (madeCells _ _).toList = ys0 at hown0
  have hO := Lib.hid hown0
  clear hown0 hg0 hz0 hz1 hz2 hi hW1 hb1
  go_wp2_with fail
  go_loopw [35] (fun iv wr => ∃ (k : Nat) (ys : List Value) (cs : Array Value), k ≤ n ∧ iv = .int .i64 (k : Nat) ∧ Hid (fT k = true) ∧ Hid (UptoRule (cellsRule gs) k ys) ∧ Hid (wr.ownsRow w.heap.size 41 4 (.slice (some ⟨w.heap.size + 1, 0, none⟩) n n) n ys) ∧ Hid (Whole wr w.heap.size 52 cs) ∧ Hid (TakenIn rs k cs) ∧ Hid (Below w.heap.size w wr)) (fun iv _ => n - (intOf iv).toNat)
  case atStart => exact ⟨0, ys0, _, Nat.zero_le _, rfl, hF0, Lib.hid (fun i hi => by omega), hO, hT0, hc0, hB0⟩
  case round =>
    clear hO hT0 hB0 hc0 hF0
    obtain ⟨k, ys, cs, hk, rfl, hF, hU, hO, hT, hTk, hB⟩ := hrel
    by_cases hlt : k < n
    · have y1 : (k : Int) < (n : Int) := by omega
      have hcell := (hB.out.cell (p := ⟨b2, o2 + k, none⟩) (show b2 < w.heap.size by omega)).trans (hRing.out k hlt)
      have hal0 := hAlong.out k hlt
      obtain ⟨y, hy0⟩ : ∃ y, y = rs.getD k 0 := ⟨_, rfl⟩
      obtain ⟨hs, hhs⟩ : ∃ hs, hs = (rs.take k).contains y := ⟨_, rfl⟩
      have hfa := hFa.out k y hs hy0.symm hhs.symm
      rw [← hy0] at hcell
      have hW := Lib.hid (fun ww => isWithin_any y 0 ((m : Int) - 1) ww)
      cases hq : inB y 0 ((m : Int) - 1)
      · rw [hq] at hW hfa
        rw [Bool.false_and] at hfa
        have hV := Lib.hid (hP.out (by rw [hNf.out k hlt hfa]; rfl))
        clear hfa hy0 hhs hal0
        go_wp2_with (go_at_call 22; (with_reducible refine (hW.out _).mono ?_); rintro e' w5 ⟨rfl, rfl⟩)
        first | exact hV.out _ hB.out | (go_ret2; exact hV.out _ hB.out)
      · obtain ⟨q, rfl⟩ : ∃ q : Nat, y = (q : Int) := ⟨y.toNat, by have := (inB_true hq).1; omega⟩
        have hqm : q < m := by have := (inB_true hq).2; omega
        have y2 : (q : Int) < (m : Int) := by omega
        have y3 : (q : Int) < 32 := by omega
        have htc := hT.out.at_ (i := q) (hTk.out.2 q (by omega))
        rw [← hhs] at htc
        rw [hq] at hW hfa
        rw [Bool.true_and] at hfa
        cases hs
        · have hfT := Lib.hid (show fT (k + 1) = true by rw [hFs.out k, hF.out, hfa]; rfl)
          have hy := Lib.hid hy0.symm
          clear hfa hhs hy0
          have hfz := hT.out.free q
          obtain ⟨b, o, x, rfl, hbB, hx, h0, h1, h2, h3⟩ := hRl.out q hqm
          have ho := okRule_of (hOk.out q x hx)
          have hGg1 := hGg.out k hlt
          rw [hRa.out k q x hy.out hx] at hGg1
          have hU1 := Lib.hid (uptoRule_step hGg1 (by rw [hGl.out]; exact hO.out.1) hU.out)
          obtain ⟨bv, hbv⟩ : ∃ bv, bv = bs.getD k false := ⟨_, rfl⟩
          rw [← hbv] at hal0 hU1
          have hgb := Lib.hid (fun ww => goneBy_any x.From x.To x.Least x.Most bv ww (by omega) (by omega))
          have hTk2 := Lib.hid (hTp.out k q cs hTk.out hlt hy.out)
          clear hGg1 hbv hx ho
          obtain ⟨x1, x2, x3, x4⟩ := x
          simp only at h0 h1 h2 h3 hgb
          obtain ⟨⟨y1', y2', y3', y4'⟩, hgd⟩ : ∃ gd, gd = goneD ⟨x1, x2, x3, x4⟩ bv := ⟨_, rfl⟩
          rw [← hgd] at hgb hU1
          have hgb2 : Hid (∀ ww, Calls Try.prog 26 #[.agg #[.int .i64 x1, .int .i64 x2, .int .i64 x3, .int .i64 x4], .bool bv] ww fun e w' => e = .returned (.agg #[.int .i64 y1', .int .i64 y2', .int .i64 y3', .int .i64 y4']) ∧ Below ww.heap.size ww w') := hgb
          clear hgd hgb
          go_wp2_with (go_at_call 22; (with_reducible refine (hW.out _).mono ?_); rintro e' w5 ⟨rfl, rfl⟩)
          have hO7 := Lib.hid (hO.out.kept (row_grown hO.out.1 wr w.heap.size q (.bool true)) (.inr (by intro e; (have e2 : some (w.heap.size + 1) = some w.heap.size := e); injection e2 with e2; omega)))
          have hT7 := Lib.hid (hT.out.put q (.bool true))
          have hB7 := Lib.hid (hB.out.setCell (p := ⟨w.heap.size, q, none⟩) (Nat.le_refl _) (.bool true))
          have hS0 : Hid (∀ w' : World, Below w.heap.size w w' → (w'.cell? ⟨b, o + q * 4, none⟩ = some (.int .i64 x1) ∧ w'.cell? ⟨b, o + q * 4 + 1, none⟩ = some (.int .i64 x2) ∧ w'.cell? ⟨b, o + q * 4 + 2, none⟩ = some (.int .i64 x3) ∧ w'.cell? ⟨b, o + q * 4 + 3, none⟩ = some (.int .i64 x4) ∧ w'.cell? ⟨b3, o3 + k, none⟩ = some (.bool bv)) ∧ Below w.heap.size w w') := Lib.hid fun w' hb => ⟨⟨(hb.cell (p := ⟨b, o + q * 4, none⟩) (show b < w.heap.size by omega)).trans h0, (hb.cell (p := ⟨b, o + q * 4 + 1, none⟩) (show b < w.heap.size by omega)).trans h1, (hb.cell (p := ⟨b, o + q * 4 + 2, none⟩) (show b < w.heap.size by omega)).trans h2, (hb.cell (p := ⟨b, o + q * 4 + 3, none⟩) (show b < w.heap.size by omega)).trans h3, (hb.cell (p := ⟨b3, o3 + k, none⟩) (show b3 < w.heap.size by omega)).trans hal0⟩, hb⟩
          generalize wr.setCell ⟨w.heap.size, q, none⟩ (.bool true) = w7 at *
          clear hcell htc hfz h0 h1 h2 h3 hal0 hO hT hB
          go_region_held3 (fun w' => (w'.cell? ⟨b, o + q * 4, none⟩ = some (.int .i64 x1) ∧ w'.cell? ⟨b, o + q * 4 + 1, none⟩ = some (.int .i64 x2) ∧ w'.cell? ⟨b, o + q * 4 + 2, none⟩ = some (.int .i64 x3) ∧ w'.cell? ⟨b, o + q * 4 + 3, none⟩ = some (.int .i64 x4) ∧ w'.cell? ⟨b3, o3 + k, none⟩ = some (.bool bv)) ∧ Below w.heap.size w w')
            ((first | exact hS0.out _ hB7.out | exact hS0.out _ hB7.out.drew | exact hS0.out _ hBst.out | exact hS0.out _ hB9.out))
            ((go_at_call 26; (with_reducible refine (hgb2.out _).mono ?_); rintro e' w9 ⟨rfl, hb9⟩; (first | (have hX9 := Lib.hid (show Below w7.heap.size w7 w9 from Below.trans (Below.refl w7.heap.size w7).drew hb9)) | (have hX9 := Lib.hid (show Below w7.heap.size w7 w9 from hb9))); have hO9 := Lib.hid (ownsRow_kept hO7.out hX9.out); have hT9 := Lib.hid (hT7.out.kept hX9.out); have hB9 := Lib.hid (below_on hB7.out (Nat.le_refl _) hX9.out);
              have hy9 := hO9.out.1; obtain ⟨u0, hd0⟩ : ∃ u, w9.cell? ⟨w.heap.size + 1, k * 4, none⟩ = some u := ⟨_, (hO9.out.cellAt (k * 4 + 0) (by omega)).trans (List.getElem?_eq_getElem (by omega))⟩; have hf0 : w9.frozen? ⟨w.heap.size + 1, k * 4, none⟩ = false := hO9.out.frozenAt (k * 4 + 0);
              obtain ⟨u1, hd1⟩ : ∃ u, w9.cell? ⟨w.heap.size + 1, k * 4 + 1, none⟩ = some u := ⟨_, (hO9.out.cellAt (k * 4 + 1) (by omega)).trans (List.getElem?_eq_getElem (by omega))⟩; have hf1 : w9.frozen? ⟨w.heap.size + 1, k * 4 + 1, none⟩ = false := hO9.out.frozenAt (k * 4 + 1);
              obtain ⟨u2, hd2⟩ : ∃ u, w9.cell? ⟨w.heap.size + 1, k * 4 + 2, none⟩ = some u := ⟨_, (hO9.out.cellAt (k * 4 + 2) (by omega)).trans (List.getElem?_eq_getElem (by omega))⟩; have hf2 : w9.frozen? ⟨w.heap.size + 1, k * 4 + 2, none⟩ = false := hO9.out.frozenAt (k * 4 + 2);
              obtain ⟨u3, hd3⟩ : ∃ u, w9.cell? ⟨w.heap.size + 1, k * 4 + 3, none⟩ = some u := ⟨_, (hO9.out.cellAt (k * 4 + 3) (by omega)).trans (List.getElem?_eq_getElem (by omega))⟩; have hf3 : w9.frozen? ⟨w.heap.size + 1, k * 4 + 3, none⟩ = false := hO9.out.frozenAt (k * 4 + 3);
              have hst := Lib.hid (ownsRow_setMany (j := k * 4) (us := RuleD.row ⟨y1', y2', y3', y4'⟩) hO9.out); have hTst := Lib.hid (hT9.out.beside hst.out.2 (by intro e; injection e with e; omega)); have hBst := Lib.hid (setMany_below (g := w.heap.size + 1) (j := k * 4) (us := RuleD.row ⟨y1', y2', y3', y4'⟩) hB9.out (by omega)); clear hy9 hb9))
          all_goals (try go_wp2_with fail)
          all_goals go_roundw
          case rel => exact ⟨k + 1, _, _, by omega, by go_num, hfT, hU1, Lib.hid hst.out.1, hTst, hTk2, hBst⟩
          case measure => simp [intOf]; omega
        · have hV := Lib.hid (hP.out (by rw [hNf.out k hlt hfa]; rfl))
          clear hfa hy0 hhs hal0
          go_wp2_with (go_at_call 22; (with_reducible refine (hW.out _).mono ?_); rintro e' w5 ⟨rfl, rfl⟩)
          first | exact hV.out _ hB.out | (go_ret2; exact hV.out _ hB.out)
    · obtain rfl : k = n := by omega
      have hge : ¬ (k : Int) < (k : Int) := by omega
      have hys := hAll.out ys hO.out.1 hU.out
      subst hys
      have hCg : Hid (∀ i x, gs[i]? = some x → wr.cell? ⟨w.heap.size + 1, i * 4, none⟩ = some (.int .i64 x.From) ∧ wr.cell? ⟨w.heap.size + 1, i * 4 + 1, none⟩ = some (.int .i64 x.To) ∧ wr.cell? ⟨w.heap.size + 1, i * 4 + 2, none⟩ = some (.int .i64 x.Least) ∧ wr.cell? ⟨w.heap.size + 1, i * 4 + 3, none⟩ = some (.int .i64 x.Most)) := Lib.hid fun i x hx => by
        have hi : i < k := by have := (List.getElem?_eq_some_iff.1 hx).1; rw [hGl.out] at this; exact this
        exact ⟨(hO.out.cellAt (i * 4 + 0) (by omega)).trans (cellsRule_get gs i 0 x hx (by omega)), (hO.out.cellAt (i * 4 + 1) (by omega)).trans (cellsRule_get gs i 1 x hx (by omega)), (hO.out.cellAt (i * 4 + 2) (by omega)).trans (cellsRule_get gs i 2 x hx (by omega)), (hO.out.cellAt (i * 4 + 3) (by omega)).trans (cellsRule_get gs i 3 x hx (by omega))⟩
      have hgG : w.heap.size + 1 < wr.heap.size := (hO.out.lt _ rfl).2
      obtain ⟨z0, z1, z2, z3⟩ := hCg.out (k - 1) _ (hGg.out (k - 1) (by omega))
      have hLi : Hid (∀ i, (if i = 0 then k - 1 else i - 1) = (if i = 0 then k - 1 else i - 1)) := Lib.hid fun _ => rfl
      clear hT hTk hTp
      go_wp2_with fail
      have hwg : w.heap.size ≤ wr.heap.size := hB.out.size
      have hBs := Lib.hid (below_alloc (Below.refl wr.heap.size wr) (.cells #[.int .i64 (ringAt xs rs bs (k - 1)).From, .int .i64 (ringAt xs rs bs (k - 1)).To, .int .i64 (ringAt xs rs bs (k - 1)).Least, .int .i64 (ringAt xs rs bs (k - 1)).Most] 41))
      have hLs := Lib.hid (Whole.made wr 41 #[.int .i64 (ringAt xs rs bs (k - 1)).From, .int .i64 (ringAt xs rs bs (k - 1)).To, .int .i64 (ringAt xs rs bs (k - 1)).Least, .int .i64 (ringAt xs rs bs (k - 1)).Most] rfl)
      have hOs : Hid (∀ wq, Below wr.heap.size wr wq → wq.ownsRow w.heap.size 41 4 (.slice (some ⟨w.heap.size + 1, 0, none⟩) k k) k (cellsRule gs)) := Lib.hid fun wq hb => ownsRow_kept hO.out hb
      generalize hGLx : wr.heap.size = gL at *
      have hGL := Lib.hid hGLx
      clear hGLx
      go_loopw [74] (fun iv wq => ∃ i : Nat, i ≤ k ∧ iv = .int .i64 (i : Nat) ∧ Hid (joinTo xs rs bs i = true ∧ (1 ≤ i → ringShut xs rs bs = true)) ∧ Hid (Whole wq gL 41 #[.int .i64 (ringAt xs rs bs (if i = 0 then k - 1 else i - 1)).From, .int .i64 (ringAt xs rs bs (if i = 0 then k - 1 else i - 1)).To, .int .i64 (ringAt xs rs bs (if i = 0 then k - 1 else i - 1)).Least, .int .i64 (ringAt xs rs bs (if i = 0 then k - 1 else i - 1)).Most]) ∧ Hid (Below gL wr wq)) (fun iv _ => k - (intOf iv).toNat)
      case atStart => exact ⟨0, Nat.zero_le _, rfl, Lib.hid ⟨rfl, fun h => by omega⟩, hLs, hBs⟩
      case round =>
        obtain ⟨i, hik, rfl, hJ, hL, hBq⟩ := hrel
        have hgq : gL ≤ wr.heap.size := by have := hBq.out.size; rw [hGL.out] at this; exact this
        by_cases hlt2 : i < k
        · have v1 : (i : Int) < (k : Int) := by omega
          obtain ⟨t0, t1, t2, t3⟩ := hCg.out i _ (hGg.out i hlt2)
          have g0 := (hBq.out.cell (p := ⟨w.heap.size + 1, i * 4, none⟩) hgG).trans t0
          have g1 := (hBq.out.cell (p := ⟨w.heap.size + 1, i * 4 + 1, none⟩) hgG).trans t1
          have g2 := (hBq.out.cell (p := ⟨w.heap.size + 1, i * 4 + 2, none⟩) hgG).trans t2
          have g3 := (hBq.out.cell (p := ⟨w.heap.size + 1, i * 4 + 3, none⟩) hgG).trans t3
          clear t0 t1 t2 t3 z0 z1 z2 z3
          have hJi : Hid (i = 0 ∨ joinAt xs rs bs i = ((ringAt xs rs bs i).From == (ringAt xs rs bs (if i = 0 then k - 1 else i - 1)).To)) := Lib.hid (by
            by_cases h0 : i = 0
            · exact .inl h0
            · refine .inr ?_; rw [if_neg h0]; unfold joinAt; rw [show (i == 0) = false by rw [beq_eq_false_iff_ne]; exact h0, Bool.false_or])
          have hSi : Hid (i = 0 → joinAt xs rs bs i = true ∧ ringShut xs rs bs = ((ringAt xs rs bs i).From == (ringAt xs rs bs (if i = 0 then k - 1 else i - 1)).To)) := Lib.hid (fun h0 => by
            rw [if_pos h0]; subst h0; refine ⟨rfl, ?_⟩; unfold ringShut; rw [hn])
          have hJs := Lib.hid (joinTo_succ xs rs bs i)
          have hNj : Hid (joinAt xs rs bs i = false → joinTo xs rs bs k = false) := Lib.hid fun hf => joinTo_no hf hlt2
          have hnext : Hid ((if i + 1 = 0 then k - 1 else i + 1 - 1) = i) := Lib.hid (by rw [if_neg (by omega)]; omega)
          generalize (ringAt xs rs bs (if i = 0 then k - 1 else i - 1)) = pv at *
          obtain ⟨x, hxr⟩ : ∃ x, x = ringAt xs rs bs i := ⟨_, rfl⟩
          rw [← hxr] at hJi hSi g0 g1 g2 g3
          have hXr := Lib.hid hxr
          clear hxr
          have l1' := (hL.out.more (.cells #[.int .i64 x.From, .int .i64 x.To, .int .i64 x.Least, .int .i64 x.Most] 41))
          have n1' := Whole.made wr 41 #[.int .i64 x.From, .int .i64 x.To, .int .i64 x.Least, .int .i64 x.Most] rfl
          have hLm := Lib.hid l1'
          have k0 := l1'.at_ (i := 0) rfl
          have k1 := l1'.at_ (i := 1) rfl
          have k2 := l1'.at_ (i := 2) rfl
          have k3 := l1'.at_ (i := 3) rfl
          have q0 := l1'.free 0
          have q1 := l1'.free 1
          have q2 := l1'.free 2
          have q3 := l1'.free 3
          have m0 := n1'.at_ (i := 0) rfl
          have m1 := n1'.at_ (i := 1) rfl
          have m2 := n1'.at_ (i := 2) rfl
          have m3 := n1'.at_ (i := 3) rfl
          clear l1' n1'
          obtain ⟨x1, x2, x3, x4⟩ := x
          obtain ⟨v1', v2', v3', v4'⟩ := pv
          simp only at *
          by_cases heq : x1 = v2'
          · have hJ2 := Lib.hid (show joinTo xs rs bs (i + 1) = true ∧ (1 ≤ i + 1 → ringShut xs rs bs = true) from by
              rw [hJs.out, hJ.out.1]
              by_cases h0 : i = 0
              · have := hSi.out h0
                refine ⟨by rw [this.1]; rfl, fun _ => by rw [this.2, heq]; simp⟩
              · refine ⟨?_, fun _ => hJ.out.2 (by omega)⟩
                rcases hJi.out with h | h
                · exact absurd h h0
                · rw [h, heq]; simp)
            subst heq
            have hLp := Lib.hid ((((hLm.out.put 0 (.int .i64 x1)).put 1 (.int .i64 x2)).put 2 (.int .i64 x3)).put 3 (.int .i64 x4))
            have hBp := Lib.hid (((((hBq.out.alloc hgq (.cells #[.int .i64 x1, .int .i64 x2, .int .i64 x3, .int .i64 x4] 41)).setCell (p := ⟨gL, 0, none⟩) (Nat.le_refl _) (.int .i64 x1)).setCell (p := ⟨gL, 1, none⟩) (Nat.le_refl _) (.int .i64 x2)).setCell (p := ⟨gL, 2, none⟩) (Nat.le_refl _) (.int .i64 x3)).setCell (p := ⟨gL, 3, none⟩) (Nat.le_refl _) (.int .i64 x4))
            go_wp2_with fail
            go_roundw
            case rel => exact ⟨i + 1, by omega, by go_num, hJ2, Lib.hid (by rw [hnext.out, ← hXr.out]; exact hLp.out), hBp⟩
            case measure => simp [intOf]; omega
          · have hV := Lib.hid (hP.out (by
              by_cases h0 : i = 0
              · rw [(hSi.out h0).2, beq_eq_false_iff_ne.2 heq]; simp
              · rcases hJi.out with h | h
                · exact absurd h h0
                · rw [hNj.out (by rw [h, beq_eq_false_iff_ne]; exact heq)]; simp))
            have hBz := Lib.hid (hB.out.trans ((hBq.out.alloc hgq (.cells #[.int .i64 x1, .int .i64 x2, .int .i64 x3, .int .i64 x4] 41)).mono hwg))
            go_wp2_with fail
            first | exact hV.out _ hBz.out | (go_ret2; exact hV.out _ hBz.out)
        · obtain rfl : i = k := by omega
          have hge2 : ¬ (i : Int) < (i : Int) := by omega
          have hR := Lib.hid (hPy.out (by rw [hF.out, hJ.out.1, hJ.out.2 (by omega)]; rfl))
          have hOq := Lib.hid (hOs.out _ hBq.out)
          have hBz := Lib.hid (hB.out.trans (hBq.out.mono hwg))
          clear z0 z1 z2 z3
          go_wp2_with fail
          first | exact hR.out _ _ (Lst.Own.new hOq.out (by unfold maxLen; omega)) hBz.out | (go_ret2; exact hR.out _ _ (Lst.Own.new hOq.out (by unfold maxLen; omega)) hBz.out)
set_option maxHeartbeats 4000000 in
set_option maxRecDepth 100000 in
theorem goneRing_no (v vr vb : Value) (xs : List RuleD) (rs : List Int) (bs : List Bool) (B : Nat) (w : World) (h : LstRule B w v xs) (hr : LstI B w vr rs) (hb : LstB B w vb bs) (hq2 : ringLen rs bs = false) :
    Calls Try.prog 18 #[v, vr, vb] w (RingPost xs rs bs w) := by
  have hP : Hid (∀ w', Below w.heap.size w w' → RingPost xs rs bs w (.returned (.tuple #[.slice none 0 0, .bool false])) w') := Lib.hid fun w' h2 => .inl ⟨by unfold ringOk; rw [hq2]; rfl, rfl, h2⟩
  generalize RingPost xs rs bs w = Q at *
  obtain ⟨a1, c1, rfl, _⟩ := h.at_
  obtain ⟨a2, c2, rfl, hl2, _⟩ := id hr
  obtain ⟨a3, c3, rfl, hl3, _⟩ := id hb
  clear h hr hb
  unfold ringLen at hq2
  have hq3 := Lib.hid hq2
  clear hq2
  generalize xs.length = m at *
  generalize rs.length = r at *
  generalize bs.length = s at *
  unfold maxLen at hl2 hl3
  by_cases d1 : r < 1
  · have e1 : (r : Int) < 1 := by omega
    go_enter Try.func18, Try.ntmps18
    go_wp2_with fail
    first | exact hP.out _ (Below.refl _ _) | (go_ret2; exact hP.out _ (Below.refl _ _))
  · have e1 : ¬ (r : Int) < 1 := by omega
    by_cases d2 : 32 < r
    · have e2 : (32 : Int) < (r : Int) := by omega
      go_enter Try.func18, Try.ntmps18
      go_wp2_with fail
      first | exact hP.out _ (Below.refl _ _) | (go_ret2; exact hP.out _ (Below.refl _ _))
    · have e2 : ¬ (32 : Int) < (r : Int) := by omega
      have e3 : ((s : Int) != (r : Int)) = true := by
        rw [bne_iff_ne]; intro hh
        have hsr : s = r := by omega
        have := hq3.out
        rw [decide_eq_true (show 1 ≤ r by omega), decide_eq_true (show r ≤ 32 by omega), decide_eq_true hsr] at this; cases this
      go_enter Try.func18, Try.ntmps18
      go_wp2_with fail
      first | exact hP.out _ (Below.refl _ _) | (go_ret2; exact hP.out _ (Below.refl _ _))
theorem goneRing_any (B : Nat) (v vr vb : Value) (xs : List RuleD) (e p : Int) (rs : List Int) (bs : List Bool) (w : World) (h : LstRule B w v xs) (hr : LstI B w vr rs) (hb : LstB B w vb bs) (hB : B ≤ w.heap.size) (hok : ∀ (i : Nat) (x : RuleD), xs[i]? = some x → okRule e p x = true) (hp : 1 ≤ p ∧ p ≤ 60) (hx32 : xs.length ≤ 32) :
    Calls Try.prog 18 #[v, vr, vb] w (RingPost xs rs bs w) := by
  cases hq : ringLen rs bs
  · exact goneRing_no v vr vb xs rs bs B w h hr hb hq
  · exact goneRing_run B v vr vb xs e p rs bs w h hr hb hB hok hp hx32 hq
end Go.Proofs.Ytkjnkomljhlbpaa
