/- Contracts: CountWays, in the model and in the program. -/
import Derived.Test.YtlgojbbhjhifhaaSlack3
namespace Go.Proofs.Ytlgojbbhjhifhaa
open Go.RowKit Go.Lst

theorem infoB : (Try.prog.info? 4).map (fun i => (i.zero, i.size, i.bytes)) = some (some (.bool false), 1, 1) := by kernel_rfl
def addI (a b : Int) : Int := IntKind.i64.wrap (a + b)
/-- How many ways lead to the task i, by the first j of its Befores. -/
def waysIn (x : TaskD) (i : Nat) (ws : List Int) : Nat → List Int
  | 0 => if x.Before.length = 0 then ws.set i 1 else ws
  | j + 1 => (waysIn x i ws j).set i (addI ((waysIn x i ws j).getD i 0) ((waysIn x i ws j).getD (bAt x j).toNat 0))
def innerIn (x : TaskD) (bs : List Bool) : Nat → List Bool
  | 0 => bs
  | j + 1 => (innerIn x bs j).set (bAt x j).toNat true
def waysTo (xs : List TaskD) : Nat → List Int
  | 0 => List.replicate xs.length 0
  | k + 1 => waysIn (xs.getD k default) k (waysTo xs k) (xs.getD k default).Before.length
def innerTo (xs : List TaskD) : Nat → List Bool
  | 0 => List.replicate xs.length false
  | k + 1 => innerIn (xs.getD k default) (innerTo xs k) (xs.getD k default).Before.length
def totTo (ws : List Int) (bs : List Bool) : Nat → Int
  | 0 => 0
  | k + 1 => if bs.getD k false then totTo ws bs k else addI (totTo ws bs k) (ws.getD k 0)
def waysAll (xs : List TaskD) : Int := totTo (waysTo xs xs.length) (innerTo xs xs.length) xs.length
def waysRes (xs : List TaskD) : Int := if areTasks xs then waysAll xs else 0
theorem waysIn_length (x : TaskD) (i : Nat) (ws : List Int) : ∀ j, (waysIn x i ws j).length = ws.length
  | 0 => by simp only [waysIn]; split <;> simp
  | j + 1 => by simp [waysIn, waysIn_length x i ws j]
theorem innerIn_length (x : TaskD) (bs : List Bool) : ∀ j, (innerIn x bs j).length = bs.length
  | 0 => rfl
  | j + 1 => by simp [innerIn, innerIn_length x bs j]
theorem waysTo_length (xs : List TaskD) : ∀ k, (waysTo xs k).length = xs.length
  | 0 => by simp [waysTo]
  | k + 1 => by simp only [waysTo]; rw [waysIn_length, waysTo_length xs k]
theorem innerTo_length (xs : List TaskD) : ∀ k, (innerTo xs k).length = xs.length
  | 0 => by simp [innerTo]
  | k + 1 => by simp only [innerTo]; rw [innerIn_length, innerTo_length xs k]
theorem getDb {bs : List Bool} {k : Nat} (h : k < bs.length) : bs[k]? = some (bs.getD k false) := by
  rw [List.getElem?_eq_getElem h, getD_some (List.getElem?_eq_getElem h)]
/-- A row of the call's own is read and written at place k. -/
theorem own_num {A B g n c : Nat} {w : World} {ws : List Int} (h : Own A B w (.slice (some ⟨g, 0, none⟩) n c) 2 1 n (ws.map (Value.int .i64))) (hl : ws.length = n) {k : Nat} (hk : k < n) : w.cell? ⟨g, k, none⟩ = some (.int .i64 (ws.getD k 0)) ∧ w.frozen? ⟨g, k, none⟩ = false := by
  refine ⟨?_, h.1.frozenAt k⟩
  rw [h.1.cellAt k (by omega), List.getElem?_map, getD_get (by omega)]; rfl
theorem own_bit {A B g n c : Nat} {w : World} {bs : List Bool} (h : Own A B w (.slice (some ⟨g, 0, none⟩) n c) 4 1 n (bs.map Value.bool)) (hl : bs.length = n) {k : Nat} (hk : k < n) : w.cell? ⟨g, k, none⟩ = some (.bool (bs.getD k false)) ∧ w.frozen? ⟨g, k, none⟩ = false := by
  refine ⟨?_, h.1.frozenAt k⟩
  rw [h.1.cellAt k (by omega), List.getElem?_map, getDb (by omega)]; rfl
theorem own_put {A B g n c e : Nat} {w : World} {cs : List Value} (h : Own A B w (.slice (some ⟨g, 0, none⟩) n c) e 1 n cs) (k : Nat) (u : Value) : Own A B (w.setCell ⟨g, k, none⟩ u) (.slice (some ⟨g, 0, none⟩) n c) e 1 n (cs.set k u) ∧ Inside A B w (w.setCell ⟨g, k, none⟩ u) := by
  have hst := h.1.stored k u
  exact ⟨⟨hst.1, h.2.1, h.2.2⟩, Inside.of_grown hst.2 fun q hq => by cases hq; exact h.block_ge g rfl⟩

set_option maxHeartbeats 4000000 in
set_option maxRecDepth 100000 in
theorem specCountWays_any (B : Nat) (v : Value) (xs : List TaskD) (w : World) (h : LstTask B w v xs) (hB : B ≤ w.heap.size) : Calls Try.prog 36 #[v] w fun e w' => e = .returned (.tuple #[.int .i64 (waysRes xs), .bool (areTasks xs)]) ∧ Below w.heap.size w w' := by
  have hA := Lib.hid (l03Are_any B v xs w h)
  have hL := Lib.hid h
  obtain ⟨a, cap, rfl, hl, _⟩ := h
  obtain ⟨i0, hi, hz0, hz1, hz2⟩ := info_parts infoI
  obtain ⟨i1, hj, hj0, hj1, hj2⟩ := info_parts infoB
  unfold waysRes
  cases hq : areTasks xs
  · rw [hq] at hA
    rw [if_neg (by simp)]
    clear hq
    go_enter Try.func36, Try.ntmps36
    go_wp2_with fail
    refine (hA.out).mono ?_
    rintro e w1 ⟨m, rfl, rfl⟩
    go_wp2_with fail
    go_ret2
    exact ⟨rfl, below_drawn _ _⟩
  · rw [if_pos rfl]
    rw [hq] at hA
    have hFt := Lib.hid (areTasks_fit hq)
    have hm : xs.length ≤ 16 := hFt.out.most
    obtain ⟨_, _, e1, _, _, _, hc⟩ := hL.out.at_
    injection e1 with e1 _ e2
    subst e1 e2
    have hC : Hid (∀ i, i < xs.length → ∃ (b o : Nat) (x : TaskD) (ab : Option Addr) (cb : Nat), a = some ⟨b, o, none⟩ ∧ b < w.heap.size ∧ xs[i]? = some x ∧ x.Before.length ≤ 16 ∧ w.cell? ⟨b, o + i * 4 + 2, none⟩ = some (.slice ab x.Before.length cb) ∧
        ∀ j, j < x.Before.length → ∃ bb ob bn : Nat, ab = some ⟨bb, ob, none⟩ ∧ bb < w.heap.size ∧ bn < i ∧ bAt x j = (bn : Int) ∧ w.cell? ⟨bb, ob + j, none⟩ = some (.int .i64 (bn : Int))) := Lib.hid fun i hi => by
      obtain ⟨b, o, x, vb, vl, rfl, hb, hx, _, _, c2, _, l0, _⟩ := hc i hi
      obtain ⟨ab, cb, rfl, _, _, _, hcb⟩ := l0.at_
      refine ⟨b, o, x, ab, cb, rfl, by omega, hx, before_few hFt.out hx, c2, fun j hj => ?_⟩
      obtain ⟨bb, ob, y, rfl, hbb, hy, cy⟩ := hcb j hj
      have hbj := hFt.out.before i x hx j hj
      have ey : bAt x j = y := getD_some hy
      rw [ey] at hbj
      obtain ⟨bn, rfl⟩ : ∃ bn : Nat, y = (bn : Int) := ⟨y.toNat, by omega⟩
      exact ⟨bb, ob, bn, rfl, by omega, by omega, ey, cy⟩
    have hNextW : Hid (∀ i x, xs[i]? = some x → waysTo xs (i + 1) = waysIn x i (waysTo xs i) x.Before.length) := Lib.hid fun i x hx => by simp only [waysTo]; rw [getD_some hx]
    have hNextB : Hid (∀ i x, xs[i]? = some x → innerTo xs (i + 1) = innerIn x (innerTo xs i) x.Before.length) := Lib.hid fun i x hx => by simp only [innerTo]; rw [getD_some hx]
    have hLenW : Hid (∀ x i k j, (waysIn x i (waysTo xs k) j).length = xs.length) := Lib.hid fun x i k j => by rw [waysIn_length, waysTo_length]
    have hLenB : Hid (∀ x k j, (innerIn x (innerTo xs k) j).length = xs.length) := Lib.hid fun x k j => by rw [innerIn_length, innerTo_length]
    have hLenW0 : Hid (∀ k, (waysTo xs k).length = xs.length) := Lib.hid fun k => waysTo_length xs k
    have hLenB0 : Hid (∀ k, (innerTo xs k).length = xs.length) := Lib.hid fun k => innerTo_length xs k
    have hW0 : Hid (waysTo xs 0 = List.replicate xs.length 0) := Lib.hid rfl
    have hI0 : Hid (innerTo xs 0 = List.replicate xs.length false) := Lib.hid rfl
    have hRes : Hid (∀ k, k = xs.length → waysAll xs = totTo (waysTo xs xs.length) (innerTo xs xs.length) k) := Lib.hid fun k hk => by rw [hk]; rfl
    clear hq hc
    generalize waysAll xs = res at *
    generalize hnn : xs.length = n at *
    have hN := Lib.hid hnn
    clear hnn
    unfold maxLen at hl
    go_enter Try.func36, Try.ntmps36
    go_wp2_with fail
    refine (hA.out).mono ?_
    rintro e w1 ⟨m, rfl, rfl⟩
    have hB1 := Lib.hid (below_drawn w m)
    generalize w.drewN m = w1 at *
    go_wp2_with (at_make; refine wpList_make_full _ rfl _ _ _ rfl w1.heap.size _ i0 (.int .i64 0) 1 Try.underlying30 hi hz0 hz1 _ _ _ _ n rfl rfl rfl rfl ?c1 ?c2 ?c3 ?_)
    case c1 => first | (rw [hz2]; omega) | omega
    case c2 => unfold maxLen; omega
    try case c3 => exact Nat.le_refl _
    intro w2 hown0 hg0
    have hb2 : Below w1.heap.size w1 w2 := (Below.refl _ _).grown hg0 (Nat.le_refl _) (fun k hk => by cases hk)
    have hB2 := Lib.hid hb2
    have hs2 : w1.heap.size < w2.heap.size := (hown0.lt _ rfl).2
    have hO2 := Lib.hid (show Own w1.heap.size w2.heap.size w2 (.slice (some ⟨w1.heap.size, 0, none⟩) n n) 2 1 n ((waysTo xs 0).map (Value.int .i64)) by rw [hW0.out]; exact Own.new (zeros_own' hown0) (by unfold maxLen; omega))
    clear hown0 hg0 hz0 hz1 hz2 hi hb2
    go_wp2_with (at_make; refine wpList_make_full _ rfl _ _ _ rfl w2.heap.size _ i1 (.bool false) 1 Try.underlying72 hj hj0 hj1 _ _ _ _ n rfl rfl rfl rfl ?c1 ?c2 ?c3 ?_)
    case c1 => first | (rw [hj2]; omega) | omega
    case c2 => unfold maxLen; omega
    try case c3 => exact Nat.le_refl _
    intro w3 hown1 hg1
    have hb3 : Below w2.heap.size w2 w3 := (Below.refl _ _).grown hg1 (Nat.le_refl _) (fun k hk => by cases hk)
    have hO3 := Lib.hid (hO2.out.below hb3 (Nat.le_refl _))
    have hB3 := Lib.hid (below_on hB2.out (Nat.le_refl _) hb3)
    have hQ3 := Lib.hid (show Own w2.heap.size (w2.heap.size + 1) w3 (.slice (some ⟨w2.heap.size, 0, none⟩) n n) 4 1 n ((innerTo xs 0).map Value.bool) by
      rw [hI0.out, List.map_replicate]
      rw [toList_madeCells_one] at hown1
      exact ⟨hown1, by unfold maxLen; omega, fun g hg => blk_lt hg⟩)
    have hs3 : w2.heap.size + 1 ≤ w3.heap.size := (hown1.lt _ rfl).2
    clear hown1 hg1 hj0 hj1 hj2 hj hb3 hO2
    have hsz := hB1.out.size
    generalize w2.heap.size = p at *
    go_wp2_with fail
    go_loopw [21] (fun i wr => ∃ k : Nat, k ≤ n ∧ i = .int .i64 k ∧ Hid (Own w1.heap.size p wr (.slice (some ⟨w1.heap.size, 0, none⟩) n n) 2 1 n ((waysTo xs k).map (Value.int .i64))) ∧ Hid (Own p (p + 1) wr (.slice (some ⟨p, 0, none⟩) n n) 4 1 n ((innerTo xs k).map Value.bool)) ∧ Hid (Below w1.heap.size w1 wr) ∧ p + 1 ≤ wr.heap.size) (fun i _ => n - (intOf i).toNat)
    case atStart => exact ⟨0, Nat.zero_le _, rfl, hO3, hQ3, hB3, hs3⟩
    case round =>
      obtain ⟨k, hk, rfl, hO5, hQ5, hB5, hs5⟩ := hrel
      by_cases hlt : k < n
      · obtain ⟨b, o, x, ab, cb, rfl, hb, hx, hfew, c2, hcells⟩ := hC.out k hlt
        have hBw := Lib.hid (below_on hB1.out (Nat.le_refl _) hB5.out)
        have hkI : (k : Int) < n := by omega
        have hC2 := Lib.hid (show ∀ w', Below w.heap.size w w' → w'.cell? ⟨b, o + k * 4 + 2, none⟩ = some (.slice ab x.Before.length cb) from fun w' hb' => by rw [hb'.cell (p := ⟨b, o + k * 4 + 2, none⟩) hb]; exact c2)
        have e1 := hC2.out wr hBw.out
        have hCl := Lib.hid hcells
        have hX := Lib.hid hx
        clear c2 hcells hx
        obtain ⟨d1, d2⟩ := own_num hO5.out (hLenW0.out k) hlt
        by_cases h0 : x.Before.length = 0
        · rw [h0] at e1
          have hP1 := own_put hO5.out k (.int .i64 1)
          rw [← List.map_set] at hP1
          have hEq : Hid ((waysTo xs k).set k 1 = waysTo xs (k + 1)) := Lib.hid (by rw [hNextW.out k x hX.out, h0]; simp only [waysIn]; rw [if_pos h0])
          have hEqB : Hid (innerTo xs k = innerTo xs (k + 1)) := Lib.hid (by rw [hNextB.out k x hX.out, h0]; rfl)
          rw [hEq.out] at hP1
          have hO6 := Lib.hid hP1.1
          have hQ6 := hQ5.out.apart hP1.2 (.inr (Nat.le_refl _)) hs5
          rw [hEqB.out] at hQ6
          have hQ7 := Lib.hid hQ6
          have hB6 := Lib.hid (Inside.below hB5.out hP1.2 hB5.out.size (Nat.le_refl _))
          have hs6 : p + 1 ≤ (wr.setCell ⟨w1.heap.size, k, none⟩ (.int .i64 1)).heap.size := by simpa [World.setCell] using hs5
          have hBw6 := Lib.hid (below_on hB1.out (Nat.le_refl _) hB6.out)
          have e2 := hC2.out _ hBw6.out
          rw [h0] at e2
          clear hP1 hQ6 hO5 hQ5 hB5 hs5
          go_wp2_with fail
          generalize World.setCell wr _ _ = w5 at *
          go_loopw [40] (fun i wr => i = .int .i64 0 ∧ wr = w5) (fun _ _ => 0)
          case atStart => exact ⟨rfl, rfl⟩
          case round =>
            obtain ⟨rfl, rfl⟩ := hrel
            go_wp2_with fail
            go_roundw
            case rel => exact ⟨k + 1, by omega, by go_num, hO6, hQ7, hB6, hs6⟩
            case measure => simp [intOf]; omega
        · have hne : (x.Before.length : Int) ≠ 0 := by omega
          have hX0 : Hid (waysIn x k (waysTo xs k) 0 = waysTo xs k) := Lib.hid (by simp only [waysIn]; rw [if_neg h0])
          have hNxW := Lib.hid (hNextW.out k x hX.out)
          have hNxB := Lib.hid (hNextB.out k x hX.out)
          have hO6 := hO5.out
          rw [← hX0.out] at hO6
          have hO7 := Lib.hid hO6
          have hQ7 := Lib.hid (show Own p (p + 1) wr (.slice (some ⟨p, 0, none⟩) n n) 4 1 n ((innerIn x (innerTo xs k) 0).map Value.bool) from hQ5.out)
          generalize hnb : x.Before.length = nb at *
          clear hO6 hO5 hQ5 h0 d1 d2 hnb
          go_wp2_with fail
          rw [show ((nb : Int) == 0) = false from by simpa using hne]
          clear hne
          go_loopw [40] (fun i wr => ∃ j : Nat, j ≤ nb ∧ i = .int .i64 j ∧ Hid (Own w1.heap.size p wr (.slice (some ⟨w1.heap.size, 0, none⟩) n n) 2 1 n ((waysIn x k (waysTo xs k) j).map (Value.int .i64))) ∧ Hid (Own p (p + 1) wr (.slice (some ⟨p, 0, none⟩) n n) 4 1 n ((innerIn x (innerTo xs k) j).map Value.bool)) ∧ Hid (Below w1.heap.size w1 wr) ∧ p + 1 ≤ wr.heap.size) (fun i _ => nb - (intOf i).toNat)
          case atStart => exact ⟨0, Nat.zero_le _, rfl, hO7, hQ7, hB5, hs5⟩
          case round =>
            obtain ⟨j, hj, rfl, hO8, hQ8, hB8, hs8⟩ := hrel
            by_cases hjl : j < nb
            · obtain ⟨bb, ob, bn, rfl, hbb, hbn, hbe, f1⟩ := hCl.out j hjl
              have hBw8 := Lib.hid (below_on hB1.out (Nat.le_refl _) hB8.out)
              have g1 := hC2.out wr hBw8.out
              have g2 : wr.cell? ⟨bb, ob + j, none⟩ = some (.int .i64 (bn : Int)) := by rw [hBw8.out.cell (p := ⟨bb, ob + j, none⟩) hbb]; exact f1
              obtain ⟨g3, g4⟩ := own_num hO8.out (hLenW.out x k k j) hlt
              obtain ⟨g5, _⟩ := own_num hO8.out (hLenW.out x k k j) (show bn < n by omega)
              obtain ⟨g6, g7⟩ := own_bit hQ8.out (hLenB.out x k j) (show bn < n by omega)
              have hst1 : Hid (waysIn x k (waysTo xs k) (j + 1) = (waysIn x k (waysTo xs k) j).set k (addI ((waysIn x k (waysTo xs k) j).getD k 0) ((waysIn x k (waysTo xs k) j).getD bn 0))) := Lib.hid (by simp only [waysIn]; rw [hbe, Int.toNat_natCast])
              have hst2 : Hid (innerIn x (innerTo xs k) (j + 1) = (innerIn x (innerTo xs k) j).set bn true) := Lib.hid (by simp only [innerIn]; rw [hbe, Int.toNat_natCast])
              generalize hc0 : (waysIn x k (waysTo xs k) j).getD k 0 = c0 at *
              generalize hd0 : (waysIn x k (waysTo xs k) j).getD bn 0 = d0 at *
              have hw1 : IntKind.i64.wrap (c0 + d0) = addI c0 d0 := rfl
              have hi1 : (bn : Int) < n := by omega
              have hi2 : (j : Int) < nb := by omega
              clear hc0 hd0
              go_wp2_with fail
              go_still_tail 17, (by kernel_rfl)
              change wpList _ _ _ _ _ wr.drew
              have hO8d := Lib.hid (show Own w1.heap.size p wr.drew _ _ _ _ _ from ⟨hO8.out.1.drew, hO8.out.2.1, hO8.out.2.2⟩)
              have hQ8d := Lib.hid (show Own p (p + 1) wr.drew _ _ _ _ _ from ⟨hQ8.out.1.drew, hQ8.out.2.1, hQ8.out.2.2⟩)
              have hB8d := Lib.hid (show Below w1.heap.size w1 wr.drew from hB8.out.drew)
              have hs8d : p + 1 ≤ wr.drew.heap.size := hs8
              have e5 : wr.drew.cell? ⟨w1.heap.size, k, none⟩ = some (.int .i64 c0) := g3
              have hf1 : wr.drew.frozen? ⟨w1.heap.size, k, none⟩ = false := g4
              clear hO8 hQ8 hB8 hs8 g1 g2 g3 g4 g5 g6 g7 hBw8
              generalize wr.drew = w5 at *
              have hP1 := own_put hO8d.out k (.int .i64 (addI c0 d0))
              rw [← List.map_set, ← hst1.out] at hP1
              have hO9 := Lib.hid hP1.1
              have hQ9 := hQ8d.out.apart hP1.2 (.inr (Nat.le_refl _)) hs8d
              have hB9 := Lib.hid (Inside.below hB8d.out hP1.2 hB8d.out.size (Nat.le_refl _))
              have hBw9 := Lib.hid (below_on hB1.out (Nat.le_refl _) hB9.out)
              have k1 := hC2.out _ hBw9.out
              have k2 : (w5.setCell ⟨w1.heap.size, k, none⟩ (.int .i64 (addI c0 d0))).cell? ⟨bb, ob + j, none⟩ = some (.int .i64 (bn : Int)) := by rw [hBw9.out.cell (p := ⟨bb, ob + j, none⟩) hbb]; exact f1
              obtain ⟨k3, k4⟩ := own_bit hQ9 (hLenB.out x k j) (show bn < n by omega)
              have hP2 := own_put hQ9 bn (.bool true)
              rw [← List.map_set, ← hst2.out] at hP2
              have hQ10 := Lib.hid hP2.1
              have hO10 := Lib.hid (hO9.out.apart hP2.2 (.inl (Nat.le_refl _)) (by simpa [World.setCell] using (show p ≤ w5.heap.size by omega)))
              have hB10 := Lib.hid (Inside.below hB9.out hP2.2 hB9.out.size (by omega))
              have hs10 : p + 1 ≤ ((w5.setCell ⟨w1.heap.size, k, none⟩ (.int .i64 (addI c0 d0))).setCell ⟨p, bn, none⟩ (.bool true)).heap.size := by simpa [World.setCell] using hs8d
              clear hP1 hP2 hQ9 hO9 hB9 hO8d hQ8d hB8d hBw9 f1
              go_wp2_with fail
              go_roundw
              case rel => exact ⟨j + 1, by omega, by go_num, hO10, hQ10, hB10, hs10⟩
              case measure => simp [intOf]; omega
            · have hO9 := hO8.out
              rw [show j = nb by omega, ← hNxW.out] at hO9
              have hQ9 := hQ8.out
              rw [show j = nb by omega, ← hNxB.out] at hQ9
              have hO10 := Lib.hid hO9
              have hQ10 := Lib.hid hQ9
              clear hO9 hO8 hQ9 hQ8
              go_wp2_with fail
              go_roundw
              case rel => exact ⟨k + 1, by omega, by go_num, hO10, hQ10, hB8, hs8⟩
              case measure => simp [intOf]; omega
      · have hk2 : k = n := by omega
        subst hk2
        have hLw := hLenW0.out k
        have hLb := hLenB0.out k
        have hO6 := Lib.hid hO5.out
        have hQ6 := Lib.hid hQ5.out
        clear hO5 hQ5
        generalize waysTo xs k = ws at *
        generalize innerTo xs k = bs at *
        go_wp2_with fail
        have hRs := Lib.hid (hRes.out k rfl)
        have hws : ∀ q, totTo ws bs (q + 1) = if bs.getD q false then totTo ws bs q else addI (totTo ws bs q) (ws.getD q 0) := fun _ => rfl
        have hTot := Lib.hid hws
        clear hws
        go_loopw [8, 74] (fun z i wq => ∃ (j : Nat) (y : Int), j ≤ k ∧ i = .int .i64 j ∧ z = .int .i64 y ∧ Hid (y = totTo ws bs j) ∧ Hid (Own w1.heap.size p wq (.slice (some ⟨w1.heap.size, 0, none⟩) k k) 2 1 k (ws.map (Value.int .i64))) ∧ Hid (Own p (p + 1) wq (.slice (some ⟨p, 0, none⟩) k k) 4 1 k (bs.map Value.bool)) ∧ Hid (Below w1.heap.size w1 wq)) (fun _ i _ => k - (intOf i).toNat)
        case atStart => exact ⟨0, 0, Nat.zero_le _, rfl, rfl, Lib.hid rfl, hO6, hQ6, hB5⟩
        case round =>
          obtain ⟨j, y, hj, rfl, rfl, hy, hO7, hQ7, hB7⟩ := hrel
          by_cases hjl : j < k
          · obtain ⟨g1, _⟩ := own_num hO7.out hLw hjl
            obtain ⟨g2, _⟩ := own_bit hQ7.out hLb hjl
            have hjI : (j : Int) < k := by omega
            have hNx := Lib.hid (hTot.out j)
            cases hbj : bs.getD j false
            · rw [hbj] at g2 hNx
              rw [if_neg (by simp)] at hNx
              have hy2 := Lib.hid (show addI y (ws.getD j 0) = totTo ws bs (j + 1) by rw [hNx.out, hy.out])
              generalize ws.getD j 0 = c at *
              have hw : IntKind.i64.wrap (y + c) = addI y c := rfl
              clear hNx
              go_wp2_with fail
              go_roundw
              case rel => exact ⟨j + 1, _, by omega, by go_num, rfl, hy2, hO7, hQ7, hB7⟩
              case measure => simp [intOf]; omega
            · rw [hbj] at g2 hNx
              rw [if_pos rfl] at hNx
              have hy2 := Lib.hid (show y = totTo ws bs (j + 1) by rw [hNx.out, hy.out])
              clear hNx
              go_wp2_with fail
              go_roundw
              case rel => exact ⟨j + 1, _, by omega, by go_num, rfl, hy2, hO7, hQ7, hB7⟩
              case measure => simp [intOf]; omega
          · have hE := Lib.hid (show y = res by rw [hy.out, hRs.out, show j = k by omega])
            have hB8 := Lib.hid (below_on hB1.out (Nat.le_refl _) hB7.out)
            go_wp2_with fail
            go_ret2
            exact ⟨by simp only [hE.out]; rfl, hB8.out⟩
set_option maxHeartbeats 4000000 in
set_option maxRecDepth 100000 in
theorem implCountWays_any (B : Nat) (v : Value) (xs : List TaskD) (w : World) (h : LstTask B w v xs) (hB : B ≤ w.heap.size) : Calls Try.prog 37 #[v] w fun e w' => e = .returned (.tuple #[.int .i64 (waysRes xs), .bool (areTasks xs)]) ∧ Below w.heap.size w w' := by
  have hA := Lib.hid (areTasks_any B v xs w h hB)
  have hL := Lib.hid h
  obtain ⟨a, cap, rfl, hl, _⟩ := h
  obtain ⟨i0, hi, hz0, hz1, hz2⟩ := info_parts infoI
  obtain ⟨i1, hj, hj0, hj1, hj2⟩ := info_parts infoB
  unfold waysRes
  cases hq : areTasks xs
  · rw [hq] at hA
    rw [if_neg (by simp)]
    clear hq
    go_enter Try.func37, Try.ntmps37
    go_wp2_with fail
    refine (hA.out).mono ?_
    rintro e w1 ⟨rfl, hb1⟩
    have hB1 := Lib.hid hb1
    clear hb1
    go_wp2_with fail
    go_ret2
    exact ⟨rfl, hB1.out⟩
  · rw [if_pos rfl]
    rw [hq] at hA
    have hFt := Lib.hid (areTasks_fit hq)
    have hm : xs.length ≤ 16 := hFt.out.most
    obtain ⟨_, _, e1, _, _, _, hc⟩ := hL.out.at_
    injection e1 with e1 _ e2
    subst e1 e2
    have hC : Hid (∀ i, i < xs.length → ∃ (b o : Nat) (x : TaskD) (ab : Option Addr) (cb : Nat) (al : Option Addr) (nl cl : Nat), a = some ⟨b, o, none⟩ ∧ b < w.heap.size ∧ xs[i]? = some x ∧ x.Before.length ≤ 16 ∧ w.cell? ⟨b, o + i * 4 + 2, none⟩ = some (.slice ab x.Before.length cb) ∧
        w.cell? ⟨b, o + i * 4, none⟩ = some (.int .i64 x.Time) ∧ w.cell? ⟨b, o + i * 4 + 1, none⟩ = some (.int .i64 x.Needs) ∧ w.cell? ⟨b, o + i * 4 + 3, none⟩ = some (.slice al nl cl) ∧
        ∀ j, j < x.Before.length → ∃ bb ob bn : Nat, ab = some ⟨bb, ob, none⟩ ∧ bb < w.heap.size ∧ bn < i ∧ bAt x j = (bn : Int) ∧ w.cell? ⟨bb, ob + j, none⟩ = some (.int .i64 (bn : Int))) := Lib.hid fun i hi => by
      obtain ⟨b, o, x, vb, vl, rfl, hb, hx, c0, c1, c2, c3, l0, l1⟩ := hc i hi
      obtain ⟨ab, cb, rfl, _, _, _, hcb⟩ := l0.at_
      obtain ⟨al, cl, rfl, _⟩ := l1
      refine ⟨b, o, x, ab, cb, al, _, cl, rfl, by omega, hx, before_few hFt.out hx, c2, c0, c1, c3, fun j hj => ?_⟩
      obtain ⟨bb, ob, y, rfl, hbb, hy, cy⟩ := hcb j hj
      have hbj := hFt.out.before i x hx j hj
      have ey : bAt x j = y := getD_some hy
      rw [ey] at hbj
      obtain ⟨bn, rfl⟩ : ∃ bn : Nat, y = (bn : Int) := ⟨y.toNat, by omega⟩
      exact ⟨bb, ob, bn, rfl, by omega, by omega, ey, cy⟩
    have hNextW : Hid (∀ i x, xs[i]? = some x → waysTo xs (i + 1) = waysIn x i (waysTo xs i) x.Before.length) := Lib.hid fun i x hx => by simp only [waysTo]; rw [getD_some hx]
    have hNextB : Hid (∀ i x, xs[i]? = some x → innerTo xs (i + 1) = innerIn x (innerTo xs i) x.Before.length) := Lib.hid fun i x hx => by simp only [innerTo]; rw [getD_some hx]
    have hLenW : Hid (∀ x i k j, (waysIn x i (waysTo xs k) j).length = xs.length) := Lib.hid fun x i k j => by rw [waysIn_length, waysTo_length]
    have hLenB : Hid (∀ x k j, (innerIn x (innerTo xs k) j).length = xs.length) := Lib.hid fun x k j => by rw [innerIn_length, innerTo_length]
    have hLenW0 : Hid (∀ k, (waysTo xs k).length = xs.length) := Lib.hid fun k => waysTo_length xs k
    have hLenB0 : Hid (∀ k, (innerTo xs k).length = xs.length) := Lib.hid fun k => innerTo_length xs k
    have hW0 : Hid (waysTo xs 0 = List.replicate xs.length 0) := Lib.hid rfl
    have hI0 : Hid (innerTo xs 0 = List.replicate xs.length false) := Lib.hid rfl
    have hRes : Hid (∀ k, k = xs.length → waysAll xs = totTo (waysTo xs xs.length) (innerTo xs xs.length) k) := Lib.hid fun k hk => by rw [hk]; rfl
    clear hq hc
    generalize waysAll xs = res at *
    generalize hnn : xs.length = n at *
    have hN := Lib.hid hnn
    clear hnn
    unfold maxLen at hl
    go_enter Try.func37, Try.ntmps37
    go_wp2_with fail
    refine (hA.out).mono ?_
    rintro e w1 ⟨rfl, hb1⟩
    have hB1 := Lib.hid hb1
    clear hb1
    go_wp2_with (at_make; refine wpList_make_full _ rfl _ _ _ rfl w1.heap.size _ i0 (.int .i64 0) 1 Try.underlying30 hi hz0 hz1 _ _ _ _ n rfl rfl rfl rfl ?c1 ?c2 ?c3 ?_)
    case c1 => first | (rw [hz2]; omega) | omega
    case c2 => unfold maxLen; omega
    try case c3 => exact Nat.le_refl _
    intro w2 hown0 hg0
    have hb2 : Below w1.heap.size w1 w2 := (Below.refl _ _).grown hg0 (Nat.le_refl _) (fun k hk => by cases hk)
    have hB2 := Lib.hid hb2
    have hs2 : w1.heap.size < w2.heap.size := (hown0.lt _ rfl).2
    have hO2 := Lib.hid (show Own w1.heap.size w2.heap.size w2 (.slice (some ⟨w1.heap.size, 0, none⟩) n n) 2 1 n ((waysTo xs 0).map (Value.int .i64)) by rw [hW0.out]; exact Own.new (zeros_own' hown0) (by unfold maxLen; omega))
    clear hown0 hg0 hz0 hz1 hz2 hi hb2
    go_wp2_with (at_make; refine wpList_make_full _ rfl _ _ _ rfl w2.heap.size _ i1 (.bool false) 1 Try.underlying72 hj hj0 hj1 _ _ _ _ n rfl rfl rfl rfl ?c1 ?c2 ?c3 ?_)
    case c1 => first | (rw [hj2]; omega) | omega
    case c2 => unfold maxLen; omega
    try case c3 => exact Nat.le_refl _
    intro w3 hown1 hg1
    have hb3 : Below w2.heap.size w2 w3 := (Below.refl _ _).grown hg1 (Nat.le_refl _) (fun k hk => by cases hk)
    have hO3 := Lib.hid (hO2.out.below hb3 (Nat.le_refl _))
    have hB3 := Lib.hid (below_on hB2.out (Nat.le_refl _) hb3)
    have hQ3 := Lib.hid (show Own w2.heap.size (w2.heap.size + 1) w3 (.slice (some ⟨w2.heap.size, 0, none⟩) n n) 4 1 n ((innerTo xs 0).map Value.bool) by
      rw [hI0.out, List.map_replicate]
      rw [toList_madeCells_one] at hown1
      exact ⟨hown1, by unfold maxLen; omega, fun g hg => blk_lt hg⟩)
    have hs3 : w2.heap.size + 1 ≤ w3.heap.size := (hown1.lt _ rfl).2
    clear hown1 hg1 hj0 hj1 hj2 hj hb3 hO2
    have hsz := hB1.out.size
    generalize w2.heap.size = p at *
    go_wp2_with fail
    go_loopw [24] (fun i wr => ∃ k : Nat, k ≤ n ∧ i = .int .i64 k ∧ Hid (Own w1.heap.size p wr (.slice (some ⟨w1.heap.size, 0, none⟩) n n) 2 1 n ((waysTo xs k).map (Value.int .i64))) ∧ Hid (Own p (p + 1) wr (.slice (some ⟨p, 0, none⟩) n n) 4 1 n ((innerTo xs k).map Value.bool)) ∧ Hid (Below w1.heap.size w1 wr) ∧ p + 1 ≤ wr.heap.size) (fun i _ => n - (intOf i).toNat)
    case atStart => exact ⟨0, Nat.zero_le _, rfl, hO3, hQ3, hB3, hs3⟩
    case round =>
      obtain ⟨k, hk, rfl, hO5, hQ5, hB5, hs5⟩ := hrel
      by_cases hlt : k < n
      · obtain ⟨b, o, x, ab, cb, al, nl, cl, rfl, hb, hx, hfew, c2, c0, c1, c3, hcells⟩ := hC.out k hlt
        have hBw := Lib.hid (below_on hB1.out (Nat.le_refl _) hB5.out)
        have hkI : (k : Int) < n := by omega
        have hC2 := Lib.hid (show ∀ w', Below w.heap.size w w' → w'.cell? ⟨b, o + k * 4 + 2, none⟩ = some (.slice ab x.Before.length cb) from fun w' hb' => by rw [hb'.cell (p := ⟨b, o + k * 4 + 2, none⟩) hb]; exact c2)
        have e1 := hC2.out wr hBw.out
        rw [← hBw.out.cell (p := ⟨b, o + k * 4, none⟩) hb] at c0
        rw [← hBw.out.cell (p := ⟨b, o + k * 4 + 1, none⟩) hb] at c1
        rw [← hBw.out.cell (p := ⟨b, o + k * 4 + 3, none⟩) hb] at c3
        have hCl := Lib.hid hcells
        have hX := Lib.hid hx
        clear c2 hcells hx
        obtain ⟨d1, d2⟩ := own_num hO5.out (hLenW0.out k) hlt
        by_cases h0 : x.Before.length = 0
        · rw [h0] at e1
          have hbw : Below wr.heap.size wr (wr.alloc (.cells #[.int .i64 x.Time, .int .i64 x.Needs, .slice ab 0 cb, .slice al nl cl] 51)) := below_alloc (Below.refl _ _) _
          have hbb := hB5.out.alloc hB5.out.size (.cells #[.int .i64 x.Time, .int .i64 x.Needs, .slice ab 0 cb, .slice al nl cl] 51)
          have hwh : Whole (wr.alloc (.cells #[.int .i64 x.Time, .int .i64 x.Needs, .slice ab 0 cb, .slice al nl cl] 51)) wr.heap.size 51 _ := Whole.made wr _ _ rfl
          have hOw := hO5.out.below hbw (by omega)
          have hQw := hQ5.out.below hbw hs5
          obtain ⟨d3, d4⟩ := own_num hOw (hLenW0.out k) hlt
          have hEq : Hid ((waysTo xs k).set k 1 = waysTo xs (k + 1)) := Lib.hid (by rw [hNextW.out k x hX.out, h0]; simp only [waysIn]; rw [if_pos h0])
          have hEqB : Hid (innerTo xs k = innerTo xs (k + 1)) := Lib.hid (by rw [hNextB.out k x hX.out, h0]; rfl)
          have hP1 := own_put hOw k (.int .i64 1)
          rw [← List.map_set, hEq.out] at hP1
          have hO6 := Lib.hid hP1.1
          have hQ6 := hQw.apart hP1.2 (.inr (Nat.le_refl _)) (Nat.le_trans hs5 hbw.size)
          rw [hEqB.out] at hQ6
          have hQ7 := Lib.hid hQ6
          have hB6 := Lib.hid (Inside.below hbb hP1.2 hbb.size (Nat.le_refl _))
          have hs6 : p + 1 ≤ ((wr.alloc (.cells #[.int .i64 x.Time, .int .i64 x.Needs, .slice ab 0 cb, .slice al nl cl] 51)).setCell ⟨w1.heap.size, k, none⟩ (.int .i64 1)).heap.size := by simpa [World.setCell] using (Nat.le_trans hs5 hbw.size)
          have e2 : ((wr.alloc (.cells #[.int .i64 x.Time, .int .i64 x.Needs, .slice ab 0 cb, .slice al nl cl] 51)).setCell ⟨w1.heap.size, k, none⟩ (.int .i64 1)).cell? ⟨wr.heap.size, 2, none⟩ = some (.slice ab 0 cb) := (hwh.apart (by show wr.heap.size ≠ w1.heap.size; omega) _).at_ rfl
          clear hP1 hQ6 hO5 hQ5 hB5 hs5 hbw hbb hwh hOw hQw d1 d2
          go_wp2_with fail
          generalize World.setCell (World.alloc wr _) _ _ = w5 at *
          go_loopw [39] (fun i wr => i = .int .i64 0 ∧ wr = w5) (fun _ _ => 0)
          case atStart => exact ⟨rfl, rfl⟩
          case round =>
            obtain ⟨rfl, rfl⟩ := hrel
            go_wp2_with fail
            go_roundw
            case rel => exact ⟨k + 1, by omega, by go_num, hO6, hQ7, hB6, hs6⟩
            case measure => simp [intOf]; omega
        · have hne : (x.Before.length : Int) ≠ 0 := by omega
          have hX0 : Hid (waysIn x k (waysTo xs k) 0 = waysTo xs k) := Lib.hid (by simp only [waysIn]; rw [if_neg h0])
          have hNxW := Lib.hid (hNextW.out k x hX.out)
          have hNxB := Lib.hid (hNextB.out k x hX.out)
          generalize hnb : x.Before.length = nb at *
          clear h0 d1 d2 hnb
          go_wp2_with fail
          rw [show ((nb : Int) == 0) = false from by simpa using hne]
          clear hne
          generalize hw4 : World.alloc wr _ = w4
          have hb4 : Below wr.heap.size wr w4 := by rw [← hw4]; exact below_alloc (Below.refl _ _) _
          have hB6 := Lib.hid (show Below w1.heap.size w1 w4 by rw [← hw4]; exact hB5.out.alloc hB5.out.size _)
          have hO6 := hO5.out.below hb4 (by omega)
          rw [← hX0.out] at hO6
          have hO7 := Lib.hid hO6
          have hQ7 := Lib.hid (show Own p (p + 1) w4 (.slice (some ⟨p, 0, none⟩) n n) 4 1 n ((innerIn x (innerTo xs k) 0).map Value.bool) from hQ5.out.below hb4 hs5)
          have hs7 : p + 1 ≤ w4.heap.size := Nat.le_trans hs5 hb4.size
          clear hO6 hO5 hQ5 hB5 hb4 hw4 c0 c1 c3 e1 hs5
          go_loopw [39] (fun i wr => ∃ j : Nat, j ≤ nb ∧ i = .int .i64 j ∧ Hid (Own w1.heap.size p wr (.slice (some ⟨w1.heap.size, 0, none⟩) n n) 2 1 n ((waysIn x k (waysTo xs k) j).map (Value.int .i64))) ∧ Hid (Own p (p + 1) wr (.slice (some ⟨p, 0, none⟩) n n) 4 1 n ((innerIn x (innerTo xs k) j).map Value.bool)) ∧ Hid (Below w1.heap.size w1 wr) ∧ p + 1 ≤ wr.heap.size) (fun i _ => nb - (intOf i).toNat)
          case atStart => exact ⟨0, Nat.zero_le _, rfl, hO7, hQ7, hB6, hs7⟩
          case round =>
            obtain ⟨j, hj, rfl, hO8, hQ8, hB8, hs8⟩ := hrel
            by_cases hjl : j < nb
            · obtain ⟨bb, ob, bn, rfl, hbb, hbn, hbe, f1⟩ := hCl.out j hjl
              have hBw8 := Lib.hid (below_on hB1.out (Nat.le_refl _) hB8.out)
              have g2 : wr.cell? ⟨bb, ob + j, none⟩ = some (.int .i64 (bn : Int)) := by rw [hBw8.out.cell (p := ⟨bb, ob + j, none⟩) hbb]; exact f1
              obtain ⟨g3, g4⟩ := own_num hO8.out (hLenW.out x k k j) hlt
              obtain ⟨g5, _⟩ := own_num hO8.out (hLenW.out x k k j) (show bn < n by omega)
              have hst1 : Hid (waysIn x k (waysTo xs k) (j + 1) = (waysIn x k (waysTo xs k) j).set k (addI ((waysIn x k (waysTo xs k) j).getD k 0) ((waysIn x k (waysTo xs k) j).getD bn 0))) := Lib.hid (by simp only [waysIn]; rw [hbe, Int.toNat_natCast])
              have hst2 : Hid (innerIn x (innerTo xs k) (j + 1) = (innerIn x (innerTo xs k) j).set bn true) := Lib.hid (by simp only [innerIn]; rw [hbe, Int.toNat_natCast])
              generalize hc0 : (waysIn x k (waysTo xs k) j).getD k 0 = c0 at *
              generalize hd0 : (waysIn x k (waysTo xs k) j).getD bn 0 = d0 at *
              have hw1 : IntKind.i64.wrap (c0 + d0) = addI c0 d0 := rfl
              have hi1 : (bn : Int) < n := by omega
              have hi2 : (j : Int) < nb := by omega
              clear hc0 hd0
              go_wp2_with fail
              go_still_tail 10, (by kernel_rfl)
              change wpList _ _ _ _ _ wr.drew
              have hO8d := Lib.hid (show Own w1.heap.size p wr.drew _ _ _ _ _ from ⟨hO8.out.1.drew, hO8.out.2.1, hO8.out.2.2⟩)
              have hQ8d := Lib.hid (show Own p (p + 1) wr.drew _ _ _ _ _ from ⟨hQ8.out.1.drew, hQ8.out.2.1, hQ8.out.2.2⟩)
              have hB8d := Lib.hid (show Below w1.heap.size w1 wr.drew from hB8.out.drew)
              have hs8d : p + 1 ≤ wr.drew.heap.size := hs8
              have e5 : wr.drew.cell? ⟨w1.heap.size, k, none⟩ = some (.int .i64 c0) := g3
              have hf1 : wr.drew.frozen? ⟨w1.heap.size, k, none⟩ = false := g4
              clear hO8 hQ8 hB8 hs8 g2 g3 g4 g5 hBw8
              generalize wr.drew = w5 at *
              have hP1 := own_put hO8d.out k (.int .i64 (addI c0 d0))
              rw [← List.map_set, ← hst1.out] at hP1
              have hO9 := Lib.hid hP1.1
              have hQ9 := hQ8d.out.apart hP1.2 (.inr (Nat.le_refl _)) hs8d
              have hB9 := Lib.hid (Inside.below hB8d.out hP1.2 hB8d.out.size (Nat.le_refl _))
              obtain ⟨k3, k4⟩ := own_bit hQ9 (hLenB.out x k j) (show bn < n by omega)
              have hP2 := own_put hQ9 bn (.bool true)
              rw [← List.map_set, ← hst2.out] at hP2
              have hQ10 := Lib.hid hP2.1
              have hO10 := Lib.hid (hO9.out.apart hP2.2 (.inl (Nat.le_refl _)) (by simpa [World.setCell] using (show p ≤ w5.heap.size by omega)))
              have hB10 := Lib.hid (Inside.below hB9.out hP2.2 hB9.out.size (by omega))
              have hs10 : p + 1 ≤ ((w5.setCell ⟨w1.heap.size, k, none⟩ (.int .i64 (addI c0 d0))).setCell ⟨p, bn, none⟩ (.bool true)).heap.size := by simpa [World.setCell] using hs8d
              clear hP1 hP2 hQ9 hO9 hB9 hO8d hQ8d hB8d f1
              go_wp2_with fail
              go_roundw
              case rel => exact ⟨j + 1, by omega, by go_num, hO10, hQ10, hB10, hs10⟩
              case measure => simp [intOf]; omega
            · have hO9 := hO8.out
              rw [show j = nb by omega, ← hNxW.out] at hO9
              have hQ9 := hQ8.out
              rw [show j = nb by omega, ← hNxB.out] at hQ9
              have hO10 := Lib.hid hO9
              have hQ10 := Lib.hid hQ9
              clear hO9 hO8 hQ9 hQ8
              go_wp2_with fail
              go_roundw
              case rel => exact ⟨k + 1, by omega, by go_num, hO10, hQ10, hB8, hs8⟩
              case measure => simp [intOf]; omega
      · have hk2 : k = n := by omega
        subst hk2
        have hLw := hLenW0.out k
        have hLb := hLenB0.out k
        have hO6 := Lib.hid hO5.out
        have hQ6 := Lib.hid hQ5.out
        clear hO5 hQ5
        generalize waysTo xs k = ws at *
        generalize innerTo xs k = bs at *
        go_wp2_with fail
        have hRs := Lib.hid (hRes.out k rfl)
        have hws : ∀ q, totTo ws bs (q + 1) = if bs.getD q false then totTo ws bs q else addI (totTo ws bs q) (ws.getD q 0) := fun _ => rfl
        have hTot := Lib.hid hws
        clear hws
        go_loopw [10, 60] (fun z i wq => ∃ (j : Nat) (y : Int), j ≤ k ∧ i = .int .i64 j ∧ z = .int .i64 y ∧ Hid (y = totTo ws bs j) ∧ Hid (Own w1.heap.size p wq (.slice (some ⟨w1.heap.size, 0, none⟩) k k) 2 1 k (ws.map (Value.int .i64))) ∧ Hid (Own p (p + 1) wq (.slice (some ⟨p, 0, none⟩) k k) 4 1 k (bs.map Value.bool)) ∧ Hid (Below w1.heap.size w1 wq)) (fun _ i _ => k - (intOf i).toNat)
        case atStart => exact ⟨0, 0, Nat.zero_le _, rfl, rfl, Lib.hid rfl, hO6, hQ6, hB5⟩
        case round =>
          obtain ⟨j, y, hj, rfl, rfl, hy, hO7, hQ7, hB7⟩ := hrel
          by_cases hjl : j < k
          · obtain ⟨g1, _⟩ := own_num hO7.out hLw hjl
            obtain ⟨g2, _⟩ := own_bit hQ7.out hLb hjl
            have hjI : (j : Int) < k := by omega
            have hNx := Lib.hid (hTot.out j)
            cases hbj : bs.getD j false
            · rw [hbj] at g2 hNx
              rw [if_neg (by simp)] at hNx
              have hy2 := Lib.hid (show addI y (ws.getD j 0) = totTo ws bs (j + 1) by rw [hNx.out, hy.out])
              generalize ws.getD j 0 = c at *
              have hw : IntKind.i64.wrap (y + c) = addI y c := rfl
              clear hNx
              go_wp2_with fail
              go_roundw
              case rel => exact ⟨j + 1, _, by omega, by go_num, rfl, hy2, hO7, hQ7, hB7⟩
              case measure => simp [intOf]; omega
            · rw [hbj] at g2 hNx
              rw [if_pos rfl] at hNx
              have hy2 := Lib.hid (show y = totTo ws bs (j + 1) by rw [hNx.out, hy.out])
              clear hNx
              go_wp2_with fail
              go_roundw
              case rel => exact ⟨j + 1, _, by omega, by go_num, rfl, hy2, hO7, hQ7, hB7⟩
              case measure => simp [intOf]; omega
          · have hE := Lib.hid (show y = res by rw [hy.out, hRs.out, show j = k by omega])
            have hB8 := Lib.hid (below_on hB1.out (Nat.le_refl _) hB7.out)
            go_wp2_with fail
            go_ret2
            exact ⟨by simp only [hE.out]; rfl, hB8.out⟩
theorem countWays_both (xs : List TaskD) (_ : ∀ y ∈ xs, y.wf) : ∃ (r0 : Int) (r1 : Bool),
    (∀ (B : Nat) (v : Value) (w : World), LstTask B w v xs → B ≤ w.heap.size → Calls Try.prog 36 #[v] w fun e w' => e = .returned (.tuple #[.int .i64 r0, .bool r1]) ∧ Below w.heap.size w w') ∧
    (∀ (B : Nat) (v : Value) (w : World), LstTask B w v xs → B ≤ w.heap.size → Calls Try.prog 37 #[v] w fun e w' => e = .returned (.tuple #[.int .i64 r0, .bool r1]) ∧ Below w.heap.size w w') :=
  ⟨waysRes xs, areTasks xs, fun B v w h hB => specCountWays_any B v xs w h hB, fun B v w h hB => implCountWays_any B v xs w h hB⟩
end Go.Proofs.Ytlgojbbhjhifhaa
