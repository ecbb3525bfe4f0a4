/- Contracts: the tables that keep all rules, one behind the other, each only lent, for whatever loop takes them. No condition. -/
import Derived.Test.YtncbjdkidkklgaaTabImpl
import Derived.Test.YtncbjdkidkklgaaLent
namespace Go.Proofs.Ytncbjdkidkklgaa
open Go.RowKit Go.Lst Go.Shelf

attribute [local go_sem] Oper.semAt_some

/-- The number that digits tell. -/
def numF (p : Nat) (f : Nat → Nat) : Nat → Nat
  | 0 => 0
  | i + 1 => numF p f i * p + f (i + 1)
theorem numF_tab {p d k : Nat} (hk : k < p ^ d) : ∀ i, i ≤ d → numF p (tabAt p d k) i = k / p ^ (d - i)
  | 0, _ => by show 0 = _; rw [Nat.sub_zero, Nat.div_eq_of_lt hk]
  | i + 1, hi => by
    show numF p (tabAt p d k) i * p + tabAt p d k (i + 1) = _
    rw [numF_tab hk i (by omega)]
    unfold tabAt
    rw [if_neg (by omega)]
    obtain ⟨c, hc⟩ : ∃ c, d - i = c + 1 := ⟨d - i - 1, by omega⟩
    rw [hc, show d - (i + 1) = c by omega, Nat.pow_succ, ← Nat.div_div_eq_div_mul]
    have := Nat.div_add_mod (k / p ^ c) p
    rw [Nat.mul_comm] at this; exact this
theorem numF_congr {p : Nat} {f g : Nat → Nat} : ∀ i, (∀ q, 1 ≤ q → q ≤ i → f q = g q) → numF p f i = numF p g i
  | 0, _ => rfl
  | i + 1, h => by
    show numF p f i * p + f (i + 1) = numF p g i * p + g (i + 1)
    rw [numF_congr i (fun q h1 h2 => h q h1 (by omega)), h (i + 1) (by omega) (Nat.le_refl _)]
def cellN (w : World) (g i : Nat) : Nat := match w.cell? ⟨g, i, none⟩ with
  | some (.int _ x) => x.toNat
  | _ => 0
def stillB : Value → Bool
  | .bool b => b
  | _ => false
def tabLack (p d g : Nat) (b : Value) (w : World) : Nat := if stillB b then p ^ d - numF p (cellN w g) d else 0
theorem tabLack_at {p d k g A : Nat} {w : World} (hk : k < p ^ d) (ho : w.ownsRow A 2 1 (.slice (some ⟨g, 0, none⟩) (d + 1) (d + 1)) (d + 1) ((tabL p d k).map (Value.int .i64))) : tabLack p d g (.bool true) w = p ^ d - k := by
  unfold tabLack stillB
  rw [if_pos rfl, numF_congr (g := tabAt p d k) d (fun q h1 h2 => ?_), numF_tab hk d (Nat.le_refl _), Nat.sub_self, Nat.pow_zero, Nat.div_one]
  unfold cellN
  rw [ho.cellAt q (by omega), List.getElem?_map]
  unfold tabL
  rw [List.getElem?_map, List.getElem?_range (by omega)]
  simp

/-- A table that is lent: where it lies, and its number. -/
abbrev TabV := Nat × Nat
abbrev tabVal (d : Nat) (x : TabV) : Array Value := #[.slice (some ⟨x.1, 0, none⟩) (d + 1) (d + 1)]
def TabLt (n₁ p d : Nat) (x : TabV) (W : World) : Prop := n₁ ≤ x.1 ∧ W.ownsRow n₁ 2 1 (.slice (some ⟨x.1, 0, none⟩) (d + 1) (d + 1)) (d + 1) ((tabL p d x.2).map (Value.int .i64))
theorem TabLt.own {n₁ p d : Nat} (B : Nat) (x : TabV) : OwnFrom B (fun (_ : Unit) W => TabLt n₁ p d x W) := fun _ X Y row hs hg hr => by
  refine ⟨hs.1, hs.2.kept hg (.inr fun e => ?_)⟩
  obtain ⟨_, o, ho, hc⟩ := hr _ e.symm
  rcases hs.2.2 with ⟨e1, _⟩ | ⟨g', _, _, e1, _, h3, _⟩
  · cases e1
  · injection e1 with e1
    injection e1 with e1
    injection e1 with e1
    rw [e1] at ho
    rw [h3] at ho
    injection ho with ho
    rw [← ho] at hc; cases hc
set_option maxHeartbeats 1000000 in
theorem keptTables_any (e p : Int) (a : Option Addr) (n c : Nat) (w : World) :
    Calls Try.prog 23 #[.int .i64 e, .slice a n c, .int .i64 p] w fun e' w' => e' = .returned (.func (.func 35) #[] #[.pointer (some ⟨w.heap.size, 0, none⟩), .pointer (some ⟨w.heap.size + 2, 0, none⟩), .pointer (some ⟨w.heap.size + 1, 0, none⟩)]) ∧
      w' = ((w.alloc (.cells #[.int .i64 e] 2)).alloc (.cells #[.slice a n c] 27)).alloc (.cells #[.int .i64 p] 2) := by
  go_enter Try.func23, Try.ntmps23
  go_wp2_with fail
  go_ret
  exact ⟨rfl, rfl⟩
set_option maxHeartbeats 1000000 in
theorem waitBy_at (p : Int) (a : Option Addr) (n c : Nat) (w : World) : Calls Try.prog 27 #[.int .i64 p, .slice a n c] w fun e' w'' => e' = .returned (.func (.func 38) #[] #[.pointer (some ⟨w.heap.size + 1, 0, none⟩), .pointer (some ⟨w.heap.size, 0, none⟩)]) ∧ w'' = (w.alloc (.cells #[.int .i64 p] 2)).alloc (.cells #[.slice a n c] 24) := by
  go_enter Try.func27, Try.ntmps27
  go_wp2_with fail
  go_ret
  exact ⟨rfl, rfl⟩
theorem kept_row {n₀ n₁ A e k n c g : Nat} {W W' : World} {cs : List Value} (hk : KeptC n₀ n₁ W W') (hg : n₁ ≤ g) (h : W.ownsRow A e k (.slice (some ⟨g, 0, none⟩) n c) n cs) : W'.ownsRow A e k (.slice (some ⟨g, 0, none⟩) n c) n cs := by
  refine ⟨h.1, ?_⟩
  rcases h.2 with ⟨h1, _⟩ | ⟨g', cap', cur, h1, h2, h3, h4⟩
  · cases h1
  · injection h1 with e1 _ e3
    injection e1 with e1
    injection e1 with e1 _ _
    subst e1 e3
    exact .inr ⟨_, _, cur, rfl, h2, hk.2 _ _ _ _ hg h3, h4⟩
theorem cell_next {w w' : World} {g : Nat} {p : Addr} {v : Value} (h : w.grownBy w' (some g)) (hp : p.block ≠ g) (hc : w.cell? p = some v) : w'.cell? p = some v :=
  (World.cell?_of_block (h.block p.block (World.block_lt_of_cell? w p hc) (fun e => hp (by cases e; rfl)))).trans hc
set_option maxRecDepth 100000 in
set_option maxHeartbeats 8000000 in
theorem kept1_in (l Be Bp Br n₀ n₁ n P d : Nat) (v : Value) (xs : List RuleD) (h1 : 1 ≤ P) (h2 : P ≤ 60) (hd : d ≤ 11) (hN : P ^ d ≤ 4096) (hn : 2 ≤ n) (hok : ∀ (i : Nat) (x : RuleD), xs[i]? = some x → okRule ((d + 1 : Nat) : Int) (P : Int) x = true)
    (J Jx : List TabV → World → Prop) (W : World) (hJ : LentFrom W.heap.size 1 J)
    (hY : ∀ pre x W1, J pre W1 → TabLt n₁ P d x W1 → W.heap.size + 1 ≤ W1.heap.size → pre.length < P ^ d → YieldAt Fence.wide (n - 1) Try.prog l (tabVal d x) W1 fun e W' =>
      (e = .returned (.bool true) ∧ J (pre ++ [x]) W' ∧ KeptC n₀ n₁ W1 W') ∨ (e = .returned (.bool false) ∧ Jx (pre ++ [x]) W'))
    (hBe : W.cell? ⟨Be, 0, none⟩ = some (.int .i64 ((d + 1 : Nat) : Int))) (hBp : W.cell? ⟨Bp, 0, none⟩ = some (.int .i64 (P : Int))) (hBr : W.cell? ⟨Br, 0, none⟩ = some v) (hL : LstRule n₀ W v xs)
    (hnW : n₁ ≤ W.heap.size) (bp : Bp < n₀ ∨ n₁ ≤ Bp) (br : Br < n₀ ∨ n₁ ≤ Br) (hn₀ : n₀ ≤ n₁) (h0 : J [] W) :
    CallsIn Fence.wide n Try.prog 35 #[.func (.yield l) #[] #[], .pointer (some ⟨Be, 0, none⟩), .pointer (some ⟨Bp, 0, none⟩), .pointer (some ⟨Br, 0, none⟩)] W fun e W' => (∃ v, e = .returned v) ∧
      ((∃ ys : List TabV, ys.map (·.2) = keptTo P d xs (P ^ d) ∧ J ys W') ∨ (∃ pre : List TabV, pre.map (·.2) <+: keptTo P d xs (P ^ d) ∧ Jx pre W')) := by
  have hnn : 1 ≤ n := by omega
  have lE : Be < W.heap.size := World.block_lt_of_cell? W _ hBe
  have lP : Bp < W.heap.size := World.block_lt_of_cell? W _ hBp
  have lR : Br < W.heap.size := World.block_lt_of_cell? W _ hBr
  obtain ⟨a1, cap1, rfl, hl1, _⟩ := hL.at_
  have hLr := Lib.hid hL
  have hYy := Lib.hid hY
  have hJj := Lib.hid hJ
  have hOk := Lib.hid hok
  have hN1 : 1 ≤ P ^ d := Nat.pow_pos (by omega)
  have hKp := Lib.hid (fun k (hk : k ≤ P ^ d) => keptTo_prefix P d xs hk)
  have hKl := Lib.hid (keptTo_length P d xs)
  have hNx := Lib.hid (fun A k g (w : World) ho (hk : k < P ^ d) => nextTable_any A P d k g w h1 h2 hd hk ho)
  have hLk := Lib.hid (fun k g A (w : World) (hk : k < P ^ d) ho => tabLack_at (p := P) (d := d) (k := k) (g := g) (A := A) (w := w) hk ho)
  have hSc := Lib.hid (keptTo_succ P d xs)
  clear hL hY hJ hok
  obtain ⟨i0, hi, hz0, hz1, hz2⟩ := info_parts infoI
  generalize hNN : P ^ d = N at *
  have hNe := Lib.hid hNN
  clear hNN
  refine callsIn_of_wp Try.func35 rfl trivial ?_ rfl
  simp only [Try.ntmps35, List.size_toArray, List.length_cons, List.length_nil, Nat.reduceAdd, Nat.reduceSub, Array.replicate_succ, Array.replicate_zero, List.push_toArray, List.append_toArray, List.nil_append, List.cons_append]
  gi_wp2_with (gi_at_make; refine wpListIn_made _ rfl _ _ _ rfl W.heap.size _ i0 (.int .i64 0) 1 Try.underlying24 hi hz0 hz1 _ _ _ _ (d + 1) rfl rfl (by first | rfl | omega) (by first | rfl | omega) ?c1 ?c2 ?c3 ?_)
  case c1 => first | omega | (rw [hz2]; omega)
  case c2 => unfold maxLen; omega
  try (case c3 => exact Nat.le_refl _)
  intro w2 hown2 hg2
  have x2 : w2.ownsRow W.heap.size 2 1 (.slice (some ⟨W.heap.size, 0, none⟩) (d + 1) (d + 1)) (d + 1) ((tabL P d 0).map (Value.int .i64)) := by
    rw [toList_madeCells_one] at hown2
    rw [tab_zero, List.map_replicate]
    exact hown2
  have hJ2 := hJj.out [] _ _ none h0 hg2 (fun r e => by cases e)
  have hB2 : Below W.heap.size W w2 := (Below.refl _ _).grown hg2 (Nat.le_refl _) (fun k hk => by cases hk)
  have hs2 : W.heap.size < w2.heap.size := (hown2.lt _ rfl).2
  have hX := Lib.hid x2
  have hJx2 := Lib.hid hJ2
  have hWb := Lib.hid (fun w' => waitBy_at (P : Int) (some ⟨W.heap.size, 0, none⟩) (d + 1) (d + 1) w')
  have cP2 : w2.cell? ⟨Bp, 0, none⟩ = some (.int .i64 (P : Int)) := (hB2.cell (p := ⟨Bp, 0, none⟩) lP).trans hBp
  clear x2 hJ2 hown2 hg2
  gi_wp2_with (refine ⟨trivial, ?_⟩; gi_at_call 27; (with_reducible refine (callsIn_wide.2 (hWb.out _)).mono ?_); rintro e' w' ⟨rfl, rfl⟩)
  obtain ⟨w3, hw3⟩ : ∃ w3, w3 = (w2.alloc (.cells #[.int .i64 (P : Int)] 2)).alloc (.cells #[.slice (some ⟨W.heap.size, 0, none⟩) (d + 1) (d + 1)] 24) := ⟨_, rfl⟩
  have hB3 : Below w2.heap.size w2 w3 := by rw [hw3]; exact below_alloc (below_alloc (Below.refl _ _) _) _
  have c0 : w3.cell? ⟨w2.heap.size, 0, none⟩ = some (.int .i64 (P : Int)) := by rw [hw3]; simp
  have c1 : w3.cell? ⟨w2.heap.size + 1, 0, none⟩ = some (.slice (some ⟨W.heap.size, 0, none⟩) (d + 1) (d + 1)) := by rw [hw3]; simp
  have s3 : w3.heap.size = w2.heap.size + 2 := by rw [hw3]; simp
  have hJ3 := hJj.out [] _ _ none hJx2.out (grown_of_below hB3) (fun r e => by cases e)
  have hX3 : w3.ownsRow W.heap.size 2 1 (.slice (some ⟨W.heap.size, 0, none⟩) (d + 1) (d + 1)) (d + 1) ((tabL P d 0).map (Value.int .i64)) := hX.out.kept (grown_of_below hB3) (.inr (fun e => by cases e))
  have hBW := Lib.hid (hB2.trans (hB3.mono (Nat.le_of_lt hs2)))
  rw [← hw3]
  generalize hSS : w2.heap.size = S at *
  have kP := Lib.hid ((hBW.out.cell (p := ⟨Bp, 0, none⟩) lP).trans hBp)
  have kR := Lib.hid ((hBW.out.cell (p := ⟨Br, 0, none⟩) lR).trans hBr)
  have h3c0 := Lib.hid c0
  have h3c1 := Lib.hid c1
  have h3X := Lib.hid hX3
  have h3J := Lib.hid hJ3
  have hSg : W.heap.size < S := hs2
  have hS3 : S + 2 ≤ w3.heap.size := by omega
  clear hw3 c0 c1 hX3 hJ3 s3 hs2 hB3 hB2 hSS hX hJx2 cP2 hBp hBr hBe
  obtain ⟨gW, hgW⟩ : ∃ gW, gW = W.heap.size := ⟨_, rfl⟩
  have hGW := Lib.hid hgW
  rw [← hgW] at hSg h3c1 h3X hJj hWb lE lP lR hnW ⊢
  clear hgW hWb
  gi_loopw [7] (fun b wr => ∃ (k : Nat) (pre : List TabV) (q : Bool), k ≤ N ∧ b = .bool q ∧ Hid (q = decide (k < N)) ∧ pre.map (·.2) = keptTo P d xs k ∧ J pre wr ∧ Hid (k < N → wr.ownsRow gW 2 1 (.slice (some ⟨gW, 0, none⟩) (d + 1) (d + 1)) (d + 1) ((tabL P d k).map (Value.int .i64))) ∧ Hid (wr.cell? ⟨S + 1, 0, none⟩ = some (.slice (some ⟨gW, 0, none⟩) (d + 1) (d + 1))) ∧ Hid (wr.cell? ⟨S, 0, none⟩ = some (.int .i64 (P : Int))) ∧ Hid (wr.cell? ⟨Bp, 0, none⟩ = some (.int .i64 (P : Int))) ∧ Hid (wr.cell? ⟨Br, 0, none⟩ = some (.slice a1 xs.length cap1)) ∧ Hid (Below n₀ W wr) ∧ S + 2 ≤ wr.heap.size) (fun b wr => tabLack P d gW b wr)
  case atStart => exact ⟨0, [], true, Nat.zero_le _, rfl, Lib.hid (decide_eq_true (by omega)).symm, rfl, h3J.out, Lib.hid (fun _ => h3X.out), h3c1, h3c0, kP, kR, Lib.hid (hBW.out.mono (by have := hGW.out; omega)), hS3⟩
  case round =>
    obtain ⟨k, pre, q, hk, rfl, hq, hpre, hJs, hRow, k1, k0, kP, kR, hB, hsz⟩ := hrel
    have hPre := Lib.hid hpre
    have hJk := Lib.hid hJs
    clear hpre hJs
    cases q
    · have hkN : k = N := by have := of_decide_eq_false hq.out.symm; omega
      gi_wp2
      go_end0
      exact ⟨⟨_, rfl⟩, .inl ⟨pre, by rw [hPre.out, hkN], hJk.out⟩⟩
    · have hkN : k < N := of_decide_eq_true hq.out.symm
      have hrow := Lib.hid (hRow.out hkN)
      clear hRow hq
      have hTi := tabL_in (d := d) (k := k) h1
      have hTl : ((tabL P d k).length : Int) = ((d + 1 : Nat) : Int) := by rw [tabL_length]
      have hn0g : n₀ ≤ gW := by omega
      have hRul : Hid (LstRule (gW + 1) wr (.slice a1 xs.length cap1) xs) := Lib.hid ((hLr.out.below hB.out (Nat.le_refl _)).mono (by omega))
      have hTab := Lib.hid (show LstI (gW + 1) wr (.slice (some ⟨gW, 0, none⟩) (d + 1) (d + 1)) (tabL P d k) by
        have hx : Lst.Own gW (gW + 1) wr (.slice (some ⟨gW, 0, none⟩) (d + 1) (d + 1)) 2 1 (tabL P d k).length ((tabL P d k).map (Value.int .i64)) := by
          rw [tabL_length]
          exact ⟨hrow.out, by unfold maxLen; omega, fun g hg => by (have : gW = g := by simpa [Value.ownBlock] using hg); omega⟩
        exact hx.lstI (Nat.le_refl _))
      have hAk := Lib.hid (areKept_any (gW + 1) _ xs wr hRul.out (by omega) ((d + 1 : Nat) : Int) (P : Int) _ (tabL P d k) ⟨S + 1, 0, none⟩ ⟨S, 0, none⟩ k1.out k0.out hTab.out hOk.out hTl hTi (by omega) (by omega))
      have c3 := kR.out
      have hRkN := Lib.hid hkN
      have hLk1 := Lib.hid (hLk.out k gW gW wr hkN hrow.out)
      have hkb : k < 4096 := by omega
      cases hq : keepsAll P (tabL P d k) xs
      · rw [hq] at hAk
        have hPre2 : Hid (pre.map (·.2) = keptTo P d xs (k + 1)) := Lib.hid (by rw [hSc.out, hq]; exact hPre.out)
        have hf := Lib.hid hq
        clear hq hTi hTl hRul hTab
        gi_wp2_with ((refine ⟨trivial, ?_⟩; gi_at_call 37; (with_reducible refine (callsIn_wide.2 hAk.out).mono ?_); rintro e' wk ⟨rfl, hbk⟩; have hbK := Lib.hid hbk; have cPk := (hbk.cell (p := ⟨Bp, 0, none⟩) (show Bp < wr.heap.size by omega)).trans kP.out; clear hbk))
        refine ⟨(fun f hf => by cases hf), ?_⟩
        have hNT := Lib.hid (hNx.out gW k gW wk (hrow.out.kept (grown_of_below hbK.out) (.inr (fun e => by cases e))) hRkN.out)
        gi_wp2_with (refine ⟨trivial, ?_⟩; gi_at_call 36; (with_reducible refine (callsIn_wide.2 hNT.out).mono ?_); rintro e' w9 ⟨rfl, hrow9, hg9⟩; have hR9 := Lib.hid hrow9; have hG9 := Lib.hid hg9; clear hrow9 hg9)
        have hbr := hbK.out.mono (show n₀ ≤ wr.heap.size by omega)
        have y1 := Lib.hid ((hbK.out.cell (p := ⟨S + 1, 0, none⟩) (show S + 1 < wr.heap.size by omega)).trans k1.out)
        have y0 := Lib.hid ((hbK.out.cell (p := ⟨S, 0, none⟩) (show S < wr.heap.size by omega)).trans k0.out)
        have yP := Lib.hid ((hbK.out.cell (p := ⟨Bp, 0, none⟩) (show Bp < wr.heap.size by omega)).trans kP.out)
        have yR := Lib.hid ((hbK.out.cell (p := ⟨Br, 0, none⟩) (show Br < wr.heap.size by omega)).trans kR.out)
        have yB := Lib.hid (hB.out.trans hbr)
        have yJ := Lib.hid (hJj.out pre _ _ none hJk.out (grown_of_below hbK.out) (fun r e => by cases e))
        have yS : S + 2 ≤ wk.heap.size := Nat.le_trans hsz hbK.out.size
        clear hNT
        go_roundw
        case rel => exact ⟨k + 1, pre, _, by omega, rfl, Lib.hid rfl, hPre2.out, hJj.out _ wk w9 (some gW) yJ.out hG9.out (fun r e => by cases e; exact ⟨Nat.le_refl _, .inl (Nat.lt_succ_self _)⟩), hR9, Lib.hid (cell_next hG9.out (by show S + 1 ≠ gW; omega) y1.out), Lib.hid (cell_next hG9.out (by show S ≠ gW; omega) y0.out), Lib.hid (cell_next hG9.out (by show Bp ≠ gW; omega) yP.out), Lib.hid (cell_next hG9.out (by show Br ≠ gW; omega) yR.out), Lib.hid (yB.out.trans ((Below.refl n₀ wk).grown hG9.out (by have := yS; omega) (fun k e => by cases e; exact hn0g))), by have := hG9.out.size; have := yS; omega⟩
        case measure =>
          rw [hLk1.out]
          by_cases hk2 : k + 1 < N
          · rw [decide_eq_true hk2, hLk.out (k + 1) gW gW w9 hk2 (hR9.out hk2)]; omega
          · rw [decide_eq_false hk2]; simp [tabLack, stillB]; have := hRkN.out; omega
      · rw [hq] at hAk
        have hPre2 : Hid ((pre ++ [((gW, k) : TabV)]).map (·.2) = keptTo P d xs (k + 1)) := Lib.hid (by rw [hSc.out, hq, List.map_append, hPre.out]; rfl)
        have hlen : pre.length < N := by
          have h9 := hKl.out k
          rw [← hPre.out, List.length_map] at h9
          omega
        have hmix : Try.prog.follows .mixedOrders = true := by kernel_rfl
        clear hq hTi hTl hRul hTab
        gi_wp2_with (refine ⟨trivial, ?_⟩; gi_at_call 37; (with_reducible refine (callsIn_wide.2 hAk.out).mono ?_); rintro e' wk ⟨rfl, hbk⟩; have hbK := Lib.hid hbk; clear hbk)
        have yX : wk.ownsRow gW 2 1 (.slice (some ⟨gW, 0, none⟩) (d + 1) (d + 1)) (d + 1) ((tabL P d k).map (Value.int .i64)) := hrow.out.kept (grown_of_below hbK.out) (.inr (fun e => by cases e))
        have hLt : TabLt n₁ P d (gW, k) wk := ⟨by show n₁ ≤ gW; omega, ownsRow_mono yX (by omega)⟩
        obtain ⟨fn, tmps, assign, body, hy, hR⟩ := hYy.out pre (gW, k) wk (hJj.out pre _ _ none hJk.out (grown_of_below hbK.out) (fun r e => by cases e)) hLt (by have := hbK.out.size; have := hGW.out; omega) hlen
        dsimp only [tabVal] at hy
        have yXh := Lib.hid yX
        clear yX hLt
        have y1 := Lib.hid ((hbK.out.cell (p := ⟨S + 1, 0, none⟩) (show S + 1 < wr.heap.size by omega)).trans k1.out)
        have y0 := Lib.hid ((hbK.out.cell (p := ⟨S, 0, none⟩) (show S < wr.heap.size by omega)).trans k0.out)
        have yP := Lib.hid ((hbK.out.cell (p := ⟨Bp, 0, none⟩) (show Bp < wr.heap.size by omega)).trans kP.out)
        have yR := Lib.hid ((hbK.out.cell (p := ⟨Br, 0, none⟩) (show Br < wr.heap.size by omega)).trans kR.out)
        have yB := Lib.hid (hB.out.trans (hbK.out.mono (show n₀ ≤ wr.heap.size by omega)))
        have yS : S + 2 ≤ wk.heap.size := Nat.le_trans hsz hbK.out.size
        have hgn : n₁ ≤ gW := by omega
        have hSn : n₁ ≤ S := by omega
        rw [hy]
        go_simp
        gi_wp2_with (first | (with_reducible refine hR.mono ?_; (rintro e W5 hE; rcases hE with ⟨rfl, hJ5, hk5⟩ | ⟨rfl, hJ5⟩; all_goals try (have cP5 := hk5.cell2 (p := ⟨Bp, 0, none⟩) bp yP.out; have hNT := Lib.hid (hNx.out gW k gW W5 (kept_row hk5 hgn yXh.out) hRkN.out); have hK5 := Lib.hid hk5; clear hk5); all_goals (have hJ6 := Lib.hid hJ5; clear hJ5 hR hy))) | (refine ⟨trivial, ?_⟩; gi_at_call 36; (with_reducible refine (callsIn_wide.2 hNT.out).mono ?_); rintro e' w9 ⟨rfl, hrow9, hg9⟩; have hR9 := Lib.hid hrow9; have hG9 := Lib.hid hg9; clear hrow9 hg9 hNT))
        · go_roundw
          case rel => exact ⟨k + 1, pre ++ [(gW, k)], _, by omega, rfl, Lib.hid rfl, hPre2.out, hJj.out _ W5 w9 (some gW) hJ6.out hG9.out (fun r e => by cases e; exact ⟨Nat.le_refl _, .inl (Nat.lt_succ_self _)⟩), hR9, Lib.hid (cell_next hG9.out (by show S + 1 ≠ gW; omega) (hK5.out.cell (p := ⟨S + 1, 0, none⟩) (by show n₁ ≤ S + 1; omega) y1.out)), Lib.hid (cell_next hG9.out (by show S ≠ gW; omega) (hK5.out.cell (p := ⟨S, 0, none⟩) hSn y0.out)), Lib.hid (cell_next hG9.out (by show Bp ≠ gW; omega) (hK5.out.cell2 (p := ⟨Bp, 0, none⟩) bp yP.out)), Lib.hid (cell_next hG9.out (by show Br ≠ gW; omega) (hK5.out.cell2 (p := ⟨Br, 0, none⟩) br yR.out)), Lib.hid ((yB.out.trans hK5.out.1).trans ((Below.refl n₀ W5).grown hG9.out (by have := Nat.le_trans yS hK5.out.1.size; omega) (fun k e => by cases e; exact hn0g))), by have := hG9.out.size; have := Nat.le_trans yS hK5.out.1.size; omega⟩
          case measure =>
            rw [hLk1.out]
            by_cases hk2 : k + 1 < N
            · rw [decide_eq_true hk2, hLk.out (k + 1) gW gW w9 hk2 (hR9.out hk2)]; omega
            · rw [decide_eq_false hk2]; simp [tabLack, stillB]; have := hRkN.out; omega
        · refine bodyPost_ret (results_none rfl _ _ _) rfl ?_
          refine ⟨⟨_, rfl⟩, .inr ⟨pre ++ [(gW, k)], ?_, by assumption⟩⟩
          rw [hPre2.out]
          exact hKp.out (k + 1) hRkN.out
/-- The tables that keep all rules, for every loop body that keeps what lay below n₀, and the iterator's own blocks. -/
theorem kept_stops (n Be Bp Br n₀ n₁ P d : Nat) (v : Value) (xs : List RuleD) (h1 : 1 ≤ P) (h2 : P ≤ 60) (hd : d ≤ 11) (hN : P ^ d ≤ 4096) (hn : 2 ≤ n) (hok : ∀ (i : Nat) (x : RuleD), xs[i]? = some x → okRule ((d + 1 : Nat) : Int) (P : Int) x = true) (w : World)
    (hBe : w.cell? ⟨Be, 0, none⟩ = some (.int .i64 ((d + 1 : Nat) : Int))) (hBp : w.cell? ⟨Bp, 0, none⟩ = some (.int .i64 (P : Int))) (hBr : w.cell? ⟨Br, 0, none⟩ = some v) (hL : LstRule n₀ w v xs)
    (hnW : n₁ ≤ w.heap.size) (bp : Bp < n₀ ∨ n₁ ≤ Bp) (br : Br < n₀ ∨ n₁ ≤ Br) (hn₀ : n₀ ≤ n₁) :
    SeqStopsL Fence.wide n Try.prog 35 #[.pointer (some ⟨Be, 0, none⟩), .pointer (some ⟨Bp, 0, none⟩), .pointer (some ⟨Br, 0, none⟩)] (tabVal d) (TabLt n₁ P d) (KeptC n₀ n₁) (fun ys => ys.map (·.2) = keptTo P d xs (P ^ d)) (fun pre => pre.map (·.2) <+: keptTo P d xs (P ^ d)) (P ^ d) 1 w := fun l J Jx W hW hJ _ hY h0 => by
  have lE : Be < w.heap.size := World.block_lt_of_cell? w _ hBe
  have lP : Bp < w.heap.size := World.block_lt_of_cell? w _ hBp
  have lR : Br < w.heap.size := World.block_lt_of_cell? w _ hBr
  exact kept1_in l Be Bp Br n₀ n₁ n P d v xs h1 h2 hd hN hn hok J Jx W hJ hY ((hW.cell (p := ⟨Be, 0, none⟩) lE).trans hBe) ((hW.cell (p := ⟨Bp, 0, none⟩) lP).trans hBp) ((hW.cell (p := ⟨Br, 0, none⟩) lR).trans hBr) (hL.below hW (by omega)) (Nat.le_trans hnW hW.size) bp br hn₀ h0
end Go.Proofs.Ytncbjdkidkklgaa
