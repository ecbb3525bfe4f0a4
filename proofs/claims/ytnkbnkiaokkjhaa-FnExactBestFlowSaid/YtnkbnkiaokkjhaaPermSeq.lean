/- Contracts: the orders of some numbers, one behind the other, each only lent, for whatever loop takes them. No condition. -/
import Derived.Test.YtnkbnkiaokkjhaaPermImpl
import Derived.Test.YtnkbnkiaokkjhaaLentM
import Derived.Test.YtnkbnkiaokkjhaaConcat
import Derived.Test.YtnkbnkiaokkjhaaTrips0
namespace Go.Proofs.Ytnkbnkiaokkjhaa
open Go.RowKit Go.Lst Go.Shelf

attribute [local go_sem] Oper.semAt_some

/-- An order that is lent: where it lies, its room, and its number. -/
abbrev PermV := Nat × Nat × Nat
abbrev permVal (n : Nat) (x : PermV) : Array Value := #[.slice (some ⟨x.1, 0, none⟩) n x.2.1]
def PermLt (n₁ n : Nat) (x : PermV) (W : World) : Prop := W.ownsRow n₁ 2 1 (.slice (some ⟨x.1, 0, none⟩) n x.2.1) n ((rowAt n x.2.2).map (Value.int .i64))
theorem PermLt.own {n₁ n : Nat} (B : Nat) (x : PermV) : OwnFrom B (fun (_ : Unit) W => PermLt n₁ n x W) := fun _ X Y row hs hg hr => by
  refine World.ownsRow.kept hs hg (.inr fun e => ?_)
  obtain ⟨_, o, ho, hc⟩ := hr _ e.symm
  rcases hs.2 with ⟨e1, _⟩ | ⟨g', _, _, e1, _, h3, _⟩
  · cases e1
  · injection e1 with e1
    injection e1 with e1
    injection e1 with e1
    rw [e1] at ho
    rw [h3] at ho
    injection ho with ho
    rw [← ho] at hc; cases hc
def cellM (w : World) (g i : Nat) : Nat := match w.cell? ⟨g, i, none⟩ with
  | some (.int _ x) => x.toNat
  | _ => 0
def permLack (n g : Nat) (w : World) : Nat := n ^ n - valF n (cellM w g) n
theorem permLack_at {n g c A : Nat} {f : Nat → Int} {w : World} (ho : w.ownsRow A 2 1 (.slice (some ⟨g, 0, none⟩) n c) n (cellsF n f)) : permLack n g w = n ^ n - valF n (natF f) n := by
  unfold permLack
  rw [valF_congr (f := cellM w g) (g := natF f) n (fun q hq => ?_)]
  unfold cellM natF
  rw [ho.cellAt q (by omega), cellsF_at f hq]
theorem itF_val {n : Nat} (hn : 1 ≤ n) : ∀ {k : Nat} {f : Nat → Int}, itF n k = some f → k ≤ valF n (natF f) n
  | 0, _, _ => Nat.zero_le _
  | k + 1, f, h => by
    have h2 : (itF n k).bind (nextF n) = some f := h
    cases hk : itF n k with
    | none => rw [hk] at h2; cases h2
    | some g =>
      rw [hk] at h2
      have h3 := itF_val hn hk
      have h4 := nextF_grow hn (itF_ord hn hk) (show nextF n g = some f from h2)
      omega
theorem kept_rowM {n₀ n₁ A e k n c g : Nat} {W W' : World} {cs : List Value} (hk : KeptC n₀ n₁ W W') (hg : n₁ ≤ g) (h : W.ownsRow A e k (.slice (some ⟨g, 0, none⟩) n c) n cs) : W'.ownsRow A e k (.slice (some ⟨g, 0, none⟩) n c) n cs := by
  refine ⟨h.1, ?_⟩
  rcases h.2 with ⟨h1, _⟩ | ⟨g', cap', cur, h1, h2, h3, h4⟩
  · cases h1
  · injection h1 with e1 _ e3
    injection e1 with e1
    injection e1 with e1 _ _
    subst e1 e3
    exact .inr ⟨_, _, cur, rfl, h2, hk.2 _ _ _ _ hg h3, h4⟩
theorem row_cap {w : World} {A e k n c g : Nat} {cs : List Value} (h : w.ownsRow A e k (.slice (some ⟨g, 0, none⟩) n c) n cs) : n ≤ c := by
  rcases h.2 with ⟨e, _⟩ | ⟨_, c', _, e, _, _, q1, _⟩
  · cases e
  · injection e with _ _ e; omega
set_option maxHeartbeats 1000000 in
theorem listsFrom_any (a : Option Addr) (n c : Nat) (w : World) : Calls Try.prog 48 #[.slice a n c] w fun e w' => e = .returned (.func (.func 57) #[] #[.pointer (some ⟨w.heap.size, 0, none⟩)]) ∧ w' = w.alloc (.cells #[.slice a n c] 24) := by
  go_enter Try.func48, Try.ntmps48
  go_wp2_with fail
  go_ret
  exact ⟨rfl, rfl⟩
set_option maxHeartbeats 2000000 in
theorem ordersOf_any (n : Nat) (w : World) (hn1 : 1 ≤ n) (hn : n ≤ 24) : Calls Try.prog 25 #[.int .i64 n] w fun e w' => ∃ b gF : Nat, e = .returned (.func (.func 57) #[] #[.pointer (some ⟨b, 0, none⟩)]) ∧ w'.cell? ⟨b, 0, none⟩ = some (.slice (some ⟨gF, 0, none⟩) n n) ∧ w'.ownsRow w.heap.size 2 1 (.slice (some ⟨gF, 0, none⟩) n n) n (cellsF n fun q => (q : Int)) ∧ Below w.heap.size w w' := by
  have hF := Lib.hid (firstOrder_any n w hn1 (by omega))
  have hC : Hid (cellsF n (fun q => (q : Int)) = (countL n).map (Value.int .i64)) := Lib.hid (by unfold cellsF countL; rw [List.map_map]; rfl)
  go_enter Try.func25, Try.ntmps25
  go_wp2_with (go_at_call 49; (with_reducible refine (hF.out).mono ?_); rintro e w1 ⟨rfl, ho, hb⟩; have hO := Lib.hid ho; have hB := Lib.hid hb; clear ho hb)
  refine (listsFrom_any _ n n w1).mono ?_
  rintro e w2 ⟨rfl, rfl⟩
  have hb2 := below_alloc (Below.refl w1.heap.size w1) (.cells #[.slice (some ⟨w.heap.size, 0, none⟩) n n] 24)
  have hE := Lib.hid (show ∃ b gF : Nat, (Ending.returned (.func (.func 57) #[] #[.pointer (some ⟨w1.heap.size, 0, none⟩)]) = .returned (.func (.func 57) #[] #[.pointer (some ⟨b, 0, none⟩)])) ∧ (w1.alloc (.cells #[.slice (some ⟨w.heap.size, 0, none⟩) n n] 24)).cell? ⟨b, 0, none⟩ = some (.slice (some ⟨gF, 0, none⟩) n n) ∧ (w1.alloc (.cells #[.slice (some ⟨w.heap.size, 0, none⟩) n n] 24)).ownsRow w.heap.size 2 1 (.slice (some ⟨gF, 0, none⟩) n n) n (cellsF n fun q => (q : Int)) ∧ Below w.heap.size w (w1.alloc (.cells #[.slice (some ⟨w.heap.size, 0, none⟩) n n] 24)) from
    ⟨w1.heap.size, w.heap.size, rfl, (Boxed.new w1 _ _).cell, by rw [hC.out]; exact hO.out.alloc _, hB.out.trans (hb2.mono hB.out.size)⟩)
  clear hb2
  go_wp2_with fail
  go_ret
  exact hE.out
set_option maxRecDepth 100000 in
set_option maxHeartbeats 8000000 in
theorem lists1_in (l Bx n₀ n₁ nf n A gF cF : Nat) (h1 : 1 ≤ n) (h24 : n ≤ 24) (hnf : 2 ≤ nf) (J Jx : Nat → List PermV → World → Prop) (W : World) (hJ : ∀ M, LentFromM W.heap.size M (J M))
    (hY : ∀ M pre x W1, J M pre W1 → PermLt n₁ n x W1 → M ≤ W1.heap.size → pre.length < n ^ n → YieldAt Fence.wide (nf - 1) Try.prog l (permVal n x) W1 fun e W' =>
      (e = .returned (.bool true) ∧ J M (pre ++ [x]) W' ∧ KeptC n₀ n₁ W1 W') ∨ (e = .returned (.bool false) ∧ Jx M (pre ++ [x]) W'))
    (hB : W.cell? ⟨Bx, 0, none⟩ = some (.slice (some ⟨gF, 0, none⟩) n cF)) (hF : W.ownsRow A 2 1 (.slice (some ⟨gF, 0, none⟩) n cF) n (cellsF n fun q => (q : Int)))
    (hnW : n₁ ≤ W.heap.size) (hn₀ : n₀ ≤ n₁) (h0 : ∀ M, J M [] W) :
    CallsIn Fence.wide nf Try.prog 57 #[.func (.yield l) #[] #[], .pointer (some ⟨Bx, 0, none⟩)] W fun e W' => (∃ v, e = .returned v) ∧
      ∃ M, ((∃ ys : List PermV, (∃ T, TotalF n T ∧ ys.map (·.2.2) = List.range T) ∧ J M ys W') ∨ (∃ pre : List PermV, (∃ k, pre.map (·.2.2) = List.range k) ∧ Jx M pre W')) := by
  have hnn : 1 ≤ nf := by omega
  have hYy := Lib.hid hY
  have hJj := Lib.hid hJ
  have hH0 := Lib.hid h0
  have hcF := row_cap hF
  have hCl := Lib.hid (cloneG_any gF 0 cF n (listF n fun q => (q : Int)) W (hF.lt _ rfl).2 (listF_length _ _) h1 (by omega) (fun k x hx => by
    have hk : k < n := by have := (List.getElem?_eq_some_iff.1 hx).1; rw [listF_length] at this; exact this
    rw [Nat.zero_add, hF.cellAt k (by omega), cellsF_listF, List.getElem?_map, hx]; rfl))
  clear hY hJ h0
  refine callsIn_of_wp Try.func57 rfl trivial ?_ rfl
  simp only [Try.ntmps57, List.size_toArray, List.length_cons, List.length_nil, Nat.reduceAdd, Nat.reduceSub, Array.replicate_succ, Array.replicate_zero, List.push_toArray, List.append_toArray, List.nil_append, List.cons_append]
  gi_wp2_with (refine ⟨trivial, ?_⟩; gi_at_call 27; (with_reducible refine (callsIn_wide.2 hCl.out).mono ?_); rintro e' w2 ⟨g, c, rfl, hg, ho2, hb2⟩; have hG := Lib.hid hg; have hO2 := Lib.hid ho2; have hB2 := Lib.hid hb2; clear hg ho2 hb2)
  have hJ2 : ∀ M, J M [] w2 := fun M => (hJj.out M) [] _ _ none (hH0.out M) (grown_of_below hB2.out) (fun r e => by cases e)
  have hJ2h := Lib.hid (hJ2 w2.heap.size)
  have hO3 : Hid (w2.ownsRow W.heap.size 2 1 (.slice (some ⟨g, 0, none⟩) n c) n (cellsF n fun q => (q : Int))) := Lib.hid (by rw [cellsF_listF]; exact hO2.out)
  have hgM := Lib.hid (hO2.out.lt _ rfl).2
  have hnc := row_cap hO2.out
  have hNx := Lib.hid (fun f w0 (ho : OrdF n f) (hr : w0.ownsRow W.heap.size 2 1 (.slice (some ⟨g, 0, none⟩) n c) n (cellsF n f)) => nextOrder_any W.heap.size g n c f w0 w0 ⟨hr, grown_refl _ _⟩ h1 h24 hnc ho)
  obtain ⟨M, hM⟩ : ∃ M, M = w2.heap.size := ⟨_, rfl⟩
  rw [← hM] at hJ2h hgM
  have hMl : M ≤ w2.heap.size := by omega
  have hWM : W.heap.size ≤ g := hG.out
  clear hJ2 hO2 hB hF hcF hM hCl hnc hH0
  gi_loopw [12] (fun _ wr => ∃ (k : Nat) (f : Nat → Int) (pre : List PermV), itF n k = some f ∧ pre.map (·.2.2) = List.range k ∧ J M pre wr ∧ Hid (wr.ownsRow W.heap.size 2 1 (.slice (some ⟨g, 0, none⟩) n c) n (cellsF n f)) ∧ Hid (Below n₀ W wr) ∧ M ≤ wr.heap.size) (fun _ wr => permLack n g wr)
  case atStart => exact ⟨0, _, [], rfl, rfl, hJ2h.out, hO3, Lib.hid (hB2.out.mono (by omega)), hMl⟩
  case round =>
    clear hJ2h hO3
    obtain ⟨k, f, pre, hit, hpre, hJs, hO, hBw, hsz⟩ := hrel
    have hord := Lib.hid (itF_ord h1 hit)
    have hlen : pre.length < n ^ n := by
      have h9 := itF_val h1 hit
      have h8 := ordF_val hord.out
      have h7 : pre.length = k := by rw [← List.length_map (f := fun x : PermV => x.2.2), hpre, List.length_range]
      omega
    have hLt : PermLt n₁ n (g, c, k) wr := by
      unfold PermLt
      rw [rowAt_some hit, ← cellsF_listF]
      exact ownsRow_mono hO.out hnW
    have hPre2 : Hid ((pre ++ [((g, c, k) : PermV)]).map (·.2.2) = List.range (k + 1)) := Lib.hid (by rw [List.map_append, hpre, List.range_succ]; rfl)
    have hItn : Hid (itF n (k + 1) = nextF n f) := Lib.hid (itF_next hit)
    have hIts : Hid ((itF n k).isSome = true) := Lib.hid (by rw [hit]; rfl)
    have hLk := Lib.hid (permLack_at hO.out)
    have hVl := Lib.hid (fun h (hh : nextF n f = some h) => nextF_grow h1 hord.out hh)
    have hVb := Lib.hid (fun h (hh : nextF n f = some h) => ordF_val (nextF_ord h1 hord.out hh))
    obtain ⟨fn, tmps, assign, body, hy, hR⟩ := hYy.out M pre (g, c, k) wr hJs hLt hsz hlen
    dsimp only [permVal] at hy
    have hmix : Try.prog.follows .mixedOrders = true := by kernel_rfl
    have hgn : n₁ ≤ g := by omega
    have hn0g := Lib.hid (show n₀ ≤ g by omega)
    clear hJs hLt hlen hpre hit
    gi_wp2_with (first | (with_reducible refine hR.mono ?_; (rintro e W5 hE; rcases hE with ⟨rfl, hJ5, hk5⟩ | ⟨rfl, hJ5⟩; all_goals try (have hNT := Lib.hid (hNx.out f W5 hord.out (kept_rowM hk5 hgn hO.out)); have hK5 := Lib.hid hk5; clear hk5); all_goals (have hJ6 := Lib.hid hJ5; clear hJ5 hR hy))) | (refine ⟨trivial, ?_⟩; gi_at_call 58; (with_reducible refine (callsIn_wide.2 hNT.out).mono ?_); rintro e' w9 (⟨hn9, rfl, hr9⟩ | ⟨h9, hn9, rfl, hr9⟩); all_goals (have hR9 := Lib.hid hr9; have hN9 := Lib.hid hn9; clear hr9 hn9 hNT)))
    · go_end0
      refine ⟨⟨_, rfl⟩, M, .inl ⟨pre ++ [(g, c, k)], ⟨k + 1, itF_total hIts.out (by rw [hItn.out]; exact hN9.out), hPre2.out⟩, (hJj.out M) _ W5 w9 (some g) hJ6.out hR9.out.kept (fun r e => by cases e; exact ⟨hWM, .inl hgM.out⟩)⟩⟩
    · go_roundw
      case rel => exact ⟨k + 1, h9, pre ++ [(g, c, k)], by rw [hItn.out]; exact hN9.out, hPre2.out, (hJj.out M) _ W5 w9 (some g) hJ6.out hR9.out.kept (fun r e => by cases e; exact ⟨hWM, .inl hgM.out⟩), Lib.hid hR9.out.own, Lib.hid ((hBw.out.trans hK5.out.1).trans ((Below.refl n₀ W5).grown hR9.out.kept (by have := hK5.out.1.size; have := hgM.out; have := hn0g.out; omega) (fun q e => by cases e; exact hn0g.out))), by have := hK5.out.1.size; have := hR9.out.kept.size; omega⟩
      case measure =>
        rw [hLk.out, permLack_at hR9.out.own]
        have q1 := hVl.out h9 hN9.out
        have q2 := hVb.out h9 hN9.out
        omega
    · refine ⟨trivial, ?_⟩
      gi_wp2
      go_end0
      exact ⟨⟨_, rfl⟩, M, .inr ⟨pre ++ [(g, c, k)], ⟨k + 1, hPre2.out⟩, by assumption⟩⟩
/-- The orders of n, for every loop body that keeps what lay below n₀, and the iterator's own blocks. -/
theorem lists_stops (nf Bx n₀ n₁ n A gF cF : Nat) (h1 : 1 ≤ n) (h24 : n ≤ 24) (hnf : 2 ≤ nf) (w : World) (hB : w.cell? ⟨Bx, 0, none⟩ = some (.slice (some ⟨gF, 0, none⟩) n cF)) (hF : w.ownsRow A 2 1 (.slice (some ⟨gF, 0, none⟩) n cF) n (cellsF n fun q => (q : Int))) (hnW : n₁ ≤ w.heap.size) (hn₀ : n₀ ≤ n₁) :
    SeqStopsM Fence.wide nf Try.prog 57 #[.pointer (some ⟨Bx, 0, none⟩)] (permVal n) (PermLt n₁ n) (KeptC n₀ n₁) (fun ys => ∃ T, TotalF n T ∧ ys.map (·.2.2) = List.range T) (fun pre => ∃ k, pre.map (·.2.2) = List.range k) (n ^ n) w := fun l J Jx W hW hJ _ hY h0 =>
  lists1_in l Bx n₀ n₁ nf n A gF cF h1 h24 hnf J Jx W hJ hY ((hW.cell (p := ⟨Bx, 0, none⟩) (World.block_lt_of_cell? w _ hB)).trans hB) (ownsRow_below hF hW (ownsRow_lt hF).2) (Nat.le_trans hnW hW.size) hn₀ h0
end Go.Proofs.Ytnkbnkiaokkjhaa
