/- Contracts: a list in parts of one length (slices.Chunk). For whatever loop takes them. No condition. -/
import Derived.Test.YtpnndajfaghaaaaPairs
namespace Go.Proofs.Ytpnndajfaghaaaa
open Go.RowKit Go.Lst Go.Shelf

attribute [local go_sem] Oper.semAt_some

set_option maxHeartbeats 1000000 in
theorem chunk_any (p : Option Addr) (n cap M : Nat) (w : World) (h1 : 1 ≤ M) (h2 : M ≤ 8) :
    Calls Try.prog 60 #[.slice p n cap, .int .i64 M] w fun e w' => e = .returned (.func (.func 144) #[] #[.pointer (some ⟨w.heap.size, 0, none⟩), .pointer (some ⟨w.heap.size + 1, 0, none⟩)]) ∧ w' = (w.alloc (.cells #[.slice p n cap] 22)).alloc (.cells #[.int .i64 M] 3) := by
  have hd : ¬ (M : Int) < 1 := by omega
  have hd2 : decide ((M : Int) < 1) = false := decide_eq_false hd
  go_enter Try.func60, Try.ntmps60
  go_wp2_with fail
  go_ret
  exact ⟨rfl, rfl⟩
theorem KeptA.keeps {n₀ n₁ : Nat} {t : TypeId} {W W' : World} (h : KeptA n₀ n₁ t W W') {b : Nat} {cs : Array Value} (hb : n₁ ≤ b) (ho : Whole W b t cs) : Whole W' b t cs := h.2 b cs (0, 0) hb ho
theorem KeptA.under {n₀ n₁ : Nat} {t : TypeId} {W W' : World} (h : KeptA n₀ n₁ t W W') : Below n₀ W W' := h.1
/-- What a round keeps, for both boxes. -/
def KeptL (n₀ n₁ : Nat) (W W' : World) : Prop := KeptA n₀ n₁ 22 W W' ∧ KeptA n₀ n₁ 3 W W'
theorem KeptL.lists {n₀ n₁ : Nat} {W W' : World} (h : KeptL n₀ n₁ W W') : KeptA n₀ n₁ 22 W W' := h.1
theorem KeptL.ints {n₀ n₁ : Nat} {W W' : World} (h : KeptL n₀ n₁ W W') : KeptA n₀ n₁ 3 W W' := h.2
theorem KeptL.t {n₀ n₁ : Nat} {A B C : World} (h : KeptL n₀ n₁ A B) (k : KeptL n₀ n₁ B C) : KeptL n₀ n₁ A C := ⟨h.1.t k.1, h.2.t k.2⟩
theorem KeptL.b {n₀ n₁ : Nat} {w : World} (hn : n₀ ≤ w.heap.size) (W : World) (l : Nat) (o o' : Obj) (hl : w.heap.size ≤ l) (h : W.heap[l]? = some o) (hc : o.isCells = false) (hw : o.isWalk = false) : KeptL n₀ n₁ W (W.putObj l o') := ⟨KeptA.b hn W l o o' hl h hc hw, KeptA.b hn W l o o' hl h hc hw⟩
theorem cell_box {W : World} {b : Nat} {t : TypeId} {u : Value} (h : Whole W b t #[u]) : W.cell? ⟨b, 0, none⟩ = some u := h.at_ rfl
abbrev RowIn (J : Nat) := { k : Nat // k < J }
set_option maxRecDepth 100000 in
set_option maxHeartbeats 4000000 in
theorem chunk1_in (l Bl Bn n₀ n₁ M Jn n b o cap : Nat) (hM1 : 1 ≤ M) (hM8 : M ≤ 8) (hJ : Jn ≤ 24) (hc1 : Jn * M ≤ cap) (hc2 : cap ≤ maxLen) (hn : 2 ≤ n) (J Jx : List (RowIn Jn) → World → Prop)
    (W : World) (hJa : AbidesFrom W.heap.size J)
    (hY : ∀ pre x W1, J pre W1 → pre.length < Jn → YieldAt Fence.wide (n - 1) Try.prog l #[rowV b o M x.1] W1 fun e W' =>
      (e = .returned (.bool true) ∧ J (pre ++ [x]) W' ∧ KeptL n₀ n₁ W1 W') ∨ (e = .returned (.bool false) ∧ Jx (pre ++ [x]) W'))
    (hBl : Whole W Bl 22 #[.slice (some ⟨b, o, none⟩) (Jn * M) cap]) (hBn : Whole W Bn 3 #[.int .i64 M]) (hb1 : n₁ ≤ Bl) (hb2 : n₁ ≤ Bn) (hn₁ : n₁ ≤ W.heap.size) (hn₀ : n₀ ≤ n₁) (h0 : J [] W) :
    CallsIn Fence.wide n Try.prog 144 #[.func (.yield l) #[] #[], .pointer (some ⟨Bl, 0, none⟩), .pointer (some ⟨Bn, 0, none⟩)] W fun e W' => (∃ v, e = .returned v) ∧
      ((∃ ys : List (RowIn Jn), ys.map (·.1) = List.range Jn ∧ J ys W') ∨ (∃ pre : List (RowIn Jn), pre.map (·.1) <+: List.range Jn ∧ Jx pre W')) := by
  have h1 : 1 ≤ n := by omega
  have hYy := Lib.hid hY
  clear hY
  have hJj := Lib.hid hJa
  clear hJa
  have hF : Hid (∀ k, k < Jn → k * M + M ≤ Jn * M) := Lib.hid fun k hk => rows_fit hk
  have hL : Jn * M ≤ 192 := Nat.mul_le_mul hJ hM8
  have hS : Hid (∀ k, (k + 1) * M = k * M + M) := Lib.hid fun k => by rw [Nat.add_mul, Nat.one_mul]
  have hE : Hid (∀ k, ¬ k < Jn → k ≤ Jn → k * M = Jn * M) := Lib.hid fun k h1 h2 => by rw [show k = Jn by omega]
  generalize Jn * M = L at *
  unfold maxLen at hc2
  have HBl := Lib.hid hBl
  have HBn := Lib.hid hBn
  have H0 := Lib.hid h0
  clear hBl hBn h0
  refine callsIn_of_wp Try.func144 rfl trivial ?_ rfl
  simp only [Try.ntmps144, List.size_toArray, List.length_cons, List.length_nil, Nat.reduceAdd, Nat.reduceSub, Array.replicate_succ, Array.replicate_zero, List.push_toArray, List.append_toArray, List.nil_append, List.cons_append]
  gi_wp2
  gi_loopw [4] (fun i wr => ∃ (k g : Nat) (pre : List (RowIn Jn)), k ≤ Jn ∧ i = .int .i64 g ∧ Hid (g = k * M) ∧ pre.map (·.1) = List.range k ∧ J pre wr ∧ Hid (Whole wr Bl 22 #[.slice (some ⟨b, o, none⟩) L cap]) ∧ Hid (Whole wr Bn 3 #[.int .i64 M]) ∧ Hid (Below n₀ W wr)) (fun i _ => L - (intOf i).toNat)
  case atStart => exact ⟨0, 0, [], Nat.zero_le _, rfl, Lib.hid (Nat.zero_mul M).symm, rfl, H0.out, HBl, HBn, Lib.hid (Below.refl _ _)⟩
  case round =>
    obtain ⟨k, g, pre, hk, rfl, hg, hpre, hJs, hO1, hO2, hB⟩ := hrel
    have cl : wr.cell? ⟨Bl, 0, none⟩ = some (.slice (some ⟨b, o, none⟩) L cap) := hO1.out.at_ rfl
    have cn : wr.cell? ⟨Bn, 0, none⟩ = some (.int .i64 M) := hO2.out.at_ rfl
    by_cases hlt : k < Jn
    · have hf := hF.out k hlt
      rw [← hg.out] at hf
      have hgi : (g : Int) < (L : Int) := by omega
      have hmn : ¬ (L : Int) - (g : Int) < (M : Int) := by omega
      have hmn2 : decide ((L : Int) - (g : Int) < (M : Int)) = false := decide_eq_false hmn
      have hle : g ≤ L := by omega
      have hle2 : L - g ≤ cap - g := by omega
      gi_wp2
      gi_quiet (fail)
      have hJ2 := Lib.hid (hJj.out pre _ _ none hJs (grown_of_below (below_drawn wr nq)) (fun r e => by cases e))
      have hB2 := Lib.hid (Lst.Below.drewN hB.out nq)
      have hO3 := Lib.hid (hO1.out.draws nq)
      have hO4 := Lib.hid (hO2.out.draws nq)
      clear hO1 hO2 hB hJs cl cn
      generalize wr.drewN nq = w3 at *
      have cl : w3.cell? ⟨Bl, 0, none⟩ = some (.slice (some ⟨b, o, none⟩) L cap) := hO3.out.at_ rfl
      have cn : w3.cell? ⟨Bn, 0, none⟩ = some (.int .i64 M) := hO4.out.at_ rfl
      have hXx : pre.length = k := by rw [← List.length_map (f := (·.1)), hpre, List.length_range]
      obtain ⟨fn, tmps, assign, body, hy, hR⟩ := hYy.out pre ⟨k, hlt⟩ w3 hJ2.out (by omega)
      unfold rowV at hy
      dsimp only at hy
      rw [← hg.out] at hy
      have hPre := Lib.hid hpre
      have hg2 := Lib.hid (show g + M = (k + 1) * M by rw [hS.out k, hg.out])
      have hKl := Lib.hid hlt
      clear hpre hXx
      have hmix : Try.prog.follows .mixedOrders = true := by kernel_rfl
      gi_wp2_with (with_reducible refine hR.mono ?_; (rintro e W3 hE; rcases hE with ⟨rfl, hJ4, hk4⟩ | ⟨rfl, hJx4⟩; all_goals try (have hJ5 := Lib.hid hJ4; have cl2 := Lib.hid (hk4.lists.keeps hb1 hO3.out); have cn2 := Lib.hid (hk4.ints.keeps hb2 hO4.out); have hB5 := Lib.hid (hB2.out.trans hk4.lists.under); have cn3 := cell_box cn2.out; clear hk4 hJ4)))
      all_goals
        first
        | (have hJ6 := hJ5.out
           clear hR hy cl cn
           first
           | (go_roundw
              case rel => exact ⟨k + 1, g + M, pre ++ [⟨k, hKl.out⟩], by have := hKl.out; omega, by go_num, hg2, by rw [List.map_append, hPre.out, List.range_succ]; rfl, hJ5.out, Lib.hid cl2.out, Lib.hid cn2.out, hB5⟩
              case measure => (show L - ((g : Int) + (M : Int)).toNat < L - ((g : Int)).toNat; omega))
           | (gi_wp2
              go_roundw
              case rel => exact ⟨k + 1, g + M, pre ++ [⟨k, hKl.out⟩], by have := hKl.out; omega, by go_num, hg2, by rw [List.map_append, hPre.out, List.range_succ]; rfl, hJ5.out, Lib.hid cl2.out, Lib.hid cn2.out, hB5⟩
              case measure => (show L - ((g : Int) + (M : Int)).toNat < L - ((g : Int)).toNat; omega)))
        | (have hJ5 := Lib.hid hJx4
           clear hJx4 hR hy cl cn
           try gi_wp2
           refine bodyPost_ret (results_none rfl _ _ _) rfl ?_
           exact ⟨⟨_, rfl⟩, .inr ⟨pre ++ [⟨k, hKl.out⟩], by
             have e : List.map (fun x : RowIn Jn => x.1) (pre ++ [⟨k, hKl.out⟩]) = List.range (k + 1) := by rw [List.map_append, hPre.out, List.range_succ]; rfl
             rw [e]
             obtain ⟨d, hd⟩ : ∃ d, Jn = k + 1 + d := ⟨Jn - (k + 1), by have := hKl.out; omega⟩
             rw [hd]
             exact ⟨_, (List.range_add ..).symm⟩, hJ5.out⟩⟩)
    · have hkm : k = Jn := by omega
      have hge := hE.out k hlt hk
      rw [← hg.out] at hge
      have hgi : ¬ (g : Int) < (L : Int) := by omega
      have hPre := Lib.hid hpre
      have hJk := Lib.hid hJs
      clear hpre hJs hge
      gi_wp2
      go_end0
      exact ⟨⟨_, rfl⟩, .inl ⟨pre, by (have := hPre.out; rw [hkm] at this; exact this), hJk.out⟩⟩
/-- The rows of a list, for every loop body that keeps what lay below n₀, and the two boxes. -/
theorem chunk_stops (n Bl Bn n₀ n₁ M Jn b o cap : Nat) (hM1 : 1 ≤ M) (hM8 : M ≤ 8) (hJ : Jn ≤ 24) (hc1 : Jn * M ≤ cap) (hc2 : cap ≤ maxLen) (hn : 2 ≤ n) (w : World)
    (cl : Whole w Bl 22 #[.slice (some ⟨b, o, none⟩) (Jn * M) cap]) (cn : Whole w Bn 3 #[.int .i64 M]) (hBl : Bl < w.heap.size) (hBn : Bn < w.heap.size) (hb1 : n₁ ≤ Bl) (hb2 : n₁ ≤ Bn) (hn₀ : n₀ ≤ n₁) :
    SeqStopsK Fence.wide n Try.prog 144 #[.pointer (some ⟨Bl, 0, none⟩), .pointer (some ⟨Bn, 0, none⟩)] (fun x : RowIn Jn => #[rowV b o M x.1]) (KeptL n₀ n₁) (fun ys => ys.map (·.1) = List.range Jn) (fun pre => pre.map (·.1) <+: List.range Jn) Jn w := fun l J Jx W hW hJ' _ hY h0 => by
  have hs := hW.size
  refine chunk1_in l Bl Bn n₀ n₁ M Jn n b o cap hM1 hM8 hJ hc1 hc2 hn J Jx W hJ' hY ?_ ?_ hb1 hb2 (by omega) hn₀ h0
  · exact (hW.block Bl hBl).trans cl
  · exact (hW.block Bn hBn).trans cn
end Go.Proofs.Ytpnndajfaghaaaa
