/- Contracts: the greatest start of a task, in the model and in the program. -/
import Derived.Test.YtlgojbbhjhifhaaLatePure
import Derived.Test.YtlgojbbhjhifhaaEarly2
namespace Go.Proofs.Ytlgojbbhjhifhaa
open Go.RowKit Go.Lst

set_option maxHeartbeats 400000 in
theorem l00Min_any (a b : Int) (w : World) : Calls Try.prog 91 #[.int .i64 a, .int .i64 b] w fun e w' => e = .returned (.int .i64 (min a b)) ∧ w = w' := by
  by_cases h : a < b
  · have hv : min a b = a := by omega
    rw [hv]
    go_enter Try.func91, Try.ntmps91
    go_wp2
    go_ret
    exact ⟨rfl, rfl⟩
  · have hv : min a b = b := by omega
    rw [hv]
    go_enter Try.func91, Try.ntmps91
    go_wp2
    go_ret
    exact ⟨rfl, rfl⟩
theorem mn_eq' (a b : Int) : (if b < a then b else a) = min a b := by split <;> omega

def idxI (x : TaskD) (i : Int) : Int := match link x i with | some a => (a : Int) | none => -1
set_option maxHeartbeats 1000000 in
theorem indexBefore_any (B : Nat) (v : Value) (x : TaskD) (i : Int) (w : World) (h : LstI B w v x.Before) :
    Calls Try.prog 68 #[v, .int .i64 i] w (Ret (.int .i64 (idxI x i)) w) := by
  obtain ⟨a, cap, rfl, hl, _, _, hc⟩ := h.at_
  have hC : Hid (∀ k, k < x.Before.length → ∃ b o, a = some ⟨b, o, none⟩ ∧ w.cell? ⟨b, o + k, none⟩ = some (.int .i64 (bAt x k))) := Lib.hid fun k hk => by
    obtain ⟨b, o, y, e1, _, e2, e3⟩ := hc k hk
    exact ⟨b, o, e1, by rw [e3, bAt, getD_some e2]⟩
  have hFound : Hid (∀ k, k < x.Before.length → bAt x k = i → (∀ c, c < k → bAt x c ≠ i) → idxI x i = k) := Lib.hid fun k hk h1 h2 => by
    unfold idxI link; rw [linkTo_first h1 h2 hk]
  have hNone : Hid (∀ k, k = x.Before.length → (∀ c, c < k → bAt x c ≠ i) → idxI x i = -1) := Lib.hid fun k hk h1 => by
    unfold idxI link
    cases hq : linkTo x i x.Before.length with
    | none => rfl
    | some a => have := linkTo_some hq; exact absurd this.2 (h1 a (by omega))
  clear hc h
  generalize x.Before.length = n at *
  unfold maxLen at hl
  go_enter Try.func68, Try.ntmps68
  go_wp2_with fail
  go_loopw [8] (fun c wr => ∃ k m : Nat, k ≤ n ∧ c = .int .i64 k ∧ Hid (∀ c, c < k → bAt x c ≠ i) ∧ wr = w.drewN m) (fun i _ => n - (intOf i).toNat)
  case atStart => exact ⟨0, 0, Nat.zero_le _, rfl, Lib.hid (fun c hc => absurd hc (Nat.not_lt_zero _)), rfl⟩
  case round =>
    obtain ⟨k, m, hk, rfl, hP, rfl⟩ := hrel
    by_cases hlt : k < n
    · obtain ⟨b, o, rfl, c0⟩ := hC.out k hlt
      rw [← World.cell?_drewN (n := m)] at c0
      generalize hwo : w.drewN m = wo at *
      have hWo := Lib.hid hwo
      clear hwo
      by_cases hq : bAt x k = i
      · have hF := Lib.hid (hFound.out k hlt hq hP.out)
        go_wp2_with fail
        go_ret
        exact ⟨_, ret_int hF.out.symm, hWo.out.symm⟩
      · have hP2 : Hid (∀ c, c < k + 1 → bAt x c ≠ i) := Lib.hid fun c hc => by
          by_cases h1 : c < k
          · exact hP.out c h1
          · have : c = k := by omega
            rw [this]; exact hq
        have hq2 : (i == bAt x k) = false := by rw [beq_eq_false_iff_ne]; exact fun h => hq h.symm
        clear hq
        go_wp2_with fail
        go_roundw
        case rel => exact ⟨k + 1, _, by omega, by go_num, hP2, by rw [hWo.out]⟩
        case measure => simp [intOf]; omega
    · have hF := Lib.hid (hNone.out k (by omega) hP.out)
      go_wp2_with fail
      go_ret
      exact ⟨_, ret_int hF.out.symm, rfl⟩

/-- The function that latestBy returns, in a world with three new blocks. -/
theorem latestBy_any (a1 a2 : Option Addr) (n1 n2 c1 c2 : Nat) (e : Int) (w : World) : Calls Try.prog 67 #[.slice a1 n1 c1, .slice a2 n2 c2, .int .i64 e] w fun r w' =>
    r = .returned (.func (.func 92) #[] #[.pointer (some ⟨w.heap.size + 2, 0, none⟩), .pointer (some ⟨w.heap.size, 0, none⟩), .pointer (some ⟨w.heap.size + 1, 0, none⟩)]) ∧ Below w.heap.size w w' ∧ w'.heap.size = w.heap.size + 3 ∧
      w'.cell? ⟨w.heap.size, 0, none⟩ = some (.slice a1 n1 c1) ∧ w'.cell? ⟨w.heap.size + 1, 0, none⟩ = some (.slice a2 n2 c2) ∧ w'.cell? ⟨w.heap.size + 2, 0, none⟩ = some (.int .i64 e) := by
  go_enter Try.func67, Try.ntmps67
  go_wp2_with fail
  go_ret
  refine ⟨rfl, below_alloc (below_alloc (below_alloc (Below.refl _ _) _) _) _, by simp, ?_, ?_, ?_⟩
  · exact (((Whole.made w _ #[.slice a1 n1 c1] rfl).more _).more _).at_ rfl
  · exact ((Whole.made _ _ #[.slice a2 n2 c2] (by simp)).more _).at_ rfl
  · exact (Whole.made _ _ #[.int .i64 e] (by simp)).at_ rfl

set_option maxHeartbeats 4000000 in
theorem latestFn_any (B : Nat) (v1 v2 : Value) (p0 p1 p2 : Addr) (xs : List TaskD) (st : List Int) (i : Nat) (e : Int) (w : World) (h1 : LstTask B w v1 xs) (h2 : LstI B w v2 st) (hB : B ≤ w.heap.size) (hf : Fit xs) (hi : i < xs.length) (hl : xs.length ≤ st.length) (hb : Bnd (-1000000) 1000000 st)
    (he0 : 0 ≤ e) (he1 : e ≤ 1000000) (hp0 : w.cell? p0 = some (.int .i64 e)) (hp1 : w.cell? p1 = some v1) (hp2 : w.cell? p2 = some v2) (q0 : p0.block < w.heap.size) (q1 : p1.block < w.heap.size) (q2 : p2.block < w.heap.size) :
    Calls Try.prog 92 #[.int .i64 i, .pointer (some p0), .pointer (some p1), .pointer (some p2)] w fun r w' => r = .returned (.int .i64 (lateAt xs st i e)) ∧ Below w.heap.size w w' := by
  obtain ⟨a, cap, rfl, hm, _, _, hc⟩ := h1.at_
  obtain ⟨a2, cap2, rfl, hm2, _, _, hc2⟩ := h2.at_
  have hC := Lib.hid hc
  have hC2 : Hid (∀ k, k < xs.length → ∃ (b o : Nat) (s : Int), a2 = some ⟨b, o, none⟩ ∧ b < w.heap.size ∧ st.getD k 0 = s ∧ w.cell? ⟨b, o + k, none⟩ = some (.int .i64 s) ∧ -1000000 ≤ s ∧ s ≤ 1000000) := Lib.hid fun k hk => by
    obtain ⟨b, o, s, e1, e2, e3, e4⟩ := hc2 k (by omega)
    have := hb k
    rw [getD_some e3] at this
    exact ⟨b, o, s, e1, by omega, getD_some e3, e4, this.1, this.2⟩
  have hSs : Hid (∀ k x a, xs[k]? = some x → link x i = some a → backTo xs st i e (k + 1) = min (backTo xs st i e k) (st.getD k 0 - lAt x a)) := Lib.hid fun k x a hx ha => by simp only [backTo]; rw [getD_some hx, ha]
  have hSn : Hid (∀ k x, xs[k]? = some x → link x i = none → backTo xs st i e (k + 1) = backTo xs st i e k) := Lib.hid fun k x hx ha => by simp only [backTo]; rw [getD_some hx, ha]
  have hE : Hid (∀ k, k = xs.length → ∀ x, xs[i]? = some x → backTo xs st i e k - x.Time = lateAt xs st i e) := Lib.hid fun k hk x hx => by unfold lateAt; rw [hk, getD_some hx]
  have hBd : Hid (∀ k, backTo xs st i e k ≤ e ∧ -1000100 ≤ backTo xs st i e k) := Lib.hid fun k => by
    have := backTo_bound hf hb i e k
    exact ⟨this.1, this.2 (by omega)⟩
  have hFt := Lib.hid hf
  have hm1 : xs.length ≤ 16 := hf.most
  have h0 : Hid (backTo xs st i e 0 = e) := Lib.hid rfl
  clear hc hc2 h1 h2 hf hb
  generalize lateAt xs st i e = res at *
  generalize xs.length = n at *
  generalize st.length = n2 at *
  unfold maxLen at hm2
  have hP0 := Lib.hid hp0
  have hP1 := Lib.hid hp1
  have hP2 := Lib.hid hp2
  go_enter Try.func92, Try.ntmps92
  go_wp2_with fail
  go_loopw [6, 13] (fun z c wr => ∃ (k : Nat) (y : Int), k ≤ n ∧ c = .int .i64 k ∧ z = .int .i64 y ∧ Hid (y = backTo xs st i e k) ∧ Hid (Below w.heap.size w wr)) (fun _ i _ => n - (intOf i).toNat)
  case atStart => exact ⟨0, e, Nat.zero_le _, rfl, rfl, Lib.hid h0.out.symm, Lib.hid (Below.refl _ _)⟩
  case round =>
    obtain ⟨k, y, hk, rfl, rfl, hy, hB1⟩ := hrel
    have hyb := hBd.out k
    rw [← hy.out] at hyb
    obtain ⟨yb1, yb2⟩ := hyb
    by_cases hlt : k < n
    · obtain ⟨b, o, x, vb, vl, rfl, hbB, hx, c0, c1, c2, c3, l0, l1⟩ := hC.out k hlt
      obtain ⟨b2, o2, s, rfl, hb2, hs, d0, s1, s2⟩ := hC2.out k hlt
      rw [← hB1.out.cell (p := ⟨b, o + k * 4, none⟩) (show b < w.heap.size by omega)] at c0
      rw [← hB1.out.cell (p := ⟨b, o + k * 4 + 1, none⟩) (show b < w.heap.size by omega)] at c1
      rw [← hB1.out.cell (p := ⟨b, o + k * 4 + 2, none⟩) (show b < w.heap.size by omega)] at c2
      rw [← hB1.out.cell (p := ⟨b, o + k * 4 + 3, none⟩) (show b < w.heap.size by omega)] at c3
      have hlen := hFt.out.len k x hx
      obtain ⟨ab, cb, rfl, _⟩ := id l0.at_
      obtain ⟨al, cl, rfl, _, _, _, hcl⟩ := id l1.at_
      have L0 := Lib.hid l0
      have hCl := Lib.hid hcl
      have hX := Lib.hid hx
      have hLen := Lib.hid hlen
      have hD0 := Lib.hid d0
      clear l0 l1 hcl hx hlen d0
      go_wp2_with fail
      generalize hw2 : World.alloc wr _ = w2
      have hB2 := Lib.hid (show Below w.heap.size w w2 by rw [← hw2]; exact below_alloc hB1.out _)
      have hC2' := Lib.hid (show Whole w2 wr.heap.size _ #[.int .i64 x.Time, .int .i64 x.Needs, .slice ab x.Before.length cb, .slice al x.Lags.length cl] by rw [← hw2]; exact Whole.made wr _ _ rfl)
      clear hw2 c0 c1 c2 c3
      refine (indexBefore_any B _ x i w2 (L0.out.below hB2.out hB)).mono ?_
      rintro r w3 ⟨m, rfl, rfl⟩
      have hB3 := Lib.hid (Lst.Below.drewN hB2.out m)
      have hC3 := Lib.hid (hC2'.out.draws m)
      generalize w2.drewN m = w3 at *
      cases hq : link x i with
      | none =>
        have hv : idxI x i = -1 := by unfold idxI; rw [hq]
        have hnext := Lib.hid (show y = backTo xs st i e (k + 1) by rw [hSn.out k x hX.out hq, hy.out])
        rw [hv]
        clear hv hq hB2 hC2'
        go_wp2_with fail
        go_roundw
        case rel => exact ⟨k + 1, _, by omega, by go_num, rfl, hnext, hB3⟩
        case measure => simp [intOf]; omega
      | some a =>
        have hv : idxI x i = (a : Int) := by unfold idxI; rw [hq]
        have ha := (linkTo_some hq).1
        obtain ⟨bl, ol, l, rfl, hbl, hl1, e1⟩ := hCl.out a (by have := hLen.out; omega)
        have hla : lAt x a = l := getD_some hl1
        have hlb := hFt.out.lags k x hX.out a ha
        rw [hla] at hlb
        obtain ⟨hlb1, hlb2⟩ := hlb
        have hnext := Lib.hid (show min y (s - l) = backTo xs st i e (k + 1) by rw [hSs.out k x a hX.out hq, hy.out, hs, hla])
        have hla2 : (a : Int) < x.Lags.length := by have := hLen.out; omega
        rw [hv]
        clear hv hq hl1 hla ha hs
        have f1 : w3.cell? ⟨wr.heap.size, 3, none⟩ = some (.slice (some ⟨bl, ol, none⟩) x.Lags.length cl) := hC3.out.at_ rfl
        have f2 : w3.cell? ⟨bl, ol + a, none⟩ = some (.int .i64 l) := by rw [hB3.out.cell (p := ⟨bl, ol + a, none⟩) (by show bl < _; omega)]; exact e1
        have f3 : w3.cell? ⟨b2, o2 + k, none⟩ = some (.int .i64 s) := by rw [hB3.out.cell (p := ⟨b2, o2 + k, none⟩) hb2]; exact hD0.out
        have f4 : w3.cell? p2 = some (.slice (some ⟨b2, o2, none⟩) n2 cap2) := by rw [hB3.out.cell (p := p2) q2]; exact hP2.out
        have hi3 : (k : Int) < n2 := by omega
        have hw1 : IntKind.i64.wrap (s - l) = s - l := IntWalk.i64_in _ (by omega)
        clear e1 hB2 hC2'
        go_wp2_with fail
        go_quiet (fail)
        go_wp2_with fail
        simp only [mn_eq']
        go_roundw
        case rel => exact ⟨k + 1, _, by omega, by go_num, rfl, hnext, Lib.hid (Lst.Below.drewN hB3.out _)⟩
        case measure => simp [intOf]; omega
    · obtain ⟨b, o, x, vb, vl, rfl, hbB, hx, c0, _⟩ := hC.out i hi
      have hF := Lib.hid (show y - x.Time = res by rw [hy.out]; exact hE.out k (by omega) x hx)
      have ht := hFt.out.time i x hx
      obtain ⟨t1, t2⟩ := ht
      have f1 : wr.cell? ⟨b, o + i * 4, none⟩ = some (.int .i64 x.Time) := by rw [hB1.out.cell (p := ⟨b, o + i * 4, none⟩) (show b < w.heap.size by omega)]; exact c0
      have f2 : wr.cell? p1 = some (.slice (some ⟨b, o, none⟩) n cap) := by rw [hB1.out.cell (p := p1) q1]; exact hP1.out
      have hi3 : (i : Int) < n := by omega
      have hw1 : IntKind.i64.wrap (y - x.Time) = y - x.Time := IntWalk.i64_in _ (by omega)
      clear c0 hx hp0 hp1 hp2
      go_wp2_with fail
      go_ret
      exact ⟨ret_int hF.out, hB1.out⟩

set_option maxHeartbeats 4000000 in
theorem l03Greatest_any (B : Nat) (v1 v2 : Value) (xs : List TaskD) (st : List Int) (i : Nat) (e : Int) (w : World) (h1 : LstTask B w v1 xs) (h2 : LstI B w v2 st) (hf : Fit xs) (hi : i < xs.length) (hl : xs.length ≤ st.length) (hb : Bnd (-1000000) 1000000 st)
    (he0 : 0 ≤ e) (he1 : e ≤ 1000000) :
    Calls Try.prog 66 #[v1, v2, .int .i64 i, .int .i64 e] w (Ret (.int .i64 (lateAt xs st i e)) w) := by
  obtain ⟨a, cap, rfl, hm, _, _, hc⟩ := h1.at_
  obtain ⟨a2, cap2, rfl, hm2, _, _, hc2⟩ := h2.at_
  obtain ⟨b, o, x, vb, vl, rfl, _, hx, c0, c1, c2, c3, l0, l1⟩ := hc i hi
  have ht := hf.time i x hx
  have hw1 : IntKind.i64.wrap (e - x.Time) = e - x.Time := IntWalk.i64_in _ (by omega)
  have hm1 : xs.length ≤ 16 := hf.most
  have hL1 := Lib.hid h1
  have hL2 := Lib.hid h2
  have hFt := Lib.hid hf
  have hC := Lib.hid hc
  have hC2 := Lib.hid hc2
  have hXx := Lib.hid hx
  clear hc hc2 h1 h2 hf l0 l1 hx
  generalize hn : xs.length = n at *
  have hN := Lib.hid hn
  clear hn
  unfold maxLen at hm2
  have hi1 : (i : Int) < n := by omega
  go_enter Try.func66, Try.ntmps66
  go_wp2_with fail
  have hBd : Hid (∀ k, backTo xs st i e k ≤ e ∧ -1000100 ≤ backTo xs st i e k) := Lib.hid fun k => by
    have := backTo_bound hFt.out hb i e k
    exact ⟨this.1, this.2 (by omega)⟩
  go_loopw [9, 10] (fun z c wr => ∃ (k m : Nat) (y : Int), i + 1 ≤ k ∧ k ≤ n ∧ c = .int .i64 k ∧ z = .int .i64 (y - x.Time) ∧ Hid (y = backTo xs st i e k) ∧ wr = w.drewN m) (fun _ i _ => n - (intOf i).toNat)
  case atStart => exact ⟨i + 1, 0, e, Nat.le_refl _, hi, by simp, rfl, Lib.hid (backTo_first hFt.out st i e _ (Nat.le_refl _)).symm, rfl⟩
  case round =>
    obtain ⟨k, m, y, hk1, hk, rfl, rfl, hy, rfl⟩ := hrel
    have hyb := hBd.out k
    rw [← hy.out] at hyb
    obtain ⟨yb1, yb2⟩ := hyb
    by_cases hlt : k < n
    · obtain ⟨b', o', x', vb', vl', e1, _, hx', d0, d1, d2, d3, l0, l1⟩ := hC.out k hlt
      injection e1 with e1
      injection e1 with e2 e3 _
      subst e2 e3
      obtain ⟨b2, o2, s, rfl, _, hs, d4⟩ := hC2.out k (by omega)
      have hlen := hFt.out.len k x' hx'
      obtain ⟨ab, cb, rfl, _, _, _, hcb⟩ := id l0.at_
      obtain ⟨al, cl, rfl, _, _, _, hcl⟩ := id l1.at_
      have hsb := hb k
      rw [getD_some hs] at hsb
      have hE1 : Hid (∀ j, j < x'.Before.length → ∃ b o, ab = some ⟨b, o, none⟩ ∧ w.cell? ⟨b, o + j, none⟩ = some (.int .i64 (bAt x' j))) := Lib.hid fun j hj => by
        obtain ⟨b, o, q, e1, _, e2, e3⟩ := hcb j hj
        exact ⟨b, o, e1, by rw [e3, bAt, getD_some e2]⟩
      have hE2 : Hid (∀ j, j < x'.Before.length → ∃ b o, al = some ⟨b, o, none⟩ ∧ w.cell? ⟨b, o + j, none⟩ = some (.int .i64 (lAt x' j)) ∧ -100 ≤ lAt x' j ∧ lAt x' j ≤ 100) := Lib.hid fun j hj => by
        obtain ⟨b, o, q, e1, _, e2, e3⟩ := hcl j (by omega)
        have := hFt.out.lags k x' hx' j hj
        exact ⟨b, o, e1, by rw [e3, lAt, getD_some e2], this.1, this.2⟩
      have hHit : Hid (∀ j, j < x'.Before.length → bAt x' j = i → inTo x' i y s j = y ∧ inTo x' i y s (j + 1) = min y (s - lAt x' j)) := Lib.hid fun j hj hb => inTo_hit hFt.out hx' hj hb
      have hMiss : Hid (∀ j, bAt x' j ≠ i → inTo x' i y s (j + 1) = inTo x' i y s j) := Lib.hid fun j hb => inTo_miss hb
      have hStop : Hid (∀ j, j = x'.Before.length → inTo x' i y s j = backTo xs st i e (k + 1)) := Lib.hid fun j hj => by
        rw [hj, ← inTo_end hx', hy.out, getD_some hs]
      have hStart : Hid (inTo x' i y s 0 = y) := Lib.hid rfl
      have hY : Hid (∀ j, -1000200 ≤ inTo x' i y s j ∧ inTo x' i y s j ≤ y) := Lib.hid fun j => by
        unfold inTo
        split
        · rename_i a ha
          have := lAt_bound hFt.out (k := k) (a := a) (i := i)
          rw [getD_some hx'] at this
          by_cases hj : a < x'.Before.length
          · have := hFt.out.lags k x' hx' a hj; omega
          · have h0 : lAt x' a = 0 := by unfold lAt; rw [List.getD_eq_getElem?_getD, List.getElem?_eq_none (by omega)]; rfl
            omega
        · omega
      have hnb16 := before_few hFt.out hx'
      have hkI : (k : Int) < n := by omega
      have hkI2 : (k : Int) < st.length := by omega
      obtain ⟨s1, s2⟩ := hsb
      obtain ⟨t1, t2⟩ := ht
      rw [← hlen] at d3
      clear hcb hcl l0 l1 hx' hs hlen hy
      rw [← World.cell?_drewN (n := m)] at d0 d1 d2 d3 d4 c0
      generalize hwo : w.drewN m = wo at *
      have hWo := Lib.hid hwo
      clear hwo c1 c2 c3
      generalize x'.Before.length = nb at *
      go_wp2_with fail
      go_loopw [9, 33] (fun z c wr => ∃ (j m' : Nat) (q : Int), j ≤ nb ∧ c = .int .i64 j ∧ z = .int .i64 (q - x.Time) ∧ Hid (q = inTo x' i y s j) ∧ wr = wo.drewN m') (fun _ i _ => nb - (intOf i).toNat)
      case atStart => exact ⟨0, 0, y, Nat.zero_le _, rfl, rfl, Lib.hid hStart.out.symm, rfl⟩
      case round =>
        obtain ⟨j, m', q, hj, rfl, rfl, hq, rfl⟩ := hrel
        by_cases hjl : j < nb
        · obtain ⟨bb, ob, rfl, f1⟩ := hE1.out j hjl
          obtain ⟨bl, ol, rfl, f2, l1, l2⟩ := hE2.out j hjl
          have hqb := hY.out j
          rw [← hq.out] at hqb
          obtain ⟨qb1, qb2⟩ := hqb
          have f3 : wo.cell? ⟨bb, ob + j, none⟩ = some (.int .i64 (bAt x' j)) := by rw [← hWo.out, World.cell?_drewN]; exact f1
          have f4 : wo.cell? ⟨bl, ol + j, none⟩ = some (.int .i64 (lAt x' j)) := by rw [← hWo.out, World.cell?_drewN]; exact f2
          rw [← World.cell?_drewN (n := m')] at f3 f4 d0 d1 d2 d3 d4 c0
          generalize hwp : wo.drewN m' = wp at *
          have hWp := Lib.hid hwp
          have hjI : (j : Int) < nb := by omega
          clear hwp f1 f2
          by_cases hit : bAt x' j = i
          · have hh := hHit.out j hjl hit
            have hqy : q = y := by rw [hq.out, hh.1]
            subst hqy
            have hnext := Lib.hid hh.2.symm
            have hw2 : IntKind.i64.wrap (s - lAt x' j) = s - lAt x' j := IntWalk.i64_in _ (by omega)
            have hw3 : IntKind.i64.wrap (s - lAt x' j - x.Time) = s - lAt x' j - x.Time := IntWalk.i64_in _ (by omega)
            rw [hit] at f3
            clear hit hh hq
            go_wp2_with fail
            go_quiet ((go_at_call 91; exact Ret.quiet (Ret.same (l00Min_any _ _ _))))
            go_wp2_with fail
            go_roundw
            case rel => exact ⟨j + 1, _, _, by omega, by go_num, congrArg (Value.int .i64) (show min (q - x.Time) (s - lAt x' j - x.Time) = min q (s - lAt x' j) - x.Time by omega), hnext, by rw [← hWp.out]; exact World.drewN_drewN ..⟩
            case measure => simp [intOf]; omega
          · have hnext := Lib.hid (show q = inTo x' i y s (j + 1) by rw [hMiss.out j hit, hq.out])
            have hne : (bAt x' j == (i : Int)) = false := by rw [beq_eq_false_iff_ne]; exact hit
            clear hit
            go_wp2_with fail
            go_roundw
            case rel => exact ⟨j + 1, m', q, by omega, by go_num, rfl, hnext, hWp.out.symm⟩
            case measure => simp [intOf]; omega
        · have hnext := Lib.hid (show q = backTo xs st i e (k + 1) by rw [hq.out, hStop.out j (by omega)])
          go_wp2_with fail
          go_roundw
          case rel => exact ⟨k + 1, _, q, by omega, by omega, by go_num, rfl, hnext, by rw [← hWo.out]; exact World.drewN_drewN ..⟩
          case measure => simp [intOf]; omega
    · have hres : y - x.Time = lateAt xs st i e := by unfold lateAt; rw [hN.out, hy.out, show k = n by omega, getD_some hXx.out]
      have hF := Lib.hid hres
      clear hres
      go_wp2_with fail
      go_ret
      exact ⟨_, ret_int hF.out, rfl⟩
end Go.Proofs.Ytlgojbbhjhifhaa
