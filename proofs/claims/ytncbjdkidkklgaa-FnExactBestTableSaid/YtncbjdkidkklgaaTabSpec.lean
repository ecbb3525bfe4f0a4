/- The model's search for tables (l05Look): how many keep all rules, the first one, and the first one with the least waits. No condition. -/
import Derived.Test.YtncbjdkidkklgaaTabPure
import Derived.StillTailTactics
namespace Go.Proofs.Ytncbjdkidkklgaa
open Go.RowKit Go.Lst

/-- A row of the call's own that holds the table k. -/
def RowOf (A : Nat) (w : World) (p d : Nat) (v : Value) (k : Nat) : Prop := ∃ g, A ≤ g ∧ g < w.heap.size ∧ v = .slice (some ⟨g, 0, none⟩) (d + 1) (d + 1) ∧ w.ownsRow A 2 1 v (d + 1) ((tabL p d k).map (Value.int .i64))
theorem RowOf.keep {A : Nat} {w w' : World} {p d : Nat} {v : Value} {k : Nat} (h : RowOf A w p d v k) (hs : w.heap.size ≤ w'.heap.size) (hk : ∀ g, A ≤ g → g < w.heap.size → w'.heap[g]? = w.heap[g]?) : RowOf A w' p d v k := by
  obtain ⟨g, h1, h2, rfl, h3⟩ := h
  refine ⟨g, h1, by omega, rfl, ?_⟩
  have hm : d + 1 ≤ maxLen := by
    rcases h3.2 with ⟨e, _⟩ | ⟨_, c, _, _, _, _, q1, q2, _⟩
    · cases e
    · exact Nat.le_trans q1 q2
  exact ((Own.new h3 hm).same hk).1
/-- What has been found among the first k tables. -/
def FoundAt (A : Nat) (w : World) (p d : Nat) (xs : List RuleD) (k : Nat) (c l : Int) (vf vb : Value) : Prop :=
  c = ((keptTo p d xs k).length : Int) ∧ ((keptTo p d xs k = [] ∧ l = 0 ∧ vf = .slice none 0 0 ∧ vb = .slice none 0 0) ∨
    ∃ k1 k2, (keptTo p d xs k).head? = some k1 ∧ leastOf (waitSum p d xs) (keptTo p d xs k) = some k2 ∧ l = waitSum p d xs k2 ∧ RowOf A w p d vf k1 ∧ RowOf A w p d vb k2)
theorem FoundAt.keep {A : Nat} {w w' : World} {p d : Nat} {xs : List RuleD} {k : Nat} {c l : Int} {vf vb : Value} (h : FoundAt A w p d xs k c l vf vb) (hs : w.heap.size ≤ w'.heap.size) (hk : ∀ g, A ≤ g → g < w.heap.size → w'.heap[g]? = w.heap[g]?) : FoundAt A w' p d xs k c l vf vb := by
  obtain ⟨h1, h2 | ⟨k1, k2, a, b, e, f, g⟩⟩ := h
  · exact ⟨h1, .inl h2⟩
  · exact ⟨h1, .inr ⟨k1, k2, a, b, e, f.keep hs hk, g.keep hs hk⟩⟩
theorem FoundAt.zero {A : Nat} {w : World} {p d : Nat} {xs : List RuleD} : FoundAt A w p d xs 0 0 0 (.slice none 0 0) (.slice none 0 0) := ⟨rfl, .inl ⟨rfl, rfl, rfl, rfl⟩⟩
theorem FoundAt.not {A : Nat} {w : World} {p d : Nat} {xs : List RuleD} {k : Nat} {c l : Int} {vf vb : Value} (h : FoundAt A w p d xs k c l vf vb) (hq : keepsAll p (tabL p d k) xs = false) : FoundAt A w p d xs (k + 1) c l vf vb := by
  unfold FoundAt at *
  rw [keptTo_succ, hq]; exact h
/-- The first one. -/
theorem FoundAt.first {A : Nat} {w : World} {p d : Nat} {xs : List RuleD} {k : Nat} {c l : Int} {vf vb v : Value} (h : FoundAt A w p d xs k c l vf vb) (hc : c = 0) (hq : keepsAll p (tabL p d k) xs = true) (hr : RowOf A w p d v k) : FoundAt A w p d xs (k + 1) (c + 1) (waitSum p d xs k) v v := by
  obtain ⟨h1, h2⟩ := h
  have h0 : keptTo p d xs k = [] := List.eq_nil_of_length_eq_zero (by omega)
  unfold FoundAt
  rw [keptTo_succ, if_pos hq, h0]
  exact ⟨by rw [hc]; rfl, .inr ⟨k, k, rfl, rfl, rfl, hr, hr⟩⟩
theorem FoundAt.more {A : Nat} {w : World} {p d : Nat} {xs : List RuleD} {k : Nat} {c l : Int} {vf vb v : Value} (h : FoundAt A w p d xs k c l vf vb) (hc : ¬ c = 0) (hq : keepsAll p (tabL p d k) xs = true) (hr : RowOf A w p d v k) :
    (waitSum p d xs k < l → FoundAt A w p d xs (k + 1) (c + 1) (waitSum p d xs k) vf v) ∧ (¬ waitSum p d xs k < l → FoundAt A w p d xs (k + 1) (c + 1) l vf vb) := by
  obtain ⟨h1, h2 | ⟨k1, k2, a, b, e, f, g⟩⟩ := h
  · rw [h2.1] at h1; simp at h1; omega
  · have ha : (keptTo p d xs k ++ [k]).head? = some k1 := by
      cases hz : keptTo p d xs k with
      | nil => rw [hz] at a; cases a
      | cons z zs => rw [hz] at a; simpa using a
    unfold FoundAt
    rw [keptTo_succ, if_pos hq, leastOf_snoc, b, List.length_append, List.length_singleton]
    refine ⟨fun hl => ⟨by omega, .inr ⟨k1, k, ha, ?_, rfl, f, hr⟩⟩, fun hl => ⟨by omega, .inr ⟨k1, k2, ha, ?_, e, f, g⟩⟩⟩
    · show some _ = _
      rw [if_pos (by rw [← e]; exact hl)]
    · show some _ = _
      rw [if_neg (by rw [← e]; exact hl)]
theorem FoundAt.set {A : Nat} {w : World} {p d : Nat} {xs : List RuleD} {k : Nat} {c l : Int} {vf vb : Value} (h : FoundAt A w p d xs k c l vf vb) {b : Nat} (hb : b < A) (i : Nat) (u : Value) : FoundAt A (w.setCell ⟨b, i, none⟩ u) p d xs k c l vf vb :=
  h.keep (by simp [World.setCell]) (fun g hg _ => Below.heap_setCell _ _ _ _ (by show g ≠ b; omega))
theorem FoundAt.mono {A A' : Nat} {w : World} {p d : Nat} {xs : List RuleD} {k : Nat} {c l : Int} {vf vb : Value} (h : FoundAt A w p d xs k c l vf vb) (hA : A' ≤ A) : FoundAt A' w p d xs k c l vf vb := by
  obtain ⟨h1, h2 | ⟨k1, k2, a, b, e, ⟨g, x1, x2, x3, x4⟩, ⟨g', y1, y2, y3, y4⟩⟩⟩ := h
  · exact ⟨h1, .inl h2⟩
  · exact ⟨h1, .inr ⟨k1, k2, a, b, e, ⟨g, by omega, x2, x3, ownsRow_mono x4 hA⟩, ⟨g', by omega, y2, y3, ownsRow_mono y4 hA⟩⟩⟩
theorem FoundAt.slices {A : Nat} {w : World} {p d : Nat} {xs : List RuleD} {k : Nat} {c l : Int} {vf vb : Value} (h : FoundAt A w p d xs k c l vf vb) : (∃ a n m, vf = .slice a n m) ∧ (∃ a n m, vb = .slice a n m) := by
  obtain ⟨_, ⟨_, _, h2, h3⟩ | ⟨_, _, _, _, _, ⟨g, _, _, x3, _⟩, ⟨g', _, _, y3, _⟩⟩⟩ := h
  · exact ⟨⟨_, _, _, h2⟩, ⟨_, _, _, h3⟩⟩
  · exact ⟨⟨_, _, _, x3⟩, ⟨_, _, _, y3⟩⟩
def LookPost (e : Int) (xs : List RuleD) (p : Int) (w : World) (e' : Ending) (w' : World) : Prop :=
  ∃ (c l : Int) (vf vb : Value), e' = .returned (.tuple #[.agg #[.int .i64 c, .int .i64 l, vf, vb], .bool (decide (p.toNat ^ (e.toNat - 1) ≤ 4096))]) ∧ Below w.heap.size w w' ∧ ((∃ a n m, vf = .slice a n m) ∧ (∃ a n m, vb = .slice a n m)) ∧
    (p.toNat ^ (e.toNat - 1) ≤ 4096 → FoundAt w.heap.size w' p.toNat (e.toNat - 1) xs (p.toNat ^ (e.toNat - 1)) c l vf vb)
set_option maxHeartbeats 8000000 in
set_option maxRecDepth 100000 in
theorem l05Look_run (B P d : Nat) (v : Value) (xs : List RuleD) (w : World) (h : LstRule B w v xs) (hB : B ≤ w.heap.size) (har : areRules ((d + 1 : Nat) : Int) (P : Int) xs = true) :
    Calls Try.prog 20 #[.int .i64 ((d + 1 : Nat) : Int), v, .int .i64 (P : Int)] w (LookPost ((d + 1 : Nat) : Int) xs (P : Int) w) := by
  obtain ⟨⟨e1, e12⟩, ⟨p1, p60⟩, hlen, hok⟩ := areRules_of har
  have hd11 : d ≤ 11 := by omega
  have hP1 : 1 ≤ P := by omega
  have hP60 : P ≤ 60 := by omega
  obtain ⟨a1, cap1, hv1, hl1, _, _, hc1⟩ := h.at_
  have hLr := Lib.hid h
  have hOk := Lib.hid hok
  subst hv1
  -- the answers
  have hNo : Hid (4096 < P ^ d → ∀ w', Below w.heap.size w w' → LookPost ((d + 1 : Nat) : Int) xs (P : Int) w (.returned (.tuple #[.agg #[.int .i64 0, .int .i64 0, .slice none 0 0, .slice none 0 0], .bool false])) w') := Lib.hid fun hp w' hb => ⟨_, _, _, _, by rw [Int.toNat_natCast, Int.toNat_natCast, show d + 1 - 1 = d by omega, decide_eq_false (by omega)], hb, ⟨⟨_, _, _, rfl⟩, ⟨_, _, _, rfl⟩⟩, fun hh => by rw [Int.toNat_natCast, Int.toNat_natCast, show d + 1 - 1 = d by omega] at hh; omega⟩
  have hYes : Hid (P ^ d ≤ 4096 → ∀ (c l : Int) (vf vb : Value) w', Below w.heap.size w w' → FoundAt w.heap.size w' P d xs (P ^ d) c l vf vb → LookPost ((d + 1 : Nat) : Int) xs (P : Int) w (.returned (.tuple #[.agg #[.int .i64 c, .int .i64 l, vf, vb], .bool true])) w') := Lib.hid fun hp c l vf vb w' hb hf => ⟨c, l, vf, vb, by rw [Int.toNat_natCast, Int.toNat_natCast, show d + 1 - 1 = d by omega, decide_eq_true (by omega)], hb, hf.slices, fun _ => by rw [Int.toNat_natCast, Int.toNat_natCast, show d + 1 - 1 = d by omega]; exact hf⟩
  generalize LookPost ((d + 1 : Nat) : Int) xs (P : Int) w = Q at *
  obtain ⟨pw, hpw⟩ : ∃ pw : Nat → Nat, pw = fun j => P ^ j := ⟨_, rfl⟩
  have hS : Hid (∀ j, pw (j + 1) = pw j * P) := Lib.hid fun j => by rw [hpw]; exact Nat.pow_succ ..
  have hM : Hid (∀ j, j ≤ d → pw j ≤ pw d) := Lib.hid fun j hj => by rw [hpw]; exact Nat.pow_le_pow_right hP1 hj
  have h0 : pw 0 = 1 := by rw [hpw]; rfl
  have hPw := Lib.hid hpw
  have hPd : P ^ d = pw d := by rw [hpw]
  rw [hPd] at hNo hYes
  obtain ⟨i0, hi, hy0, hy1, hy2⟩ := info_parts infoI
  clear hpw
  clear har h hc1 e1 e12 hok hPd
  generalize hn : xs.length = n at *
  have hNx := Lib.hid hn
  clear hn
  unfold maxLen at hl1
  have hd1 : ((d + 1 : Nat) : Int) = (d : Int) + 1 := by omega
  rw [hd1]
  have hG1 : Whole ((w.alloc (.cells #[.int .i64 0, .int .i64 0, .slice none 0 0, .slice none 0 0] 40)).alloc (.cells #[.int .i64 0, .int .i64 0, .slice none 0 0, .slice none 0 0] 40)) (w.heap.size + 1) 40 #[.int .i64 0, .int .i64 0, .slice none 0 0, .slice none 0 0] := Whole.made _ _ _ (by simp)
  have hG0 : Whole ((w.alloc (.cells #[.int .i64 0, .int .i64 0, .slice none 0 0, .slice none 0 0] 40)).alloc (.cells #[.int .i64 0, .int .i64 0, .slice none 0 0, .slice none 0 0] 40)) w.heap.size 40 #[.int .i64 0, .int .i64 0, .slice none 0 0, .slice none 0 0] := (Whole.made w _ _ rfl).more _
  have hB0 : Below w.heap.size w ((w.alloc (.cells #[.int .i64 0, .int .i64 0, .slice none 0 0, .slice none 0 0] 40)).alloc (.cells #[.int .i64 0, .int .i64 0, .slice none 0 0, .slice none 0 0] 40)) := below_alloc (below_alloc (Below.refl _ _) _) _
  go_enter Try.func20, Try.ntmps20
  go_wp2_with fail
  generalize ((w.alloc (.cells #[.int .i64 0, .int .i64 0, .slice none 0 0, .slice none 0 0] 40)).alloc (.cells #[.int .i64 0, .int .i64 0, .slice none 0 0, .slice none 0 0] 40)) = w1 at *
  have HG1 := Lib.hid hG1
  have HG0 := Lib.hid hG0
  have HB0 := Lib.hid hB0
  clear hG1 hG0 hB0
  go_loopw [9, 10] (fun al i wr => ∃ j : Nat, j ≤ d ∧ i = .int .i64 ((j : Int) + 1) ∧ al = .int .i64 (pw j : Nat) ∧ Hid (pw j ≤ 4096) ∧ wr = w1) (fun _ i _ => d + 1 - (intOf i).toNat)
  case atStart => exact ⟨0, Nat.zero_le _, rfl, by rw [h0]; rfl, Lib.hid (by rw [h0]; omega), rfl⟩
  case round =>
    obtain ⟨j, hj, rfl, rfl, hA, rfl⟩ := hrel
    by_cases hlt : j < d
    · have hS2 := hS.out j
      have hM2 := hM.out (j + 1) (by omega)
      have hA2 := hA.out
      have hPP : pw j * P ≤ 4096 * 60 := Nat.mul_le_mul hA2 hP60
      have hw : IntKind.i64.wrap ((pw j : Int) * (P : Int)) = ((pw (j + 1) : Nat) : Int) := by
        rw [hS2, Int.natCast_mul]; exact IntWalk.i64_in _ (by have : ((pw j * P : Nat) : Int) ≤ 4096 * 60 := by omega
                                                              rw [Int.natCast_mul] at this
                                                              have : (0 : Int) ≤ (pw j : Int) * (P : Int) := Int.mul_nonneg (by omega) (by omega)
                                                              omega)
      have hHn := Lib.hid hM2
      have hS3 := Lib.hid hS2
      have hlt2 : (j : Int) + 1 < (d : Int) + 1 := by omega
      clear hS2 hM2 hPP
      have hE2 : Hid (∃ z, z = pw (j + 1)) := Lib.hid ⟨_, rfl⟩
      obtain ⟨A2, hA2e⟩ := hE2.out
      rw [← hA2e] at hw hHn hS3
      have hE3 := Lib.hid hA2e
      clear hE2 hA2e
      generalize pw j = A1 at *
      by_cases hbig : 4096 < A2
      · have hX := Lib.hid (hNo.out (by have := hHn.out; omega))
        have hbig2 : (4096 : Int) < (A2 : Int) := by omega
        have m0 := HG1.out.at_ (i := 0) rfl
        have m1 := HG1.out.at_ (i := 1) rfl
        have m2 := HG1.out.at_ (i := 2) rfl
        have m3 := HG1.out.at_ (i := 3) rfl
        have q0 := HG0.out.at_ (i := 0) rfl
        have q1 := HG0.out.at_ (i := 1) rfl
        have q2 := HG0.out.at_ (i := 2) rfl
        have q3 := HG0.out.at_ (i := 3) rfl
        have f0 := HG0.out.free 0
        have f1 := HG0.out.free 1
        have f2 := HG0.out.free 2
        have f3 := HG0.out.free 3
        clear hNo
        go_wp2_with fail
        have hO := (((HG0.out.put 0 (.int .i64 0)).put 1 (.int .i64 0)).put 2 (.slice none 0 0)).put 3 (.slice none 0 0)
        have hBe := Lib.hid ((((HB0.out.setCell (Nat.le_refl _) (.int .i64 0) (p := ⟨w.heap.size, 0, none⟩)).setCell (Nat.le_refl _) (.int .i64 0) (p := ⟨w.heap.size, 1, none⟩)).setCell (Nat.le_refl _) (.slice none 0 0) (p := ⟨w.heap.size, 2, none⟩)).setCell (Nat.le_refl _) (.slice none 0 0) (p := ⟨w.heap.size, 3, none⟩))
        generalize ((((wr.setCell _ _).setCell _ _).setCell _ _).setCell _ _) = w5 at *
        have r0 := hO.at_ (i := 0) (u := .int .i64 0) rfl
        have r1 := hO.at_ (i := 1) (u := .int .i64 0) rfl
        have r2 := hO.at_ (i := 2) (u := .slice none 0 0) rfl
        have r3 := hO.at_ (i := 3) (u := .slice none 0 0) rfl
        clear hO m0 m1 m2 m3 q0 q1 q2 q3 f0 f1 f2 f3
        exact bodyPost_ret (v := .tuple #[.agg #[.int .i64 0, .int .i64 0, .slice none 0 0, .slice none 0 0], .bool false]) (by simp [results, Try.results20, go_sem, r0, r1, r2, r3]) rfl (hX.out _ hBe.out)
      · have hsm : ¬ (4096 : Int) < (A2 : Int) := by omega
        go_wp2_with fail
        go_roundw
        case rel => exact ⟨j + 1, by omega, by go_num, by rw [← hE3.out], Lib.hid (by rw [← hE3.out]; omega), trivial⟩
        case measure => simp [intOf]; omega
    · obtain rfl : j = d := by omega
      have hN1 := Lib.hid (hYes.out (by have := hA.out; omega))
      have hN4 := Lib.hid hA.out
      have hPK : Hid (pw j = P ^ j) := Lib.hid (by rw [hPw.out])
      clear hNo hA hYes h0 hM
      generalize hJn : pw j = N at *
      have hge : ¬ (j : Int) + 1 < (j : Int) + 1 := by omega
      clear hJn
      have hNb : N ≤ 4096 := hN4.out
      go_wp2_with fail
      go_loopw [11] (fun kv wr2 => ∃ k : Nat, k ≤ N ∧ kv = .int .i64 (k : Nat) ∧ Hid (Below w.heap.size w wr2) ∧ Hid (Whole wr2 w.heap.size 40 #[.int .i64 0, .int .i64 0, .slice none 0 0, .slice none 0 0]) ∧ Hid (∃ (c l : Int) (vf vb : Value), Whole wr2 (w.heap.size + 1) 40 #[.int .i64 c, .int .i64 l, vf, vb] ∧ FoundAt (w.heap.size + 2) wr2 P j xs k c l vf vb)) (fun kv _ => N - (intOf kv).toNat)
      case atStart => exact ⟨0, Nat.zero_le _, rfl, HB0, HG0, Lib.hid ⟨_, _, _, _, HG1.out, FoundAt.zero⟩⟩
      case round =>
        obtain ⟨k, hk, rfl, hBw, hG0, hF⟩ := hrel
        by_cases hlt2 : k < N
        · have hkN : (k : Int) < (N : Int) := by omega
          have hHs := Lib.hid (show w.heap.size + 2 ≤ wr.heap.size by have h1 := hF.out; obtain ⟨_, _, _, _, h1, _⟩ := h1; have := h1.size; omega)
          go_wp2_with (at_make; refine wpList_make_full _ rfl _ _ _ rfl wr.heap.size _ i0 (.int .i64 0) 1 Try.underlying24 hi hy0 hy1 _ _ _ _ (j + 1) rfl rfl (by omega) (by omega) ?c1 ?c2 ?c3 ?_)
          case c1 => rw [hy2]; omega
          case c2 => unfold maxLen; omega
          case c3 => exact Nat.le_refl _
          intro w3 hown3 hg3
          have hB3 := Lib.hid ((Below.refl wr.heap.size wr).grown hg3 (Nat.le_refl _) (fun k hk => by cases hk))
          have hRow := Lib.hid (zeros_row hown3)
          have hSz3 := Lib.hid (hown3.lt _ rfl).2
          clear hown3 hg3
          obtain ⟨gz, hgz⟩ : ∃ gz, gz = wr.heap.size := ⟨_, rfl⟩
          rw [← hgz] at hB3 hRow hSz3 hHs
          have hGz := Lib.hid hgz
          simp only [← hgz]
          clear hgz
          go_wp2_with fail
          generalize wr = wo at *
          go_loopw [13, 14] (fun xv iv wq => ∃ q t z : Nat, q + t = j ∧ xv = .int .i64 (z : Nat) ∧ Hid (z = k / P ^ q) ∧ iv = .int .i64 (t : Nat) ∧ Hid (wq.ownsRow gz 2 1 (.slice (some ⟨gz, 0, none⟩) (j + 1) (j + 1)) (j + 1) ((tellL P j k q).map (Value.int .i64))) ∧ Hid (Below gz w3 wq)) (fun _ iv _ => (intOf iv).toNat)
          case atStart => exact ⟨0, j, k, by omega, rfl, Lib.hid (by simp), by go_num, Lib.hid (by rw [tell_zero]; exact hRow.out), Lib.hid (Below.refl _ _)⟩
          case round =>
            obtain ⟨q, t, z, hqt, rfl, hz, rfl, hO, hBq⟩ := hrel
            by_cases ht : 0 < t
            · have t1 : (0 : Int) < (t : Int) := by omega
              have t2 : (t : Int) < (j : Int) + 1 := by omega
              have t3 : t < j + 1 := by omega
              have hdv2 : wrap64 ((z : Int) / (P : Int)) = ((z / P : Nat) : Int) := IntWalk.wrap64_in ((z / P : Nat) : Int) (by have := hz.out; have h1 := Nat.div_le_self k (P ^ q); have h2 := Nat.div_le_self z P; have := hN4.out; generalize z / P = zq at *; generalize k / P ^ q = zk at *; omega)
              have hp0 : ((P : Int) == 0) = false := by rw [beq_eq_false_iff_ne]; omega
              have hp1 : ¬ (P : Int) = 0 := by omega
              have hst := hO.out.stored t (.int .i64 ((z : Int) % (P : Int)))
              rw [← List.map_set] at hst
              have hT : (tellL P j k q).set t ((z : Int) % (P : Int)) = tellL P j k (q + 1) := by
                have := tell_next (p := P) (k := k) (show q < j by omega)
                rw [show j - q = t by omega, ← hz.out] at this; exact this
              rw [hT] at hst
              have hO2 := Lib.hid hst.1
              have hB2 := Lib.hid (hBq.out.grown hst.2 (by have := hBq.out.size; have := hSz3.out; omega) (fun q hq => by cases hq; exact Nat.le_refl _))
              obtain ⟨u0, cl⟩ : ∃ u0, wr.cell? ⟨gz, t, none⟩ = some u0 := by
                have h9 := hO.out.cellAt t (by omega)
                rw [List.getElem?_eq_getElem (by rw [List.length_map, tellL_length]; omega)] at h9
                exact ⟨_, h9⟩
              have fr := hO.out.frozenAt t
              have hzn : Hid (z / P = k / P ^ (q + 1)) := Lib.hid (by rw [hz.out, Nat.pow_succ, Nat.div_div_eq_div_mul])
              clear hst hT
              go_wp2_with fail
              go_roundw
              case rel => exact ⟨q + 1, t - 1, z / P, by omega, by rw [hdv2], hzn, by go_num, hO2, hB2⟩
              case measure => simp [intOf]; omega
            · obtain rfl : t = 0 := by omega
              have t1 : ¬ (0 : Int) < ((0 : Nat) : Int) := by omega
              have hO3 := hO.out
              rw [Nat.add_zero] at hqt
              rw [hqt, tell_all] at hO3
              have hO4 := Lib.hid hO3
              have hBo : Hid (Below gz wo wr) := Lib.hid (hB3.out.trans hBq.out)
              have hsz : gz < wr.heap.size := by have := hBq.out.size; have := hSz3.out; omega
              clear hO hz hO3 hB3 hBq hRow hSz3
              have hgw : w.heap.size ≤ gz := by have := hHs.out; omega
              have hB5 : Hid (Below w.heap.size w wr) := Lib.hid (hBw.out.trans (hBo.out.mono hgw))
              have hG05 := Lib.hid (hG0.out.below hBo.out (by have := hHs.out; omega))
              have hF5 : Hid (∃ (c l : Int) (vf vb : Value), Whole wr (w.heap.size + 1) 40 #[.int .i64 c, .int .i64 l, vf, vb] ∧ FoundAt (w.heap.size + 2) wr P j xs k c l vf vb) := Lib.hid (by
                obtain ⟨c, l, vf, vb, h1, h2⟩ := hF.out
                exact ⟨c, l, vf, vb, h1.below hBo.out (by have := hHs.out; omega), h2.keep hBo.out.size (fun g _ hg => hBo.out.block g (by rw [hGz.out]; exact hg))⟩)
              have hLr2 := Lib.hid ((((hLr.out.mono hB).below hBw.out (Nat.le_refl _)).below hBo.out hgw).mono (show w.heap.size ≤ gz + 1 by omega))
              have hTm := Lib.hid (show LstI (gz + 1) wr (.slice (some ⟨gz, 0, none⟩) (j + 1) (j + 1)) (tabL P j k) by
                have hx : Own gz (gz + 1) wr (.slice (some ⟨gz, 0, none⟩) (j + 1) (j + 1)) 2 1 (tabL P j k).length ((tabL P j k).map (Value.int .i64)) := by
                  rw [tabL_length]
                  exact ⟨hO4.out, by unfold maxLen; omega, fun g hg => by (have : gz = g := by simpa [Value.ownBlock] using hg); omega⟩
                exact hx.lstI (Nat.le_refl _))
              have hTi := tabL_in (d := j) (k := k) hP1
              have hTl : ((tabL P j k).length : Int) = ((j + 1 : Nat) : Int) := by rw [tabL_length]
              have hRo : Hid (RowOf (w.heap.size + 2) wr P j (.slice (some ⟨gz, 0, none⟩) (j + 1) (j + 1)) k) := Lib.hid ⟨gz, hHs.out, hsz, rfl, ownsRow_mono hO4.out hHs.out⟩
              have hKe := Lib.hid (l05Keeps_any (gz + 1) _ xs wr hLr2.out ((j + 1 : Nat) : Int) P _ (tabL P j k) hTm.out hOk.out hTl hTi p1 p60)
              have hGzw := Lib.hid hgw
              clear hBw hG0 hF hBo hO4 hGz hgw
              cases hq : keepsAll P (tabL P j k) xs
              · rw [hq] at hKe
                have hQ := Lib.hid hq
                clear hq
                go_wp2_with (go_at_call 31; (with_reducible refine (hKe.out).mono ?_); rintro e' w' ⟨jn, rfl, rfl⟩)
                have hB6 := Lib.hid (Lst.Below.drewN hB5.out jn)
                have hF6 : Hid (∃ (c l : Int) (vf vb : Value), Whole (wr.drewN jn) (w.heap.size + 1) 40 #[.int .i64 c, .int .i64 l, vf, vb] ∧ FoundAt (w.heap.size + 2) (wr.drewN jn) P j xs (k + 1) c l vf vb) := Lib.hid (by
                  obtain ⟨c, l, vf, vb, h1, h2⟩ := hF5.out
                  exact ⟨c, l, vf, vb, h1.draws jn, (h2.keep (Nat.le_refl _) (fun g _ _ => rfl)).not hQ.out⟩)
                have hG06 := Lib.hid (hG05.out.draws jn)
                clear hF5 hB5 hG05 hKe
                go_wp2_with fail
                go_roundw
                case rel => exact ⟨k + 1, by omega, by go_num, hB6, hG06, hF6⟩
                case measure => simp [intOf]; omega
              · rw [hq] at hKe
                have hQ := Lib.hid hq
                clear hq
                have hWi : Hid (∀ (i : Nat) (x : RuleD), xs[i]? = some x → 0 ≤ waitR P (tabL P j k) x ∧ waitR P (tabL P j k) x ≤ 120) := Lib.hid fun i x hx => by
                  have h9 := hOk.out i x hx
                  obtain ⟨_, _, _, ⟨l0, l1⟩, _⟩ := okRule_of h9
                  have := remG_in (x := (tabL P j k).getD x.To.toNat 0 - (tabL P j k).getD x.From.toNat 0 - x.Least) p1
                  unfold waitR
                  omega
                have hWs : Hid (∀ i, waitsTo P (tabL P j k) xs (i + 1) = waitsTo P (tabL P j k) xs i + (match xs[i]? with | some x => waitR P (tabL P j k) x | none => 0)) := Lib.hid fun i => rfl
                have hWn : Hid (waitsTo P (tabL P j k) xs n = waitSum P j xs k) := Lib.hid (by unfold waitSum; rw [hNx.out])
                have hW0 : waitsTo P (tabL P j k) xs 0 = 0 := rfl
                go_wp2_with (go_at_call 31; (with_reducible refine (hKe.out).mono ?_); rintro e' w' ⟨jn, rfl, rfl⟩)
                have hB6 := Lib.hid (Lst.Below.drewN hB5.out jn)
                have hF6 : Hid (∃ (c l : Int) (vf vb : Value), Whole (wr.drewN jn) (w.heap.size + 1) 40 #[.int .i64 c, .int .i64 l, vf, vb] ∧ FoundAt (w.heap.size + 2) (wr.drewN jn) P j xs k c l vf vb) := Lib.hid (by
                  obtain ⟨c, l, vf, vb, h1, h2⟩ := hF5.out
                  exact ⟨c, l, vf, vb, h1.draws jn, h2.keep (Nat.le_refl _) (fun g _ _ => rfl)⟩)
                have hG06 := Lib.hid (hG05.out.draws jn)
                have hRo6 : Hid (RowOf (w.heap.size + 2) (wr.drewN jn) P j (.slice (some ⟨gz, 0, none⟩) (j + 1) (j + 1)) k) := Lib.hid (hRo.out.keep (Nat.le_refl _) (fun _ _ _ => rfl))
                have hLr6 := Lib.hid (LstK.drewN hLr2.out jn)
                have hTm6 := Lib.hid (hTm.out.drewN jn)
                clear hF5 hB5 hG05 hKe hRo hLr2 hTm
                generalize wr.drewN jn = w6 at *
                have hOne := Lib.hid (fun (i b o : Nat) (x : RuleD) (q : Nat) (hx : xs[i]? = some x) (g0 : (w6.drewN q).cell? ⟨b, o, none⟩ = some (.int .i64 x.From)) (g1 : (w6.drewN q).cell? ⟨b, o + 1, none⟩ = some (.int .i64 x.To)) (g2 : (w6.drewN q).cell? ⟨b, o + 2, none⟩ = some (.int .i64 x.Least)) => l05Wait_any (gz + 1) ((j + 1 : Nat) : Int) P x _ (tabL P j k) b o (w6.drewN q) g0 g1 g2 (hTm6.out.drewN q) (hOk.out i x hx) hTl hTi p1 p60)
                obtain ⟨_, _, hva, _, _, _, hC6⟩ := LstRule.at_ hLr6.out
                injection hva with hva1 hva2 hva3
                subst hva1
                clear hva2 hva3
                have hC := Lib.hid hC6
                clear hC6 hTi hTl
                go_loopw [15, 59] (fun sv cv wq => ∃ i q : Nat, i ≤ n ∧ cv = .int .i64 (i : Nat) ∧ sv = .int .i64 (waitsTo P (tabL P j k) xs i) ∧ Hid (0 ≤ waitsTo P (tabL P j k) xs i ∧ waitsTo P (tabL P j k) xs i ≤ 120 * i) ∧ wq = w6.drewN q) (fun _ cv _ => n - (intOf cv).toNat)
                case atStart => exact ⟨0, 0, Nat.zero_le _, rfl, by rw [hW0], Lib.hid (by rw [hW0]; omega), rfl⟩
                case round =>
                  obtain ⟨i, q, hi2, rfl, rfl, hWb, rfl⟩ := hrel
                  by_cases hin : i < n
                  · have hin2 : (i : Int) < (n : Int) := by omega
                    obtain ⟨b, o, x, rfl, hbB, hx, g0, g1, g2, _⟩ := hC.out i (by rw [hNx.out]; exact hin)
                    have hXx := Lib.hid hx
                    have hWx := hWi.out i x hx
                    have hW2 : Hid (waitsTo P (tabL P j k) xs (i + 1) = waitsTo P (tabL P j k) xs i + waitR P (tabL P j k) x) := Lib.hid (by rw [hWs.out i, hx])
                    clear hx hbB
                    rw [← World.cell?_drewN (n := q)] at g0 g1 g2
                    have hJ2 := Lib.hid (fun (w' : World) (z : Nat) (hz : w' = (w6.drewN q).drewN z) => (show Calls Try.prog 32 #[.pointer (some ⟨b, o + i * 4, none⟩), .int .i64 P, .slice (some ⟨gz, 0, none⟩) (j + 1) (j + 1)] w' (Ret (.int .i64 (waitR P (tabL P j k) x)) w') by subst hz; rw [World.drewN_drewN]; exact hOne.out i b (o + i * 4) x (q + z) hXx.out (by rw [← World.drewN_drewN, World.cell?_drewN]; exact g0) (by rw [← World.drewN_drewN, World.cell?_drewN]; exact g1) (by rw [← World.drewN_drewN, World.cell?_drewN]; exact g2)))
                    clear g0 g1 g2
                    have hWb2 := hWb.out
                    generalize hwo : w6.drewN q = wq at *
                    have hWo := Lib.hid hwo
                    clear hwo
                    generalize waitR P (tabL P j k) x = wa at *
                    generalize hS0 : waitsTo P (tabL P j k) xs i = s0 at *
                    have hS0h := Lib.hid hS0
                    clear hS0
                    have hwr : IntKind.i64.wrap (s0 + wa) = s0 + wa := IntWalk.i64_in _ (by omega)
                    go_wp2_with (go_at_call 32; (with_reducible refine (hJ2.out wq 0 rfl).mono ?_); rintro e' w' ⟨jq, rfl, rfl⟩)
                    go_roundw
                    case rel => exact ⟨i + 1, _, by omega, by go_num, by rw [hW2.out], Lib.hid (by rw [hW2.out]; omega), by rw [← hWo.out, World.drewN_drewN]⟩
                    case measure => simp [intOf]; omega
                  · obtain rfl : i = n := by omega
                    have hin2 : ¬ (i : Int) < (i : Int) := by omega
                    rw [hWn.out] at hWb ⊢
                    have hSb := hWb.out
                    have hB7 := Lib.hid (Lst.Below.drewN hB6.out q)
                    obtain ⟨c, l, vf, vb, hg8, hf8⟩ := hF6.out
                    have hG8 := Lib.hid (hg8.draws q)
                    have hF8 : Hid (FoundAt (w.heap.size + 2) (w6.drewN q) P j xs k c l vf vb) := Lib.hid (hf8.keep (Nat.le_refl _) (fun _ _ _ => rfl))
                    have hG07 := Lib.hid (hG06.out.draws q)
                    have hRo7 : Hid (RowOf (w.heap.size + 2) (w6.drewN q) P j (.slice (some ⟨gz, 0, none⟩) (j + 1) (j + 1)) k) := Lib.hid (hRo6.out.keep (Nat.le_refl _) (fun _ _ _ => rfl))
                    have hcb : 0 ≤ c ∧ c ≤ 4096 := by have h1 := hf8.1; have h2 := keptTo_length P j xs k; omega
                    clear hF6 hB6 hG06 hRo6 hg8 hf8 hOne hC hTm6 hLr6
                    generalize w6.drewN q = w7 at *
                    obtain ⟨S, hSe⟩ : ∃ S, S = waitSum P j xs k := ⟨_, rfl⟩
                    rw [← hSe] at hSb ⊢
                    have hSh := Lib.hid hSe
                    clear hSe hWb
                    have m0 := hG8.out.at_ (i := 0) rfl
                    have m1 := hG8.out.at_ (i := 1) rfl
                    have m2 := hG8.out.at_ (i := 2) rfl
                    have m3 := hG8.out.at_ (i := 3) rfl
                    have f0 := hG8.out.free 0
                    have f1 := hG8.out.free 1
                    have f2 := hG8.out.free 2
                    have f3 := hG8.out.free 3
                    have hcw : IntKind.i64.wrap (c + 1) = c + 1 := IntWalk.i64_in _ (by omega)
                    by_cases hc0 : c = 0
                    · have hNew := Lib.hid (hF8.out.first hc0 hQ.out hRo7.out)
                      rw [← hSh.out] at hNew
                      subst hc0
                      have hW9 := Lib.hid (show Whole _ (w.heap.size + 1) 40 #[.int .i64 1, .int .i64 S, (.slice (some ⟨gz, 0, none⟩) (j + 1) (j + 1)), (.slice (some ⟨gz, 0, none⟩) (j + 1) (j + 1))] from ((((hG8.out.put 2 (.slice (some ⟨gz, 0, none⟩) (j + 1) (j + 1))).put 3 (.slice (some ⟨gz, 0, none⟩) (j + 1) (j + 1))).put 1 (.int .i64 S)).put 0 (.int .i64 1)))
                      have hF9 := Lib.hid ((((hNew.out.set (Nat.lt_succ_self _) 2 (.slice (some ⟨gz, 0, none⟩) (j + 1) (j + 1))).set (Nat.lt_succ_self _) 3 (.slice (some ⟨gz, 0, none⟩) (j + 1) (j + 1))).set (Nat.lt_succ_self _) 1 (.int .i64 S)).set (Nat.lt_succ_self _) 0 (.int .i64 1))
                      have hB9 := Lib.hid ((((hB7.out.setCell (p := ⟨w.heap.size + 1, 2, none⟩) (Nat.le_succ _) (.slice (some ⟨gz, 0, none⟩) (j + 1) (j + 1))).setCell (p := ⟨w.heap.size + 1, 3, none⟩) (Nat.le_succ _) (.slice (some ⟨gz, 0, none⟩) (j + 1) (j + 1))).setCell (p := ⟨w.heap.size + 1, 1, none⟩) (Nat.le_succ _) (.int .i64 S)).setCell (p := ⟨w.heap.size + 1, 0, none⟩) (Nat.le_succ _) (.int .i64 1))
                      have hG9 := Lib.hid ((((hG07.out.apart (p := ⟨w.heap.size + 1, 2, none⟩) (by show w.heap.size ≠ w.heap.size + 1; omega) (.slice (some ⟨gz, 0, none⟩) (j + 1) (j + 1))).apart (p := ⟨w.heap.size + 1, 3, none⟩) (by show w.heap.size ≠ w.heap.size + 1; omega) (.slice (some ⟨gz, 0, none⟩) (j + 1) (j + 1))).apart (p := ⟨w.heap.size + 1, 1, none⟩) (by show w.heap.size ≠ w.heap.size + 1; omega) (.int .i64 S)).apart (p := ⟨w.heap.size + 1, 0, none⟩) (by show w.heap.size ≠ w.heap.size + 1; omega) (.int .i64 1))
                      go_wp2_with fail
                      clear m0 m1 m2 m3 f0 f1 f2 f3
                      go_roundw
                      case rel => exact ⟨k + 1, by omega, by go_num, hB9, hG9, Lib.hid ⟨_, _, _, _, hW9.out, hF9.out⟩⟩
                      case measure => simp [intOf]; omega
                    · have hNew := Lib.hid (hF8.out.more hc0 hQ.out hRo7.out)
                      rw [← hSh.out] at hNew
                      have hc1 : (c == 0) = false := by rw [beq_eq_false_iff_ne]; exact hc0
                      by_cases hsl : S < l
                      · have hNew2 := Lib.hid (hNew.out.1 hsl)
                        clear hNew
                        have hW9 := Lib.hid (show Whole _ (w.heap.size + 1) 40 #[.int .i64 (c + 1), .int .i64 S, vf, (.slice (some ⟨gz, 0, none⟩) (j + 1) (j + 1))] from (((hG8.out.put 3 (.slice (some ⟨gz, 0, none⟩) (j + 1) (j + 1))).put 1 (.int .i64 S)).put 0 (.int .i64 (c + 1))))
                        have hF9 := Lib.hid (((hNew2.out.set (Nat.lt_succ_self _) 3 (.slice (some ⟨gz, 0, none⟩) (j + 1) (j + 1))).set (Nat.lt_succ_self _) 1 (.int .i64 S)).set (Nat.lt_succ_self _) 0 (.int .i64 (c + 1)))
                        have hB9 := Lib.hid (((hB7.out.setCell (p := ⟨w.heap.size + 1, 3, none⟩) (Nat.le_succ _) (.slice (some ⟨gz, 0, none⟩) (j + 1) (j + 1))).setCell (p := ⟨w.heap.size + 1, 1, none⟩) (Nat.le_succ _) (.int .i64 S)).setCell (p := ⟨w.heap.size + 1, 0, none⟩) (Nat.le_succ _) (.int .i64 (c + 1)))
                        have hG9 := Lib.hid (((hG07.out.apart (p := ⟨w.heap.size + 1, 3, none⟩) (by show w.heap.size ≠ w.heap.size + 1; omega) (.slice (some ⟨gz, 0, none⟩) (j + 1) (j + 1))).apart (p := ⟨w.heap.size + 1, 1, none⟩) (by show w.heap.size ≠ w.heap.size + 1; omega) (.int .i64 S)).apart (p := ⟨w.heap.size + 1, 0, none⟩) (by show w.heap.size ≠ w.heap.size + 1; omega) (.int .i64 (c + 1)))
                        go_wp2_with fail
                        clear m0 m1 m2 m3 f0 f1 f2 f3
                        go_roundw
                        case rel => exact ⟨k + 1, by omega, by go_num, hB9, hG9, Lib.hid ⟨_, _, _, _, hW9.out, hF9.out⟩⟩
                        case measure => simp [intOf]; omega
                      · have hNew2 := Lib.hid (hNew.out.2 hsl)
                        clear hNew
                        have hW9 := Lib.hid (show Whole _ (w.heap.size + 1) 40 #[.int .i64 (c + 1), .int .i64 l, vf, vb] from (hG8.out.put 0 (.int .i64 (c + 1))))
                        have hF9 := Lib.hid (hNew2.out.set (Nat.lt_succ_self _) 0 (.int .i64 (c + 1)))
                        have hB9 := Lib.hid (hB7.out.setCell (p := ⟨w.heap.size + 1, 0, none⟩) (Nat.le_succ _) (.int .i64 (c + 1)))
                        have hG9 := Lib.hid (hG07.out.apart (p := ⟨w.heap.size + 1, 0, none⟩) (by show w.heap.size ≠ w.heap.size + 1; omega) (.int .i64 (c + 1)))
                        go_wp2_with fail
                        clear m0 m1 m2 m3 f0 f1 f2 f3
                        go_roundw
                        case rel => exact ⟨k + 1, by omega, by go_num, hB9, hG9, Lib.hid ⟨_, _, _, _, hW9.out, hF9.out⟩⟩
                        case measure => simp [intOf]; omega
        · obtain rfl : k = N := by omega
          have hkN : ¬ (k : Int) < (k : Int) := by omega
          obtain ⟨c, l, vf, vb, hg8, hf8⟩ := hF.out
          obtain ⟨⟨a5, n5, c5, rfl⟩, ⟨a6, n6, c6, rfl⟩⟩ := hf8.slices
          have m0 := hg8.at_ (i := 0) rfl
          have m1 := hg8.at_ (i := 1) rfl
          have m2 := hg8.at_ (i := 2) rfl
          have m3 := hg8.at_ (i := 3) rfl
          have q0 := hG0.out.at_ (i := 0) rfl
          have q1 := hG0.out.at_ (i := 1) rfl
          have q2 := hG0.out.at_ (i := 2) rfl
          have q3 := hG0.out.at_ (i := 3) rfl
          have f0 := hG0.out.free 0
          have f1 := hG0.out.free 1
          have f2 := hG0.out.free 2
          have f3 := hG0.out.free 3
          have hO := Lib.hid ((((hG0.out.put 0 (.int .i64 c)).put 1 (.int .i64 l)).put 2 (.slice a5 n5 c5)).put 3 (.slice a6 n6 c6))
          have hBe := Lib.hid ((((hBw.out.setCell (Nat.le_refl _) (.int .i64 c) (p := ⟨w.heap.size, 0, none⟩)).setCell (Nat.le_refl _) (.int .i64 l) (p := ⟨w.heap.size, 1, none⟩)).setCell (Nat.le_refl _) (.slice a5 n5 c5) (p := ⟨w.heap.size, 2, none⟩)).setCell (Nat.le_refl _) (.slice a6 n6 c6) (p := ⟨w.heap.size, 3, none⟩))
          have hFe := Lib.hid ((((hf8.set (b := w.heap.size) (by omega) 0 (.int .i64 c)).set (b := w.heap.size) (by omega) 1 (.int .i64 l)).set (b := w.heap.size) (by omega) 2 (.slice a5 n5 c5)).set (b := w.heap.size) (by omega) 3 (.slice a6 n6 c6))
          have hgw : w.heap.size < wr.heap.size := by have := hG0.out.size; omega
          clear hg8 hf8
          go_wp2_with fail
          generalize ((((wr.setCell _ _).setCell _ _).setCell _ _).setCell _ _) = w5 at *
          have r0 := hO.out.at_ (i := 0) (u := .int .i64 c) rfl
          have r1 := hO.out.at_ (i := 1) (u := .int .i64 l) rfl
          have r2 := hO.out.at_ (i := 2) (u := (.slice a5 n5 c5)) rfl
          have r3 := hO.out.at_ (i := 3) (u := (.slice a6 n6 c6)) rfl
          clear m0 m1 m2 m3 q0 q1 q2 q3 f0 f1 f2 f3
          exact bodyPost_ret (v := .tuple #[.agg #[.int .i64 c, .int .i64 l, (.slice a5 n5 c5), (.slice a6 n6 c6)], .bool true]) (by simp [results, Try.results20, go_sem, r0, r1, r2, r3]) rfl (hN1.out _ _ _ _ _ hBe.out (hFe.out.mono (by omega)))
end Go.Proofs.Ytncbjdkidkklgaa
