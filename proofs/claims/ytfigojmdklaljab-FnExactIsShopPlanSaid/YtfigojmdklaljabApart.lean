/- Contracts: whether starts are within their limits, and whether no job, and no machine, has two things to do at once. -/
import Derived.Test.YtfigojmdklaljabNear
import Derived.Test.YtfigojmdklaljabBoundImpl
namespace Go.Proofs.Ytfigojmdklaljab
open Go.RowKit Go.Lst

def shares (rt : List Int) (m i k : Nat) : Bool := decide (i / m = k / m) || decide (rt.getD i 0 = rt.getD k 0)
def overs (ts st : List Int) (i k : Nat) : Bool := decide (st.getD i 0 < st.getD k 0 + ts.getD k 0) && decide (st.getD k 0 < st.getD i 0 + ts.getD i 0)
def meets (rt ts st : List Int) (m i k : Nat) : Bool := shares rt m i k && overs ts st i k
/-- The step i meets none of the first k ones. -/
def apartIn (rt ts st : List Int) (m i : Nat) : Nat → Bool
  | 0 => true
  | k + 1 => apartIn rt ts st m i k && !meets rt ts st m i k
/-- Of the first i steps, none meets another one. -/
def apartTo (rt ts st : List Int) (m : Nat) : Nat → Bool
  | 0 => true
  | i + 1 => apartTo rt ts st m i && apartIn rt ts st m i i
theorem apartIn_no {rt ts st : List Int} {m i k : Nat} (h : meets rt ts st m i k = true) : ∀ j, k < j → apartIn rt ts st m i j = false
  | 0, hj => by omega
  | j + 1, hj => by
    unfold apartIn
    by_cases e : k = j
    · subst e; rw [h]; simp
    · rw [apartIn_no h j (by omega)]; rfl
theorem apartTo_no {rt ts st : List Int} {m i k : Nat} (h : meets rt ts st m i k = true) (hk : k < i) : ∀ j, i < j → apartTo rt ts st m j = false
  | 0, hj => by omega
  | j + 1, hj => by
    unfold apartTo
    by_cases e : i = j
    · subst e; rw [apartIn_no h i hk]; simp
    · rw [apartTo_no h hk j (by omega)]; rfl
theorem apartIn_yes {rt ts st : List Int} {m i k : Nat} (h : apartIn rt ts st m i k = true) (h2 : meets rt ts st m i k = false) : apartIn rt ts st m i (k + 1) = true := by
  unfold apartIn; rw [h, h2]; rfl
theorem apartTo_yes {rt ts st : List Int} {m i : Nat} (h : apartTo rt ts st m i = true) (h2 : apartIn rt ts st m i i = true) : apartTo rt ts st m (i + 1) = true := by
  unfold apartTo; rw [h, h2]; rfl
theorem meets_no {rt ts st : List Int} {m i k : Nat} (h1 : i / m ≠ k / m) (h2 : rt.getD i 0 ≠ rt.getD k 0) : meets rt ts st m i k = false := by
  unfold meets shares; rw [decide_eq_false h1, decide_eq_false h2]; rfl
theorem meets_job {rt ts st : List Int} {m i k : Nat} (h1 : i / m = k / m) : meets rt ts st m i k = overs ts st i k := by
  unfold meets shares; rw [decide_eq_true h1]; simp
theorem meets_way {rt ts st : List Int} {m i k : Nat} (h1 : rt.getD i 0 = rt.getD k 0) : meets rt ts st m i k = overs ts st i k := by
  unfold meets shares; rw [decide_eq_true h1]; simp
theorem overs_no1 {ts st : List Int} {i k : Nat} (h : ¬ st.getD i 0 < st.getD k 0 + ts.getD k 0) : overs ts st i k = false := by
  unfold overs; rw [decide_eq_false h]; rfl
theorem overs_no2 {ts st : List Int} {i k : Nat} (h : ¬ st.getD k 0 < st.getD i 0 + ts.getD i 0) : overs ts st i k = false := by
  unfold overs; rw [decide_eq_false h]; simp
theorem overs_yes {ts st : List Int} {i k : Nat} (h : st.getD i 0 < st.getD k 0 + ts.getD k 0) (h2 : st.getD k 0 < st.getD i 0 + ts.getD i 0) : overs ts st i k = true := by
  unfold overs; rw [decide_eq_true h, decide_eq_true h2]; rfl
def canStarts (ts st : List Int) : Bool := decide (st.length = ts.length) && allIn st 0 1000000
theorem canStarts_of {ts st : List Int} (h : canStarts ts st = true) : st.length = ts.length ∧ ∀ (i : Nat) (x : Int), st[i]? = some x → 0 ≤ x ∧ x ≤ 1000000 := by
  simp only [canStarts, Bool.and_eq_true, decide_eq_true_eq] at h
  exact ⟨h.1, fun i x hx => allIn_of h.2 hx⟩

set_option maxHeartbeats 2000000 in
theorem areStarts_any (B : Nat) (s v : Value) (ts rt st : List Int) (m n : Nat) (w : World) (hSh : Shop B w s ts rt m n) (hlen : ts.length = n * m) (hv : LstI B w v st) (hB : B ≤ w.heap.size) (h192 : ts.length ≤ 192) :
    Calls Try.prog 49 #[s, v] w fun e w' => e = .returned (.bool (canStarts ts st)) ∧ Below w.heap.size w w' := by
  have hA := Lib.hid (fun w' hb => areWithin_any B v st 0 1000000 w' (hv.lst.below (B' := B) hb (Nat.le_refl _)))
  obtain ⟨b1, o1, cap1, vr, vt, rfl, h1, hr, hrl⟩ := hSh
  obtain ⟨ar, cr, rfl, _⟩ := hr
  obtain ⟨at', ct, rfl, _⟩ := hrl.at_
  obtain ⟨a2, cap2, rfl, hl2, _⟩ := hv.at_
  rw [← hlen] at *
  unfold canStarts
  clear h1 hrl hv hlen
  generalize allIn st 0 1000000 = q at *
  generalize ts.length = L at *
  generalize st.length = l at *
  generalize rt.length = r at *
  unfold maxLen at hl2
  by_cases he : l = L
  · rw [decide_eq_true he, Bool.true_and]
    subst he
    go_enter Try.func49, Try.ntmps49
    go_wp2_with fail
    have hb1 := Lib.hid (below_alloc (Below.refl w.heap.size w) (.cells #[.int .i64 m, .slice (some ⟨b1, o1, none⟩) l cap1, .slice ar n cr, .slice at' r ct] 46))
    have hx1 := Lib.hid (Whole.made w 46 #[.int .i64 m, .slice (some ⟨b1, o1, none⟩) l cap1, .slice ar n cr, .slice at' r ct] rfl)
    have c1 := hx1.out.at_ (i := 1) rfl
    generalize w.alloc _ = w2 at *
    have hA2 := Lib.hid (hA.out w2 (hb1.out.mono hB))
    go_wp2_with (go_at_call 105; (with_reducible refine (hA2.out).mono ?_); rintro e w' ⟨rfl, rfl⟩)
    go_ret
    exact ⟨rfl, hb1.out⟩
  · rw [decide_eq_false he]
    have hb : ((l : Int) == (L : Int)) = false := by rw [beq_eq_false_iff_ne]; omega
    have hb2 : (l == L) = false := by rw [beq_eq_false_iff_ne]; exact he
    clear he
    go_enter Try.func49, Try.ntmps49
    go_wp2_with fail
    have hb1 := Lib.hid (below_alloc (Below.refl w.heap.size w) (.cells #[.int .i64 m, .slice (some ⟨b1, o1, none⟩) L cap1, .slice ar n cr, .slice at' r ct] 46))
    have hx1 := Lib.hid (Whole.made w 46 #[.int .i64 m, .slice (some ⟨b1, o1, none⟩) L cap1, .slice ar n cr, .slice at' r ct] rfl)
    have c1 := hx1.out.at_ (i := 1) rfl
    generalize w.alloc _ = w2 at *
    go_wp2_with fail
    go_ret
    exact ⟨rfl, hb1.out⟩
set_option maxHeartbeats 2000000 in
theorem endOf_any (m i L cap1 n cr r ct l cap2 b1 o1 b2 o2 : Nat) (ar at' : Option Addr) (x y : Int) (w : World) (hi : i < L) (hl : i < l) (hL : L ≤ 192) (p0 : w.cell? ⟨b1, o1 + i, none⟩ = some (.int .i64 x)) (q0 : w.cell? ⟨b2, o2 + i, none⟩ = some (.int .i64 y))
    (hx : 0 ≤ x ∧ x ≤ 10000) (hy : 0 ≤ y ∧ y ≤ 1000000) :
    Calls Try.prog 65 #[.agg #[.int .i64 m, .slice (some ⟨b1, o1, none⟩) L cap1, .slice ar n cr, .slice at' r ct], .int .i64 i, .slice (some ⟨b2, o2, none⟩) l cap2] w fun e w' => e = .returned (.int .i64 (y + x)) ∧ Below w.heap.size w w' := by
  have hb1 := Lib.hid (below_alloc (Below.refl w.heap.size w) (.cells #[.int .i64 m, .slice (some ⟨b1, o1, none⟩) L cap1, .slice ar n cr, .slice at' r ct] 46))
  have hx1 := Lib.hid (Whole.made w 46 #[.int .i64 m, .slice (some ⟨b1, o1, none⟩) L cap1, .slice ar n cr, .slice at' r ct] rfl)
  have p1 : (w.alloc (.cells #[.int .i64 m, .slice (some ⟨b1, o1, none⟩) L cap1, .slice ar n cr, .slice at' r ct] 46)).cell? ⟨b1, o1 + i, none⟩ = some (.int .i64 x) := by
    rw [hb1.out.cell (p := ⟨b1, o1 + i, none⟩) (World.block_lt_of_cell? w _ p0)]; exact p0
  have q1 : (w.alloc (.cells #[.int .i64 m, .slice (some ⟨b1, o1, none⟩) L cap1, .slice ar n cr, .slice at' r ct] 46)).cell? ⟨b2, o2 + i, none⟩ = some (.int .i64 y) := by
    rw [hb1.out.cell (p := ⟨b2, o2 + i, none⟩) (World.block_lt_of_cell? w _ q0)]; exact q0
  have hw1 : IntKind.i64.wrap (y + x) = y + x := IntWalk.i64_in _ (by omega)
  have hiL : (i : Int) < (L : Int) := by omega
  have hil : (i : Int) < (l : Int) := by omega
  clear p0 q0
  go_enter Try.func65, Try.ntmps65
  go_wp2_with fail
  have c1 := hx1.out.at_ (i := 1) rfl
  generalize w.alloc _ = w2 at *
  go_quiet (fail)
  go_wp2_with fail
  go_ret
  exact ⟨rfl, Lst.Below.drewN hb1.out _⟩
set_option maxHeartbeats 8000000 in
set_option maxRecDepth 100000 in
theorem keepsApart_any (B : Nat) (s v : Value) (ts rt st : List Int) (m n : Nat) (w : World) (hSh : Shop B w s ts rt m n) (hv : LstI B w v st) (hB : B ≤ w.heap.size) (hm1 : 1 ≤ m) (hlen : ts.length = n * m) (h192 : ts.length ≤ 192) (hrt : rt.length = ts.length)
    (ht : ∀ (i : Nat) (x : Int), ts[i]? = some x → 1 ≤ x ∧ x ≤ 10000) (hst : canStarts ts st = true) :
    Calls Try.prog 50 #[s, v] w fun e w' => e = .returned (.bool (apartTo rt ts st m ts.length)) ∧ Below w.heap.size w w' := by
  obtain ⟨hsl, hsb⟩ := canStarts_of hst
  obtain ⟨b1, o1, cap1, vr, vt, rfl, h1, hr, hrl⟩ := hSh
  obtain ⟨ar, cr, rfl, -⟩ := hr
  obtain ⟨at', ct, rfl, -, -, -, hcr⟩ := hrl.at_
  obtain ⟨_, _, hv1, -, -, -, hc1⟩ := h1.at_
  injection hv1 with e1 e2 e3
  subst e1 e3
  obtain ⟨a2, cap2, rfl, hl2, -, -, hc2⟩ := hv.at_
  rw [hrt] at hcr ⊢
  rw [hsl] at hc2 hl2 ⊢
  rw [← hlen]
  have hT : Hid (∀ i, i < ts.length → b1 < B ∧ w.cell? ⟨b1, o1 + i, none⟩ = some (.int .i64 (ts.getD i 0)) ∧ 0 ≤ ts.getD i 0 ∧ ts.getD i 0 ≤ 10000) := Lib.hid fun i hi => by
    obtain ⟨b, o, x, hh, hb, hx, hc⟩ := hc1 i hi
    injection hh with hh; injection hh with q1 q2 q3
    subst q1 q2
    have := ht i x hx
    rw [getD_of hx]
    exact ⟨hb, hc, by omega, by omega⟩
  have hC2 : Hid (∀ i, i < ts.length → ∃ b o, a2 = some ⟨b, o, none⟩ ∧ b < B ∧ w.cell? ⟨b, o + i, none⟩ = some (.int .i64 (st.getD i 0)) ∧ 0 ≤ st.getD i 0 ∧ st.getD i 0 ≤ 1000000) := Lib.hid fun i hi => by
    obtain ⟨b, o, x, hh, hb, hx, hc⟩ := hc2 i hi
    have := hsb i x hx
    exact ⟨b, o, hh, hb, by rw [getD_of hx]; exact hc, by rw [getD_of hx]; omega, by rw [getD_of hx]; omega⟩
  have hCR : Hid (∀ i, i < ts.length → ∃ b o, at' = some ⟨b, o, none⟩ ∧ b < B ∧ w.cell? ⟨b, o + i, none⟩ = some (.int .i64 (rt.getD i 0))) := Lib.hid fun i hi => by
    obtain ⟨b, o, x, hh, hb, hx, hc⟩ := hcr i hi
    exact ⟨b, o, hh, hb, by rw [getD_of hx]; exact hc⟩
  have hFaO : Hid (∀ i k, i < ts.length → meets rt ts st m i k = true → k < i → apartTo rt ts st m ts.length = false) := Lib.hid fun i k a b c => apartTo_no b c _ a
  have hAi : Hid (∀ i k, apartIn rt ts st m i k = true → meets rt ts st m i k = false → apartIn rt ts st m i (k + 1) = true) := Lib.hid fun i k a b => apartIn_yes a b
  have hAo : Hid (∀ i, apartTo rt ts st m i = true → apartIn rt ts st m i i = true → apartTo rt ts st m (i + 1) = true) := Lib.hid fun i a b => apartTo_yes a b
  have hMn : Hid (∀ i k, i / m ≠ k / m → rt.getD i 0 ≠ rt.getD k 0 → meets rt ts st m i k = false) := Lib.hid fun i k a b => meets_no a b
  have hMj : Hid (∀ i k, i / m = k / m → meets rt ts st m i k = overs ts st i k) := Lib.hid fun i k a => meets_job a
  have hMw : Hid (∀ i k, rt.getD i 0 = rt.getD k 0 → meets rt ts st m i k = overs ts st i k) := Lib.hid fun i k a => meets_way a
  have hO1 : Hid (∀ i k, ¬ st.getD i 0 < st.getD k 0 + ts.getD k 0 → overs ts st i k = false) := Lib.hid fun i k a => overs_no1 a
  have hO2 : Hid (∀ i k, ¬ st.getD k 0 < st.getD i 0 + ts.getD i 0 → overs ts st i k = false) := Lib.hid fun i k a => overs_no2 a
  have hO3 : Hid (∀ i k, st.getD i 0 < st.getD k 0 + ts.getD k 0 → st.getD k 0 < st.getD i 0 + ts.getD i 0 → overs ts st i k = true) := Lib.hid fun i k a b => overs_yes a b
  have hI0 : Hid (∀ i, apartIn rt ts st m i 0 = true) := Lib.hid fun i => rfl
  have hT0 : Hid (apartTo rt ts st m 0 = true) := Lib.hid rfl
  clear h1 hc1 hc2 hcr hrl hv hlen ht hst hsl hsb hrt
  generalize hres : apartTo rt ts st m ts.length = res at *
  have hRES := Lib.hid hres
  clear hres
  generalize ts.length = L at *
  unfold maxLen at hl2
  go_enter Try.func50, Try.ntmps50
  go_wp2_with fail
  have hx1 := Lib.hid (Whole.made w 46 #[.int .i64 m, .slice (some ⟨b1, o1, none⟩) L cap1, .slice ar n cr, .slice at' L ct] rfl)
  have hb1 := Lib.hid (below_alloc (Below.refl w.heap.size w) (.cells #[.int .i64 m, .slice (some ⟨b1, o1, none⟩) L cap1, .slice ar n cr, .slice at' L ct] 46))
  have hs1 := Lib.hid (alloc_size w (.cells #[.int .i64 m, .slice (some ⟨b1, o1, none⟩) L cap1, .slice ar n cr, .slice at' L ct] 46))
  generalize w.alloc (.cells #[.int .i64 m, .slice (some ⟨b1, o1, none⟩) L cap1, .slice ar n cr, .slice at' L ct] 46) = w2 at *
  generalize hgx : w.heap.size = gx at *
  have hGX := Lib.hid hgx
  clear hgx
  go_loopw [10] (fun iv wr => ∃ i : Nat, i ≤ L ∧ iv = .int .i64 i ∧ Hid (apartTo rt ts st m i = true) ∧ Hid (Whole wr gx 46 #[.int .i64 m, .slice (some ⟨b1, o1, none⟩) L cap1, .slice ar n cr, .slice at' L ct]) ∧ Hid (Below gx w wr) ∧ gx < wr.heap.size) (fun iv _ => L - (intOf iv).toNat)
  case atStart => exact ⟨0, Nat.zero_le _, rfl, hT0, hx1, hb1, by have := hs1.out; omega⟩
  case round =>
    clear hx1 hb1 hs1
    obtain ⟨i, hi, rfl, hPo, hX, hBr, hsz⟩ := hrel
    by_cases hlt : i < L
    · obtain ⟨b2, o2, rfl, hb2, -, -, -⟩ := hC2.out i hlt
      obtain ⟨b3, o3, rfl, hb3, -⟩ := hCR.out i hlt
      have hSt : Hid (∀ q, q < L → w.cell? ⟨b2, o2 + q, none⟩ = some (.int .i64 (st.getD q 0)) ∧ 0 ≤ st.getD q 0 ∧ st.getD q 0 ≤ 1000000) := Lib.hid fun q hq => by
        obtain ⟨b, o, hh, _, h3, h4⟩ := hC2.out q hq
        injection hh with hh; injection hh with q1 q2 q3
        subst q1 q2
        exact ⟨h3, h4⟩
      have hRt : Hid (∀ q, q < L → w.cell? ⟨b3, o3 + q, none⟩ = some (.int .i64 (rt.getD q 0))) := Lib.hid fun q hq => by
        obtain ⟨b, o, hh, _, h3⟩ := hCR.out q hq
        injection hh with hh; injection hh with q1 q2 q3
        subst q1 q2
        exact h3
      have hb1 := (hT.out i hlt).1
      have hbx : b1 < gx ∧ b2 < gx ∧ b3 < gx := by have := hGX.out; omega
      have hAo2 := Lib.hid (hAo.out i hPo.out)
      have hXi := hX
      go_wp2_with fail
      go_loopw [14] (fun kv wr => ∃ k : Nat, k ≤ i ∧ kv = .int .i64 k ∧ Hid (apartIn rt ts st m i k = true) ∧ Hid (Whole wr gx 46 #[.int .i64 m, .slice (some ⟨b1, o1, none⟩) L cap1, .slice ar n cr, .slice (some ⟨b3, o3, none⟩) L ct]) ∧ Hid (Below gx w wr)) (fun kv _ => i - (intOf kv).toNat)
      case atStart => exact ⟨0, Nat.zero_le _, rfl, Lib.hid (hI0.out i), hX, hBr⟩
      case round =>
        clear hX hBr hsz hXi
        obtain ⟨k, hk, rfl, hP, hX, hBr⟩ := hrel
        have hGx : gx < wr.heap.size := hX.out.size
        by_cases hlk : k < i
        · have hkL : k < L := by omega
          obtain ⟨-, ti, hxi⟩ := hT.out i hlt
          obtain ⟨-, tk, hxk⟩ := hT.out k hkL
          obtain ⟨si', hsi⟩ := hSt.out i hlt
          obtain ⟨sk', hsk⟩ := hSt.out k hkL
          have ri' := hRt.out i hlt
          have rk' := hRt.out k hkL
          have ti0 : wr.cell? ⟨b1, o1 + i, none⟩ = some (.int .i64 (ts.getD i 0)) := by rw [hBr.out.cell (p := ⟨b1, o1 + i, none⟩) hbx.1]; exact ti
          have tk0 : wr.cell? ⟨b1, o1 + k, none⟩ = some (.int .i64 (ts.getD k 0)) := by rw [hBr.out.cell (p := ⟨b1, o1 + k, none⟩) hbx.1]; exact tk
          have si0 : wr.cell? ⟨b2, o2 + i, none⟩ = some (.int .i64 (st.getD i 0)) := by rw [hBr.out.cell (p := ⟨b2, o2 + i, none⟩) hbx.2.1]; exact si'
          have sk0 : wr.cell? ⟨b2, o2 + k, none⟩ = some (.int .i64 (st.getD k 0)) := by rw [hBr.out.cell (p := ⟨b2, o2 + k, none⟩) hbx.2.1]; exact sk'
          have ri0 : wr.cell? ⟨b3, o3 + i, none⟩ = some (.int .i64 (rt.getD i 0)) := by rw [hBr.out.cell (p := ⟨b3, o3 + i, none⟩) hbx.2.2]; exact ri'
          have rk0 : wr.cell? ⟨b3, o3 + k, none⟩ = some (.int .i64 (rt.getD k 0)) := by rw [hBr.out.cell (p := ⟨b3, o3 + k, none⟩) hbx.2.2]; exact rk'
          have c0 := hX.out.at_ (i := 0) rfl
          have c1 := hX.out.at_ (i := 1) rfl
          have c2 := hX.out.at_ (i := 2) rfl
          have c3 := hX.out.at_ (i := 3) rfl
          have nc0 := near_cell c0
          have nc1 := near_cell c1
          have nc2 := near_cell c2
          have nc3 := near_cell c3
          have nri := near_cell ri0
          have nrk := near_cell rk0
          have hJi := Lib.hid (fun p : Near wr.heap.size wr => jobOf_any m i L cap1 n cr L ct (some ⟨b1, o1, none⟩) ar (some ⟨b3, o3, none⟩) p.at_ hm1 (by omega))
          have hJk := Lib.hid (fun p : Near wr.heap.size wr => jobOf_any m k L cap1 n cr L ct (some ⟨b1, o1, none⟩) ar (some ⟨b3, o3, none⟩) p.at_ hm1 (by omega))
          have hMn2 := Lib.hid (hMn.out i k)
          have hMj2 := Lib.hid (hMj.out i k)
          have hMw2 := Lib.hid (hMw.out i k)
          have hOn1 := Lib.hid (hO1.out i k)
          have hOn2 := Lib.hid (hO2.out i k)
          have hOy := Lib.hid (hO3.out i k)
          have hFa := Lib.hid (fun h => hFaO.out i k hlt h hlk)
          have hA2 := Lib.hid (hAi.out i k hP.out)
          have hkL2 : (k : Int) < (L : Int) := by omega
          clear ti tk si' sk' ri' rk'
          generalize ts.getD i 0 = xi at *
          generalize ts.getD k 0 = xk at *
          generalize st.getD i 0 = si at *
          generalize st.getD k 0 = sk at *
          generalize rt.getD i 0 = ri at *
          generalize rt.getD k 0 = rk at *
          generalize i / m = ji at *
          generalize k / m = jk at *
          generalize meets rt ts st m i k = mv at *
          generalize overs ts st i k = ov at *
          by_cases hj : ji = jk
          · have hMv := Lib.hid (hMj2.out hj)
            have hjb : ((ji : Int) == (jk : Int)) = true := by rw [beq_iff_eq]; omega
            clear hMn2 hMj2 hMw2
            go_wp2_with fail
            refine wp_region_near (by kernel_rfl) (by kernel_rfl) ?_
            repeat (go_big_quiet_step (first | (go_at_call 64; with_reducible exact near_of (Nat.le_refl _) (hJi.out _)) | (go_at_call 64; with_reducible exact near_of (Nat.le_refl _) (hJk.out _))))
            refine wpQuiet_nil ?_
            rintro _ ⟨pq, rfl⟩
            have hX7 := Lib.hid (hX.out.below pq.below hGx)
            have hB7 := Lib.hid (hBr.out.trans (pq.below.mono (Nat.le_of_lt hGx)))
            have hG7 : gx < pq.at_.heap.size := Nat.lt_of_lt_of_le hGx pq.below.size
            have t7i := near_cell ti0 pq
            have t7k := near_cell tk0 pq
            have s7i := near_cell si0 pq
            have s7k := near_cell sk0 pq
            clear hX hBr hGx c0 c1 c2 c3 nc0 nc1 nc2 nc3 ti0 tk0 si0 sk0 ri0 rk0 nri nrk hJi hJk
            generalize pq.at_ = w7 at *
            have c0 := near_cell (hX7.out.at_ (i := 0) rfl)
            have c1 := near_cell (hX7.out.at_ (i := 1) rfl)
            have c2 := near_cell (hX7.out.at_ (i := 2) rfl)
            have c3 := near_cell (hX7.out.at_ (i := 3) rfl)
            have nsi := near_cell s7i
            have nsk := near_cell s7k
            have hEi := Lib.hid (fun p : Near w7.heap.size w7 => endOf_any m i L cap1 n cr L ct L cap2 b1 o1 b2 o2 ar (some ⟨b3, o3, none⟩) xi si p.at_ hlt hlt h192 (near_cell t7i p) (near_cell s7i p) hxi hsi)
            have hEk := Lib.hid (fun p : Near w7.heap.size w7 => endOf_any m k L cap1 n cr L ct L cap2 b1 o1 b2 o2 ar (some ⟨b3, o3, none⟩) xk sk p.at_ hkL hkL h192 (near_cell t7k p) (near_cell s7k p) hxk hsk)
            go_wp2_with fail
            by_cases hc1 : si < sk + xk
            · by_cases hc2 : sk < si + xi
              · have hM := Lib.hid (hMv.out.trans (hOy.out (by omega) (by omega)))
                have hR := Lib.hid (hFa.out hM.out)
                refine wp_region_near (by kernel_rfl) (by kernel_rfl) ?_
                repeat (go_big_quiet_step (first | (go_at_call 65; with_reducible exact near_of (Nat.le_refl _) (hEk.out _)) | (go_at_call 65; with_reducible exact near_of (Nat.le_refl _) (hEi.out _))))
                refine wpQuiet_nil ?_
                rintro _ ⟨pq, rfl⟩
                have hBq := Lib.hid (hB7.out.trans (pq.below.mono (Nat.le_of_lt hG7)))
                go_wp2_with fail
                go_ret
                exact ⟨ret_bool hR.out.symm, by rw [hGX.out]; exact hBq.out⟩
              · have hP2 := Lib.hid (hA2.out (hMv.out.trans (hOn2.out (by omega))))
                have hc2d : decide (sk < si + xi) = false := by simp; omega
                refine wp_region_near (by kernel_rfl) (by kernel_rfl) ?_
                repeat (go_big_quiet_step (first | (go_at_call 65; with_reducible exact near_of (Nat.le_refl _) (hEk.out _)) | (go_at_call 65; with_reducible exact near_of (Nat.le_refl _) (hEi.out _))))
                refine wpQuiet_nil ?_
                rintro _ ⟨pq, rfl⟩
                have hXq := Lib.hid (hX7.out.below pq.below hG7)
                have hBq := Lib.hid (hB7.out.trans (pq.below.mono (Nat.le_of_lt hG7)))
                go_wp2_with fail
                go_roundw
                case rel => exact ⟨k + 1, by omega, by go_num, hP2, hXq, hBq⟩
                case measure => simp [intOf]; omega
            · have hP2 := Lib.hid (hA2.out (hMv.out.trans (hOn1.out (by omega))))
              have hc1d : decide (si < sk + xk) = false := by simp; omega
              refine wp_region_near (by kernel_rfl) (by kernel_rfl) ?_
              repeat (go_big_quiet_step (first | (go_at_call 65; with_reducible exact near_of (Nat.le_refl _) (hEk.out _)) | (go_at_call 65; with_reducible exact near_of (Nat.le_refl _) (hEi.out _))))
              refine wpQuiet_nil ?_
              rintro _ ⟨pq, rfl⟩
              have hXq := Lib.hid (hX7.out.below pq.below hG7)
              have hBq := Lib.hid (hB7.out.trans (pq.below.mono (Nat.le_of_lt hG7)))
              go_wp2_with fail
              go_roundw
              case rel => exact ⟨k + 1, by omega, by go_num, hP2, hXq, hBq⟩
              case measure => simp [intOf]; omega
          · have hjb : ((ji : Int) == (jk : Int)) = false := by rw [beq_eq_false_iff_ne]; omega
            by_cases hr : ri = rk
            · have hMv := Lib.hid (hMw2.out hr)
              have hrb : (ri == rk) = true := by rw [beq_iff_eq]; exact hr
              clear hMn2 hMj2 hMw2
              go_wp2_with fail
              refine wp_region_near (by kernel_rfl) (by kernel_rfl) ?_
              repeat (go_big_quiet_step (first | (go_at_call 64; with_reducible exact near_of (Nat.le_refl _) (hJi.out _)) | (go_at_call 64; with_reducible exact near_of (Nat.le_refl _) (hJk.out _))))
              refine wpQuiet_nil ?_
              rintro _ ⟨pq, rfl⟩
              have hX7 := Lib.hid (hX.out.below pq.below hGx)
              have hB7 := Lib.hid (hBr.out.trans (pq.below.mono (Nat.le_of_lt hGx)))
              have hG7 : gx < pq.at_.heap.size := Nat.lt_of_lt_of_le hGx pq.below.size
              have t7i := near_cell ti0 pq
              have t7k := near_cell tk0 pq
              have s7i := near_cell si0 pq
              have s7k := near_cell sk0 pq
              clear hX hBr hGx c0 c1 c2 c3 nc0 nc1 nc2 nc3 ti0 tk0 si0 sk0 ri0 rk0 nri nrk hJi hJk
              generalize pq.at_ = w7 at *
              have c0 := near_cell (hX7.out.at_ (i := 0) rfl)
              have c1 := near_cell (hX7.out.at_ (i := 1) rfl)
              have c2 := near_cell (hX7.out.at_ (i := 2) rfl)
              have c3 := near_cell (hX7.out.at_ (i := 3) rfl)
              have nsi := near_cell s7i
              have nsk := near_cell s7k
              have hEi := Lib.hid (fun p : Near w7.heap.size w7 => endOf_any m i L cap1 n cr L ct L cap2 b1 o1 b2 o2 ar (some ⟨b3, o3, none⟩) xi si p.at_ hlt hlt h192 (near_cell t7i p) (near_cell s7i p) hxi hsi)
              have hEk := Lib.hid (fun p : Near w7.heap.size w7 => endOf_any m k L cap1 n cr L ct L cap2 b1 o1 b2 o2 ar (some ⟨b3, o3, none⟩) xk sk p.at_ hkL hkL h192 (near_cell t7k p) (near_cell s7k p) hxk hsk)
              go_wp2_with fail
              by_cases hc1 : si < sk + xk
              · by_cases hc2 : sk < si + xi
                · have hM := Lib.hid (hMv.out.trans (hOy.out (by omega) (by omega)))
                  have hR := Lib.hid (hFa.out hM.out)
                  refine wp_region_near (by kernel_rfl) (by kernel_rfl) ?_
                  repeat (go_big_quiet_step (first | (go_at_call 65; with_reducible exact near_of (Nat.le_refl _) (hEk.out _)) | (go_at_call 65; with_reducible exact near_of (Nat.le_refl _) (hEi.out _))))
                  refine wpQuiet_nil ?_
                  rintro _ ⟨pq, rfl⟩
                  have hBq := Lib.hid (hB7.out.trans (pq.below.mono (Nat.le_of_lt hG7)))
                  go_wp2_with fail
                  go_ret
                  exact ⟨ret_bool hR.out.symm, by rw [hGX.out]; exact hBq.out⟩
                · have hP2 := Lib.hid (hA2.out (hMv.out.trans (hOn2.out (by omega))))
                  have hc2d : decide (sk < si + xi) = false := by simp; omega
                  refine wp_region_near (by kernel_rfl) (by kernel_rfl) ?_
                  repeat (go_big_quiet_step (first | (go_at_call 65; with_reducible exact near_of (Nat.le_refl _) (hEk.out _)) | (go_at_call 65; with_reducible exact near_of (Nat.le_refl _) (hEi.out _))))
                  refine wpQuiet_nil ?_
                  rintro _ ⟨pq, rfl⟩
                  have hXq := Lib.hid (hX7.out.below pq.below hG7)
                  have hBq := Lib.hid (hB7.out.trans (pq.below.mono (Nat.le_of_lt hG7)))
                  go_wp2_with fail
                  go_roundw
                  case rel => exact ⟨k + 1, by omega, by go_num, hP2, hXq, hBq⟩
                  case measure => simp [intOf]; omega
              · have hP2 := Lib.hid (hA2.out (hMv.out.trans (hOn1.out (by omega))))
                have hc1d : decide (si < sk + xk) = false := by simp; omega
                refine wp_region_near (by kernel_rfl) (by kernel_rfl) ?_
                repeat (go_big_quiet_step (first | (go_at_call 65; with_reducible exact near_of (Nat.le_refl _) (hEk.out _)) | (go_at_call 65; with_reducible exact near_of (Nat.le_refl _) (hEi.out _))))
                refine wpQuiet_nil ?_
                rintro _ ⟨pq, rfl⟩
                have hXq := Lib.hid (hX7.out.below pq.below hG7)
                have hBq := Lib.hid (hB7.out.trans (pq.below.mono (Nat.le_of_lt hG7)))
                go_wp2_with fail
                go_roundw
                case rel => exact ⟨k + 1, by omega, by go_num, hP2, hXq, hBq⟩
                case measure => simp [intOf]; omega
            · have hP2 := Lib.hid (hA2.out (hMn2.out hj hr))
              have hrb : (ri == rk) = false := by rw [beq_eq_false_iff_ne]; exact hr
              clear hMn2 hMj2 hMw2
              go_wp2_with fail
              refine wp_region_near (by kernel_rfl) (by kernel_rfl) ?_
              repeat (go_big_quiet_step (first | (go_at_call 64; with_reducible exact near_of (Nat.le_refl _) (hJi.out _)) | (go_at_call 64; with_reducible exact near_of (Nat.le_refl _) (hJk.out _))))
              refine wpQuiet_nil ?_
              rintro _ ⟨pq, rfl⟩
              have hX7 := Lib.hid (hX.out.below pq.below hGx)
              have hB7 := Lib.hid (hBr.out.trans (pq.below.mono (Nat.le_of_lt hGx)))
              have hG7 : gx < pq.at_.heap.size := Nat.lt_of_lt_of_le hGx pq.below.size
              have t7i := near_cell ti0 pq
              have t7k := near_cell tk0 pq
              have s7i := near_cell si0 pq
              have s7k := near_cell sk0 pq
              clear hX hBr hGx c0 c1 c2 c3 nc0 nc1 nc2 nc3 ti0 tk0 si0 sk0 ri0 rk0 nri nrk hJi hJk
              generalize pq.at_ = w7 at *
              have c0 := near_cell (hX7.out.at_ (i := 0) rfl)
              have c1 := near_cell (hX7.out.at_ (i := 1) rfl)
              have c2 := near_cell (hX7.out.at_ (i := 2) rfl)
              have c3 := near_cell (hX7.out.at_ (i := 3) rfl)
              have nsi := near_cell s7i
              have nsk := near_cell s7k
              have hEi := Lib.hid (fun p : Near w7.heap.size w7 => endOf_any m i L cap1 n cr L ct L cap2 b1 o1 b2 o2 ar (some ⟨b3, o3, none⟩) xi si p.at_ hlt hlt h192 (near_cell t7i p) (near_cell s7i p) hxi hsi)
              have hEk := Lib.hid (fun p : Near w7.heap.size w7 => endOf_any m k L cap1 n cr L ct L cap2 b1 o1 b2 o2 ar (some ⟨b3, o3, none⟩) xk sk p.at_ hkL hkL h192 (near_cell t7k p) (near_cell s7k p) hxk hsk)
              go_wp2_with fail
              refine wp_region_near (by kernel_rfl) (by kernel_rfl) ?_
              repeat (go_big_quiet_step (fail))
              refine wpQuiet_nil ?_
              rintro _ ⟨pq, rfl⟩
              have hXq := Lib.hid (hX7.out.below pq.below hG7)
              have hBq := Lib.hid (hB7.out.trans (pq.below.mono (Nat.le_of_lt hG7)))
              go_wp2_with fail
              go_roundw
              case rel => exact ⟨k + 1, by omega, by go_num, hP2, hXq, hBq⟩
              case measure => simp [intOf]; omega
        · obtain rfl : i = k := by omega
          have hPo2 := Lib.hid (hAo2.out hP.out)
          go_wp2_with fail
          go_roundw
          case rel => exact ⟨i + 1, by omega, by go_num, hPo2, hX, hBr, hGx⟩
          case measure => simp [intOf]; omega
    · obtain rfl : L = i := by omega
      have hR := Lib.hid (hRES.out.symm.trans hPo.out)
      have hBw := Lib.hid hBr.out
      go_wp2_with fail
      go_ret
      exact ⟨ret_bool hR.out.symm, by rw [hGX.out]; exact hBw.out⟩
end Go.Proofs.Ytfigojmdklaljab
