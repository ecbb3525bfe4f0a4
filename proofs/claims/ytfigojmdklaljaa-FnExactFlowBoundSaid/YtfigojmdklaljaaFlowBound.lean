/- Contracts: a bound of the last end of a flow. -/
import Derived.Test.YtfigojmdklaljaaBoundPure
import Derived.Test.YtfigojmdklaljaaCount
import Derived.Test.YtfigojmdklaljaaLine
namespace Go.Proofs.Ytfigojmdklaljaa
open Go.RowKit Go.Lst

/-- The sum of the first k jobs' times on the machine q. -/
def colTo (ts : List Int) (m q : Nat) : Nat → Int
  | 0 => 0
  | k + 1 => colTo ts m q k + ts.getD (k * m + q) 0
def headOf (ts : List Int) (m q k : Nat) : Int := sumTo ((ts.drop (k * m)).take q) q
def tailOf (ts : List Int) (m q k : Nat) : Int := sumTo ((ts.drop (k * m + (q + 1))).take (m - (q + 1))) (m - (q + 1))
theorem mn_eq (a b : Int) : (if b < a then b else a) = min a b := by split <;> omega
/-- The least one of the first k numbers, or a great one. -/
def minTo (f : Nat → Int) : Nat → Int
  | 0 => 9223372036854775807
  | k + 1 => min (minTo f k) (f k)
theorem minTo_bound {f : Nat → Int} {n : Nat} {X : Int} (hX : X ≤ 9223372036854775807) (h : ∀ k, k < n → 0 ≤ f k ∧ f k ≤ X) : ∀ k, k ≤ n → 0 ≤ minTo f k ∧ minTo f k ≤ 9223372036854775807 ∧ (1 ≤ k → minTo f k ≤ X)
  | 0, _ => by unfold minTo; omega
  | k + 1, hk => by
    have ih := minTo_bound hX h k (by omega)
    have := h k (by omega)
    unfold minTo; omega
def boundAt (ts : List Int) (m n q : Nat) : Int := minTo (headOf ts m q) n + colTo ts m q n + minTo (tailOf ts m q) n
def flowB (ts : List Int) (m n : Nat) : Nat → Int
  | 0 => 0
  | q + 1 => max (flowB ts m n q) (boundAt ts m n q)
theorem part_sum {ts : List Int} (ht : ∀ (i : Nat) (x : Int), ts[i]? = some x → 1 ≤ x ∧ x ≤ 10000) (p q : Nat) (hq : p + q ≤ ts.length) (hq8 : q ≤ 8) :
    ((ts.drop p).take q).length = q ∧ (∀ (i : Nat) (x : Int), ((ts.drop p).take q)[i]? = some x → 1 ≤ x ∧ x ≤ 10000) ∧ 0 ≤ sumTo ((ts.drop p).take q) q ∧ sumTo ((ts.drop p).take q) q ≤ 80000 := by
  have hl : ((ts.drop p).take q).length = q := by rw [List.length_take, List.length_drop]; omega
  have hb : ∀ (i : Nat) (x : Int), ((ts.drop p).take q)[i]? = some x → 1 ≤ x ∧ x ≤ 10000 := fun i x hx => by
    rw [List.getElem?_take] at hx
    split at hx
    · rw [List.getElem?_drop] at hx
      exact ht _ x hx
    · cases hx
  have := sumTo_bound (lo := 1) (hi := 10000) hb (by omega) q (by omega)
  exact ⟨hl, hb, by omega, by omega⟩
theorem part_sums {xs : List Int} {q : Nat} (hl : xs.length = q) (hq8 : q ≤ 8) (hb : ∀ (i : Nat) (x : Int), xs[i]? = some x → 1 ≤ x ∧ x ≤ 10000) : ∀ k, k ≤ xs.length → 0 ≤ sumTo xs k ∧ sumTo xs k ≤ 1000000000000 := fun k hk => by
  have := sumTo_bound (lo := 1) (hi := 10000) hb (by omega) k hk
  omega
theorem colTo_bound {ts : List Int} {m n q : Nat} (ht : ∀ (i : Nat) (x : Int), ts[i]? = some x → 1 ≤ x ∧ x ≤ 10000) (hl : ts.length = n * m) (hq : q < m) : ∀ k, k ≤ n → 0 ≤ colTo ts m q k ∧ colTo ts m q k ≤ 10000 * k
  | 0, _ => by unfold colTo; omega
  | k + 1, hk => by
    have ih := colTo_bound ht hl hq k (by omega)
    have := row_fit (m := m) (show k < n by omega)
    have hx := all_at ht (k := k * m + q) (by omega)
    unfold colTo; omega
theorem head_ok {ts : List Int} {m n q : Nat} (ht : ∀ (i : Nat) (x : Int), ts[i]? = some x → 1 ≤ x ∧ x ≤ 10000) (hl : ts.length = n * m) (hm8 : m ≤ 8) (hq : q < m) (k : Nat) (hk : k < n) : 0 ≤ headOf ts m q k ∧ headOf ts m q k ≤ 80000 := by
  have := row_fit (m := m) hk
  exact (part_sum ht (k * m) q (by omega) (by omega)).2.2
theorem tail_ok {ts : List Int} {m n q : Nat} (ht : ∀ (i : Nat) (x : Int), ts[i]? = some x → 1 ≤ x ∧ x ≤ 10000) (hl : ts.length = n * m) (hm8 : m ≤ 8) (hq : q < m) (k : Nat) (hk : k < n) : 0 ≤ tailOf ts m q k ∧ tailOf ts m q k ≤ 80000 := by
  have := row_fit (m := m) hk
  exact (part_sum ht (k * m + (q + 1)) (m - (q + 1)) (by omega) (by omega)).2.2
theorem boundAt_ok {ts : List Int} {m n q : Nat} (ht : ∀ (i : Nat) (x : Int), ts[i]? = some x → 1 ≤ x ∧ x ≤ 10000) (hl : ts.length = n * m) (hm8 : m ≤ 8) (hn1 : 1 ≤ n) (hn24 : n ≤ 24) (hq : q < m) :
    (0 ≤ minTo (headOf ts m q) n ∧ minTo (headOf ts m q) n ≤ 80000) ∧ (0 ≤ minTo (tailOf ts m q) n ∧ minTo (tailOf ts m q) n ≤ 80000) ∧ (0 ≤ colTo ts m q n ∧ colTo ts m q n ≤ 240000) ∧ 0 ≤ boundAt ts m n q ∧ boundAt ts m n q ≤ 400000 := by
  have h1 := minTo_bound (X := 80000) (by omega) (fun k hk => head_ok ht hl hm8 hq k hk) n (Nat.le_refl _)
  have h2 := minTo_bound (X := 80000) (by omega) (fun k hk => tail_ok ht hl hm8 hq k hk) n (Nat.le_refl _)
  have h3 := colTo_bound ht hl hq n (Nat.le_refl _)
  unfold boundAt
  omega
theorem flowB_bound {ts : List Int} {m n : Nat} (ht : ∀ (i : Nat) (x : Int), ts[i]? = some x → 1 ≤ x ∧ x ≤ 10000) (hl : ts.length = n * m) (hm8 : m ≤ 8) (hn1 : 1 ≤ n) (hn24 : n ≤ 24) : ∀ q, q ≤ m → 0 ≤ flowB ts m n q ∧ flowB ts m n q ≤ 400000
  | 0, _ => by unfold flowB; omega
  | q + 1, hq => by
    have ih := flowB_bound ht hl hm8 hn1 hn24 q (by omega)
    have := (boundAt_ok ht hl hm8 hn1 hn24 (show q < m by omega)).2.2.2
    unfold flowB; omega
def flowBRes (ts : List Int) (M : Int) : Int := if canShop ts M then flowB ts M.toNat (ts.length / M.toNat) M.toNat else 0
theorem flowBRes_yes {ts : List Int} {m n : Nat} (h : canShop ts m = true) (hd : ts.length / m = n) : flowBRes ts m = flowB ts m n m := by
  unfold flowBRes; rw [h, if_pos rfl, Int.toNat_natCast, hd]
theorem none_sums (k : Nat) (hk : k ≤ ([] : List Int).length) : 0 ≤ sumTo [] k ∧ sumTo [] k ≤ 1000000000000 := by
  obtain rfl : k = 0 := by simpa using hk
  unfold sumTo; omega
theorem lstI_none (B : Nat) (w : World) (a : Option Addr) (cap : Nat) (hc : cap ≤ maxLen) : LstI B w (.slice a 0 cap) [] := ⟨a, cap, rfl, Nat.zero_le _, Nat.zero_le _, hc, by simp, fun h => absurd h (by simp)⟩

set_option maxHeartbeats 4000000 in
set_option maxRecDepth 100000 in
theorem flowBoundAt_any (B : Nat) (s : Value) (ts rt : List Int) (m n q : Nat) (w : World) (hSh : Shop B w s ts rt m n) (hB : B ≤ w.heap.size) (hm1 : 1 ≤ m) (hm8 : m ≤ 8) (hn1 : 1 ≤ n) (hn24 : n ≤ 24) (hlen : ts.length = n * m) (hq : q < m)
    (ht : ∀ (i : Nat) (x : Int), ts[i]? = some x → 1 ≤ x ∧ x ≤ 10000) :
    Calls Try.prog 69 #[s, .int .i64 q] w fun e w' => e = .returned (.int .i64 (boundAt ts m n q)) ∧ Below w.heap.size w w' := by
  obtain ⟨b1, o1, cap1, vr, vt, rfl, h1, hr, hrl⟩ := hSh
  obtain ⟨ar, cr, rfl, hr1, hr2, hr3, hr4, hr5⟩ := hr
  obtain ⟨at', ct, rfl, -⟩ := hrl.at_
  obtain ⟨b3, o3, rfl, hb3, hrc⟩ := hr5 (by omega)
  have hcap : n * m ≤ cap1 ∧ cap1 ≤ maxLen := by
    obtain ⟨a', c', hv, _, e1, e2, _⟩ := h1.at_
    injection hv with q1 q2 q3
    subst q3
    rw [hlen] at e1
    exact ⟨e1, e2⟩
  have hRow : Hid (∀ k, k < n → w.cell? ⟨b3, o3 + k, none⟩ = some (.slice (some ⟨b1, o1 + k * m, none⟩) m m)) := Lib.hid fun k hk => hrc k _ (rowsL_get b1 o1 m n k hk)
  have hCell : Hid (∀ k, k < n → b1 < B ∧ w.cell? ⟨b1, o1 + k * m + q, none⟩ = some (.int .i64 (ts.getD (k * m + q) 0)) ∧ 1 ≤ ts.getD (k * m + q) 0 ∧ ts.getD (k * m + q) 0 ≤ 10000) := Lib.hid fun k hk => by
    obtain ⟨a', c', hv, _, _, _, hc⟩ := h1.at_
    injection hv with q1 q2 q3
    subst q1
    have hf := row_fit (m := m) hk
    obtain ⟨b, o, x, hh, hb, hx, hcc⟩ := hc (k * m + q) (by omega)
    injection hh with hh; injection hh with q1 q2 q3
    subst q1 q2
    have := ht _ x hx
    rw [getD_of hx]
    exact ⟨hb, by rw [Nat.add_assoc]; exact hcc, this.1, this.2⟩
  have hHead : Hid (∀ (w' : World) (k : Nat), Below w.heap.size w w' → k < n → Calls Try.prog 49 #[.slice (some ⟨b1, o1 + k * m, none⟩) q m] w' fun e w'' => e = .returned (.int .i64 (headOf ts m q k)) ∧ w' = w'') := Lib.hid fun w' k hb hk => by
    have hf := row_fit (m := m) hk
    obtain ⟨c1, c2, -⟩ := part_sum ht (k * m) q (by omega) (by omega)
    have h := sumOf_any B _ _ w' (lstI_part (h1.below hb hB) (k * m) q m (by omega) (by omega) (by unfold maxLen; omega)) (part_sums c1 (by omega) c2) (fun i x hx => by have := c2 i x hx; omega)
    rw [c1] at h
    exact h
  have hTail : Hid (∀ (w' : World) (k : Nat), Below w.heap.size w w' → k < n → q + 1 < m → Calls Try.prog 49 #[.slice (some ⟨b1, o1 + k * m + (q + 1), none⟩) (m - (q + 1)) (m - (q + 1))] w' fun e w'' => e = .returned (.int .i64 (tailOf ts m q k)) ∧ w' = w'') := Lib.hid fun w' k hb hk hqm => by
    have hf := row_fit (m := m) hk
    obtain ⟨c1, c2, -⟩ := part_sum ht (k * m + (q + 1)) (m - (q + 1)) (by omega) (by omega)
    have h := sumOf_any B _ _ w' (lstI_part (h1.below hb hB) (k * m + (q + 1)) (m - (q + 1)) (m - (q + 1)) (by omega) (Nat.le_refl _) (by unfold maxLen; omega)) (part_sums c1 (by omega) c2) (fun i x hx => by have := c2 i x hx; omega)
    rw [c1, ← Nat.add_assoc o1] at h
    exact h
  have hNone : Hid (∀ (w' : World) (a : Option Addr), Calls Try.prog 49 #[.slice a 0 0] w' fun e w'' => e = .returned (.int .i64 0) ∧ w' = w'') := Lib.hid fun w' a =>
    sumOf_any B _ [] w' (lstI_none B w' a 0 (Nat.zero_le _)) none_sums (fun i x hx => by simp at hx)
  have hT0 : Hid (∀ k, m = q + 1 → tailOf ts m q k = 0) := Lib.hid fun k h => by unfold tailOf; rw [show m - (q + 1) = 0 by omega]; rfl
  have hCo : Hid (∀ k, k ≤ n → 0 ≤ colTo ts m q k ∧ colTo ts m q k ≤ 10000 * k) := Lib.hid fun k hk => colTo_bound ht hlen hq k hk
  have hHb : Hid (∀ k, k < n → 0 ≤ headOf ts m q k ∧ headOf ts m q k ≤ 80000) := Lib.hid fun k hk => head_ok ht hlen hm8 hq k hk
  have hTb : Hid (∀ k, k < n → 0 ≤ tailOf ts m q k ∧ tailOf ts m q k ≤ 80000) := Lib.hid fun k hk => tail_ok ht hlen hm8 hq k hk
  have hEnd := Lib.hid (boundAt_ok ht hlen hm8 hn1 hn24 hq)
  have hRes : Hid (boundAt ts m n q = minTo (headOf ts m q) n + colTo ts m q n + minTo (tailOf ts m q) n) := Lib.hid rfl
  have hSc : Hid (∀ k, colTo ts m q (k + 1) = colTo ts m q k + ts.getD (k * m + q) 0) := Lib.hid fun k => rfl
  have hSh' : Hid (∀ k, minTo (headOf ts m q) (k + 1) = min (minTo (headOf ts m q) k) (headOf ts m q k)) := Lib.hid fun k => rfl
  have hSt' : Hid (∀ k, minTo (tailOf ts m q) (k + 1) = min (minTo (tailOf ts m q) k) (tailOf ts m q k)) := Lib.hid fun k => rfl
  have hZ : Hid (minTo (headOf ts m q) 0 = 9223372036854775807 ∧ minTo (tailOf ts m q) 0 = 9223372036854775807 ∧ colTo ts m q 0 = 0) := Lib.hid ⟨rfl, rfl, rfl⟩
  clear h1 hr4 hr5 hrc hrl hlen ht hcap
  generalize minTo (headOf ts m q) = mh at *
  generalize minTo (tailOf ts m q) = mt at *
  generalize headOf ts m q = hd at *
  generalize tailOf ts m q = tl at *
  generalize colTo ts m q = co at *
  generalize boundAt ts m n q = res at *
  generalize n * m = L at *
  generalize rt.length = r at *
  unfold maxLen at hr1 hr3
  go_enter Try.func69, Try.ntmps69
  go_wp2_with fail
  have hx1 := Lib.hid (Whole.made w 52 #[.int .i64 m, .slice (some ⟨b1, o1, none⟩) L cap1, .slice (some ⟨b3, o3, none⟩) n cr, .slice at' r ct] rfl)
  have hb1 := Lib.hid (below_alloc (Below.refl w.heap.size w) (.cells #[.int .i64 m, .slice (some ⟨b1, o1, none⟩) L cap1, .slice (some ⟨b3, o3, none⟩) n cr, .slice at' r ct] 52))
  have c2 := hx1.out.at_ (i := 2) rfl
  generalize w.alloc _ = w2 at *
  go_wp2_with fail
  go_loopw [5, 6, 7, 13] (fun sv hv tv iv wr => ∃ k : Nat, k ≤ n ∧ iv = .int .i64 k ∧ sv = .int .i64 (co k) ∧ hv = .int .i64 (mh k) ∧ tv = .int .i64 (mt k) ∧ wr = w2) (fun _ _ _ iv _ => n - (intOf iv).toNat)
  case atStart => exact ⟨0, Nat.zero_le _, rfl, by rw [hZ.out.2.2], by rw [hZ.out.1], by rw [hZ.out.2.1], rfl⟩
  case round =>
    obtain ⟨k, hk, rfl, rfl, rfl, rfl, rfl⟩ := hrel
    by_cases hlt : k < n
    · obtain ⟨hbB, pc, x1, x2⟩ := hCell.out k hlt
      have r0 := hRow.out k hlt
      rw [← hb1.out.cell (p := ⟨b3, o3 + k, none⟩) (by show b3 < w.heap.size; omega)] at r0
      rw [← hb1.out.cell (p := ⟨b1, o1 + k * m + q, none⟩) (by show b1 < w.heap.size; omega)] at pc
      have hH := Lib.hid (hHead.out wr k hb1.out hlt)
      have hTl := Lib.hid (hTail.out wr k hb1.out hlt)
      have k1 := hCo.out k hk
      have k2 := hHb.out k hlt
      have k3 := hTb.out k hlt
      have s1 := Lib.hid (hSc.out k)
      have s2 := Lib.hid (hSh'.out k)
      have s3 := Lib.hid (hSt'.out k)
      have t0 := Lib.hid (hT0.out k)
      generalize ts.getD (k * m + q) 0 = xv at *
      generalize k * m = pk at *
      generalize co k = cv at *
      generalize mh k = hv at *
      generalize mt k = tv at *
      generalize hd k = hdv at *
      generalize tl k = tlv at *
      have hw1 : IntKind.i64.wrap (cv + xv) = cv + xv := IntWalk.i64_in _ (by omega)
      have hw2 : IntKind.i64.wrap ((q : Int) + 1) = (q : Int) + 1 := IntWalk.i64_in _ (by omega)
      have hq2 : ((q : Int) + 1).toNat = q + 1 := by omega
      have hqm : (q : Int) < (m : Int) := by omega
      by_cases hqe : m = q + 1
      · have ht0 := Lib.hid (t0.out hqe)
        have hqt : (m = q + 1) = True := eq_true hqe
        have hqt2 : (q + 1 = m) = True := eq_true hqe.symm
        have hs3 : m - (q + 1) = 0 := by omega
        clear hqe
        go_wp2_with (first | (go_at_call 49; (with_reducible refine (hH.out).mono ?_); rintro e w' ⟨rfl, rfl⟩) | (go_at_call 49; (with_reducible refine (hNone.out _ _).mono ?_); rintro e w' ⟨rfl, rfl⟩))
        all_goals
          try simp only [mn_eq]
          go_roundw
          case rel => exact ⟨k + 1, by omega, by go_num, by rw [s1.out], by first | (rw [s2.out]; done) | (rw [s2.out]; congr 1; omega), by first | (rw [s3.out, ht0.out]; done) | (rw [s3.out, ht0.out]; congr 1; omega), by trivial⟩
          case measure => simp [intOf]; omega
      · have hqs : q + 1 < m := by omega
        go_wp2_with (first | (go_at_call 49; (with_reducible refine (hH.out).mono ?_); rintro e w' ⟨rfl, rfl⟩) | (go_at_call 49; (with_reducible refine (hTl.out hqs).mono ?_); rintro e w' ⟨rfl, rfl⟩))
        all_goals
          try simp only [mn_eq]
          go_roundw
          case rel => exact ⟨k + 1, by omega, by go_num, by rw [s1.out], by first | (rw [s2.out]; done) | (rw [s2.out]; congr 1; omega), by first | (rw [s3.out]; done) | (rw [s3.out]; congr 1; omega), by trivial⟩
          case measure => simp [intOf]; omega
    · obtain rfl : n = k := by omega
      have hR := Lib.hid hRes.out
      obtain ⟨y1, y2, y3, y4⟩ := hEnd.out
      generalize co n = cv at *
      generalize mh n = hv at *
      generalize mt n = tv at *
      have hw1 : IntKind.i64.wrap (hv + cv) = hv + cv := IntWalk.i64_in _ (by omega)
      have hw2 : IntKind.i64.wrap (hv + cv + tv) = hv + cv + tv := IntWalk.i64_in _ (by omega)
      go_wp2_with fail
      go_ret
      exact ⟨ret_int hR.out.symm, hb1.out⟩
set_option maxHeartbeats 4000000 in
set_option maxRecDepth 100000 in
theorem implFlowBound_any (B : Nat) (v1 : Value) (ts : List Int) (M : Int) (w : World) (h1 : LstI B w v1 ts) (hB : B ≤ w.heap.size) :
    Calls Try.prog 36 #[v1, .int .i64 M] w (NumPost (flowBRes ts M) (canShop ts M) w) := by
  rcases (show canShop ts M = false ∨ canShop ts M = true by cases canShop ts M <;> simp) with hq | hq
  · have hP : Hid (∀ w', Below w.heap.size w w' → (NumPost (flowBRes ts M) (canShop ts M) w) (.returned (.tuple #[.int .i64 0, .bool false])) w') := Lib.hid fun w' hb => num_no (by unfold flowBRes; rw [hq]; rfl) hq hb
    have hS := Lib.hid (shopOf_no B v1 ts M w h1 hB hq)
    generalize NumPost (flowBRes ts M) (canShop ts M) w = Q at *
    clear h1 hq
    go_enter Try.func36, Try.ntmps36
    go_wp2_with fail
    with_reducible refine (hS.out).mono ?_
    rintro e w5 ⟨rfl, hb5⟩
    have hB5 := Lib.hid hb5
    clear hb5
    go_wp2_with fail
    exact hP.out _ (hB5.out.alloc hB5.out.size _)
  · obtain ⟨m, n, rfl, hm1, hm8, hn1, hn24, hlen, ht⟩ := canShop_of hq
    have hL1 : 1 ≤ ts.length := by rw [hlen]; exact Nat.mul_pos hn1 hm1
    obtain ⟨a1, cap1, rfl, _⟩ := id h1
    obtain ⟨b1, o1, rfl, _⟩ := lstI_block h1 (by omega)
    rw [hlen] at h1 ⊢
    have hS := Lib.hid (shopOf_yes B b1 o1 cap1 m n ts w h1 hB hm1 hm8 hn1 hn24 hq)
    have hd : ts.length / m = n := by rw [hlen]; exact Nat.mul_div_cancel n (by omega)
    have hE : Hid (∀ (w5 w7 : World) (s : Value) (q : Nat), Shop w5.heap.size w5 s ts (sameWay m ts.length) m n → Below w5.heap.size w5 w7 → q < m → Calls Try.prog 69 #[s, .int .i64 q] w7 fun e w' => e = .returned (.int .i64 (boundAt ts m n q)) ∧ Below w7.heap.size w7 w') := Lib.hid fun w5 w7 s q hS5 hb7 hqm =>
      flowBoundAt_any w5.heap.size s ts _ m n q w7 (hS5.below hb7 (Nat.le_refl _)) hb7.size hm1 hm8 hn1 hn24 hlen hqm ht
    have hP : Hid (∀ w', Below w.heap.size w w' → NumPost (flowBRes ts m) (canShop ts m) w (.returned (.tuple #[.int .i64 (flowB ts m n m), .bool true])) w') := Lib.hid fun w' hb => num_yes (flowBRes_yes hq hd) hq hb
    have hSt : Hid (∀ q, flowB ts m n (q + 1) = max (flowB ts m n q) (boundAt ts m n q)) := Lib.hid fun q => rfl
    have hZ : Hid (flowB ts m n 0 = 0) := Lib.hid rfl
    generalize NumPost (flowBRes ts m) (canShop ts m) w = Q at *
    generalize flowB ts m n = fb at *
    generalize boundAt ts m n = ba at *
    clear h1 hq hlen hd ht
    go_enter Try.func36, Try.ntmps36
    go_wp2_with fail
    with_reducible refine (hS.out).mono ?_
    rintro e w5 ⟨s, rfl, hs5, hb5⟩
    have hS5 := Lib.hid hs5
    have hB5 := Lib.hid hb5
    obtain ⟨b', o', cap', vr, vt, rfl, -, hr', ht'⟩ := hs5
    obtain ⟨ar, cr, rfl, -⟩ := hr'
    obtain ⟨at', ct, rfl, -⟩ := ht'
    clear hb5
    generalize n * m = L at *
    generalize (sameWay m ts.length).length = r at *
    have hb6 := Lib.hid (below_alloc (Below.refl w5.heap.size w5) (.cells #[.int .i64 m, .slice (some ⟨b', o', none⟩) L cap', .slice ar n cr, .slice at' r ct] 52))
    have hx6 := Lib.hid (Whole.made w5 52 #[.int .i64 m, .slice (some ⟨b', o', none⟩) L cap', .slice ar n cr, .slice at' r ct] rfl)
    have c0 := hx6.out.at_ (i := 0) rfl
    go_wp2_with fail
    clear c0
    generalize w5.alloc _ = w6 at *
    generalize hgx : w5.heap.size = gx at *
    have hGX := Lib.hid hgx
    clear hgx
    go_loopw [8, 20] (fun gv iv wr => ∃ q : Nat, q ≤ m ∧ iv = .int .i64 q ∧ gv = .int .i64 (fb q) ∧ Hid (Whole wr gx 52 #[.int .i64 m, .slice (some ⟨b', o', none⟩) L cap', .slice ar n cr, .slice at' r ct]) ∧ Hid (Below gx w5 wr)) (fun _ iv _ => m - (intOf iv).toNat)
    case atStart => exact ⟨0, Nat.zero_le _, rfl, by rw [hZ.out], hx6, hb6⟩
    case round =>
      clear hx6 hb6
      obtain ⟨q, hq, rfl, rfl, hX, hBr⟩ := hrel
      by_cases hlt : q < m
      · have hGx : gx < wr.heap.size := hX.out.size
        have c0 := hX.out.at_ (i := 0) rfl
        have c1 := hX.out.at_ (i := 1) rfl
        have c2 := hX.out.at_ (i := 2) rfl
        have c3 := hX.out.at_ (i := 3) rfl
        have hEq := Lib.hid (hE.out w5 wr _ q (by rw [hGX.out]; exact hS5.out) (by rw [hGX.out]; exact hBr.out) hlt)
        have hs := Lib.hid (hSt.out q)
        generalize fb q = fv at *
        generalize ba q = bv at *
        go_wp2_with fail
        with_reducible refine (hEq.out).mono ?_
        rintro e w8 ⟨rfl, hb8⟩
        have hX8 := Lib.hid (hX.out.kept hb8)
        have hB8 := Lib.hid (hBr.out.trans (hb8.mono (Nat.le_of_lt hGx)))
        clear hb8 hX hBr hEq c0 c1 c2 c3
        go_wp2_with fail
        all_goals
          try simp only [mx_eq]
          go_roundw
          case rel => exact ⟨q + 1, by omega, by go_num, by first | (rw [hs.out]; done) | (rw [hs.out]; congr 1; omega), hX8, hB8⟩
          case measure => simp [intOf]; omega
      · obtain rfl : m = q := by omega
        have hR := Lib.hid (hP.out wr (hB5.out.trans (hBr.out.mono (by rw [← hGX.out]; exact hB5.out.size))))
        go_wp2_with fail
        exact hR.out
/-- The model's least one so far: none yet. -/
def leastSo (f : Nat → Int) (k : Nat) : Int := if k = 0 then -1 else minTo f k
theorem leastSo_zero (f : Nat → Int) : leastSo f 0 = -1 := rfl
theorem leastSo_succ (f : Nat → Int) {k : Nat} (hk : k ≠ 0) : leastSo f (k + 1) = min (leastSo f k) (f k) := by unfold leastSo; rw [if_neg (by omega), if_neg hk]; rfl
theorem leastSo_one (f : Nat → Int) (h : f 0 ≤ 9223372036854775807) : leastSo f 1 = f 0 := by
  show min (9223372036854775807 : Int) (f 0) = f 0
  omega
set_option maxHeartbeats 8000000 in
set_option maxRecDepth 100000 in
theorem specFlowBound_any (B : Nat) (v1 : Value) (ts : List Int) (M : Int) (w : World) (h1 : LstI B w v1 ts) (hB : B ≤ w.heap.size) :
    Calls Try.prog 35 #[v1, .int .i64 M] w (NumPost (flowBRes ts M) (canShop ts M) w) := by
  have hC := Lib.hid (l04Can_any B v1 ts M w h1)
  rcases (show canShop ts M = false ∨ canShop ts M = true by cases canShop ts M <;> simp) with hq | hq
  · have hP := Lib.hid (num_no (x := flowBRes ts M) (ok := canShop ts M) (w := w) (w' := w) (by unfold flowBRes; rw [hq]; rfl) hq (Below.refl _ _))
    rw [hq] at hC
    generalize NumPost (flowBRes ts M) (canShop ts M) w = Q at *
    clear h1 hq
    go_enter Try.func35, Try.ntmps35
    go_wp2_with (go_at_call 67; (with_reducible refine (hC.out).mono ?_); rintro e w' ⟨rfl, rfl⟩)
    first | exact hP.out | (go_ret2; exact hP.out)
  · obtain ⟨m, n, rfl, hm1, hm8, hn1, hn24, hlen, ht⟩ := canShop_of hq
    have hL1 : 1 ≤ ts.length := by rw [hlen]; exact Nat.mul_pos hn1 hm1
    have hd : ts.length / m = n := by rw [hlen]; exact Nat.mul_div_cancel n (by omega)
    have h192 : n * m ≤ 192 := mul_le24 hn24 hm8
    rw [hq] at hC
    obtain ⟨a1, cap1, rfl, hl1, hcp, hcm, hc1⟩ := h1.at_
    obtain ⟨b1, o1, rfl, -⟩ := lstI_block h1 (by omega)
    rw [hlen] at h1 hC hl1 hcp ⊢
    have hCnt := Lib.hid (fun w' => l04Count_any (some ⟨b1, o1, none⟩) m n cap1 w' hm1 h192)
    have hP : Hid (NumPost (flowBRes ts m) (canShop ts m) w (.returned (.tuple #[.int .i64 (flowB ts m n m), .bool true])) w) := Lib.hid (num_yes (flowBRes_yes hq hd) hq (Below.refl _ _))
    have hCell : Hid (∀ q k, q < m → k < n → w.cell? ⟨b1, o1 + (k * m + q), none⟩ = some (.int .i64 (ts.getD (k * m + q) 0)) ∧ 1 ≤ ts.getD (k * m + q) 0 ∧ ts.getD (k * m + q) 0 ≤ 10000) := Lib.hid fun q k hqm hk => by
      have hf := row_fit (m := m) hk
      obtain ⟨b, o, x, hh, hb, hx, hcc⟩ := hc1 (k * m + q) (by omega)
      injection hh with hh; injection hh with q1 q2 q3
      subst q1 q2
      have := ht _ x hx
      rw [getD_of hx]
      exact ⟨hcc, this.1, this.2⟩
    have hHead : Hid (∀ (q k : Nat), q < m → k < n → Calls Try.prog 54 #[.slice (some ⟨b1, o1 + k * m, none⟩) q (cap1 - k * m)] w fun e w'' => e = .returned (.int .i64 (headOf ts m q k)) ∧ w = w'') := Lib.hid fun q k hqm hk => by
      have hf := row_fit (m := m) hk
      obtain ⟨c1, c2, -⟩ := part_sum ht (k * m) q (by omega) (by omega)
      have h := l02Sum_any B _ _ 0 w (lstI_part h1 (k * m) q (cap1 - k * m) (by omega) (by omega) (by omega)) (part_sums c1 (by omega) c2) (fun i x hx => by have := c2 i x hx; omega)
      rw [c1] at h
      exact h
    have hTail : Hid (∀ (q k : Nat), q + 1 < m → k < n → Calls Try.prog 54 #[.slice (some ⟨b1, o1 + (k * m + q + 1), none⟩) (m - (q + 1)) (cap1 - (k * m + q + 1))] w fun e w'' => e = .returned (.int .i64 (tailOf ts m q k)) ∧ w = w'') := Lib.hid fun q k hqm hk => by
      have hf := row_fit (m := m) hk
      obtain ⟨c1, c2, -⟩ := part_sum ht (k * m + (q + 1)) (m - (q + 1)) (by omega) (by omega)
      have h := l02Sum_any B _ _ 0 w (lstI_part h1 (k * m + (q + 1)) (m - (q + 1)) (cap1 - (k * m + q + 1)) (by omega) (by omega) (by omega)) (part_sums c1 (by omega) c2) (fun i x hx => by have := c2 i x hx; omega)
      rw [c1] at h
      exact h
    have hNone : Hid (∀ (a : Option Addr) (cap : Nat), cap ≤ maxLen → Calls Try.prog 54 #[.slice a 0 cap] w fun e w'' => e = .returned (.int .i64 0) ∧ w = w'') := Lib.hid fun a cap hc =>
      l02Sum_any B _ [] 0 w (lstI_none B w a cap hc) none_sums (fun i x hx => by simp at hx)
    have hT0 : Hid (∀ q k, m = q + 1 → tailOf ts m q k = 0) := Lib.hid fun q k h => by unfold tailOf; rw [show m - (q + 1) = 0 by omega]; rfl
    have hCo : Hid (∀ q k, q < m → k ≤ n → 0 ≤ colTo ts m q k ∧ colTo ts m q k ≤ 10000 * k) := Lib.hid fun q k hqm hk => colTo_bound ht hlen hqm k hk
    have hHb : Hid (∀ q k, q < m → k < n → 0 ≤ headOf ts m q k ∧ headOf ts m q k ≤ 80000) := Lib.hid fun q k hqm hk => head_ok ht hlen hm8 hqm k hk
    have hTb : Hid (∀ q k, q < m → k < n → 0 ≤ tailOf ts m q k ∧ tailOf ts m q k ≤ 80000) := Lib.hid fun q k hqm hk => tail_ok ht hlen hm8 hqm k hk
    have hLh : Hid (∀ q k, q < m → k ≤ n → k ≠ 0 → 0 ≤ leastSo (headOf ts m q) k ∧ leastSo (headOf ts m q) k ≤ 80000) := Lib.hid fun q k hqm hk h0 => by
      have := minTo_bound (X := 80000) (by omega) (fun k hk => head_ok ht hlen hm8 hqm k hk) k hk
      unfold leastSo; rw [if_neg h0]; omega
    have hLt : Hid (∀ q k, q < m → k ≤ n → k ≠ 0 → 0 ≤ leastSo (tailOf ts m q) k ∧ leastSo (tailOf ts m q) k ≤ 80000) := Lib.hid fun q k hqm hk h0 => by
      have := minTo_bound (X := 80000) (by omega) (fun k hk => tail_ok ht hlen hm8 hqm k hk) k hk
      unfold leastSo; rw [if_neg h0]; omega
    have hEnd : Hid (∀ q, q < m → _) := Lib.hid fun q (hqm : q < m) => boundAt_ok ht hlen hm8 hn1 hn24 hqm
    have hRes : Hid (∀ q, boundAt ts m n q = leastSo (headOf ts m q) n + colTo ts m q n + leastSo (tailOf ts m q) n) := Lib.hid fun q => by
      unfold leastSo; rw [if_neg (by omega), if_neg (by omega)]; rfl
    have hLe : Hid (∀ q, leastSo (headOf ts m q) n = minTo (headOf ts m q) n ∧ leastSo (tailOf ts m q) n = minTo (tailOf ts m q) n) := Lib.hid fun q => by
      unfold leastSo; rw [if_neg (by omega), if_neg (by omega)]; exact ⟨rfl, rfl⟩
    have hSc : Hid (∀ q k, colTo ts m q (k + 1) = colTo ts m q k + ts.getD (k * m + q) 0) := Lib.hid fun q k => rfl
    have hS0 : Hid (∀ q, q < m → leastSo (headOf ts m q) 1 = headOf ts m q 0 ∧ leastSo (tailOf ts m q) 1 = tailOf ts m q 0) := Lib.hid fun q hqm => by
      have a := head_ok ht hlen hm8 hqm 0 (by omega)
      have b := tail_ok ht hlen hm8 hqm 0 (by omega)
      exact ⟨leastSo_one _ (by omega), leastSo_one _ (by omega)⟩
    have hS1 : Hid (∀ q k, k ≠ 0 → leastSo (headOf ts m q) (k + 1) = min (leastSo (headOf ts m q) k) (headOf ts m q k) ∧ leastSo (tailOf ts m q) (k + 1) = min (leastSo (tailOf ts m q) k) (tailOf ts m q k)) := Lib.hid fun q k h0 => ⟨leastSo_succ _ h0, leastSo_succ _ h0⟩
    have hZ : Hid (∀ q, leastSo (headOf ts m q) 0 = -1 ∧ leastSo (tailOf ts m q) 0 = -1 ∧ colTo ts m q 0 = 0) := Lib.hid fun q => ⟨rfl, rfl, rfl⟩
    have hSt : Hid (∀ q, flowB ts m n (q + 1) = max (flowB ts m n q) (boundAt ts m n q)) := Lib.hid fun q => rfl
    have hFb : Hid (∀ q, q ≤ m → 0 ≤ flowB ts m n q ∧ flowB ts m n q ≤ 400000) := Lib.hid fun q hqm => flowB_bound ht hlen hm8 hn1 hn24 q hqm
    have hF0 : Hid (flowB ts m n 0 = 0) := Lib.hid rfl
    have hRow : Hid (∀ k, k < n → k * m + m ≤ n * m) := Lib.hid fun k hk => row_fit hk
    have hMul : Hid (∀ k, k < n → IntKind.i64.wrap ((k : Int) * (m : Int)) = ((k * m : Nat) : Int) ∧ IntKind.i64.wrap (((k : Int) + 1) * (m : Int)) = ((k * m + m : Nat) : Int)) := Lib.hid fun k hk => by
      have := row_fit (m := m) hk
      constructor
      · rw [← Int.natCast_mul]; exact IntWalk.i64_in _ (by omega)
      · rw [show ((k : Int) + 1) * (m : Int) = ((k * m + m : Nat) : Int) by rw [Int.add_mul, Int.one_mul, Int.natCast_add, Int.natCast_mul]]
        exact IntWalk.i64_in _ (by omega)
    unfold maxLen at hcm hl1
    generalize NumPost (flowBRes ts m) (canShop ts m) w = Q at *
    generalize flowB ts m n = fb at *
    generalize boundAt ts m n = ba at *
    generalize colTo ts m = co at *
    clear h1 hc1 hq hlen hd ht
    generalize n * m = L at *
    go_enter Try.func35, Try.ntmps35
    go_wp2_with (first | (go_at_call 67; (with_reducible refine (hC.out).mono ?_); rintro e w' ⟨rfl, rfl⟩) | (go_at_call 68; (with_reducible refine (hCnt.out _).mono ?_); rintro e w' ⟨rfl, rfl⟩))
    go_loopw [7, 8] (fun gv iv wr => ∃ q : Nat, q ≤ m ∧ iv = .int .i64 q ∧ gv = .int .i64 (fb q) ∧ wr = w) (fun _ iv _ => m - (intOf iv).toNat)
    case atStart => exact ⟨0, Nat.zero_le _, rfl, by rw [hF0.out], rfl⟩
    case round =>
      obtain ⟨q, hq, rfl, rfl, rfl⟩ := hrel
      by_cases hlt : q < m
      · have hz := hZ.out q
        go_wp2_with fail
        go_loopw [9, 10, 11, 12] (fun sv hv tv iv w' => ∃ k : Nat, k ≤ n ∧ iv = .int .i64 k ∧ sv = .int .i64 (co q k) ∧ hv = .int .i64 (leastSo (headOf ts m q) k) ∧ tv = .int .i64 (leastSo (tailOf ts m q) k) ∧ w' = wr) (fun _ _ _ iv _ => n - (intOf iv).toNat)
        case atStart => exact ⟨0, Nat.zero_le _, rfl, by rw [hz.2.2], by rw [hz.1], by rw [hz.2.1], rfl⟩
        case round =>
          clear hz
          obtain ⟨k, hk, rfl, rfl, rfl, rfl, rfl⟩ := hrel
          by_cases hlk : k < n
          · obtain ⟨pc, x1, x2⟩ := hCell.out q k hlt hlk
            obtain ⟨hm1', hm2'⟩ := hMul.out k hlk
            have hrow := hRow.out k hlk
            have hH := Lib.hid (hHead.out q k hlt hlk)
            have hTl : Hid (q + 1 < m → _) := Lib.hid fun h => hTail.out q k h hlk
            have k1 := hCo.out q k hlt hk
            have k2 := hHb.out q k hlt hlk
            have k3 := hTb.out q k hlt hlk
            have k4 := Lib.hid (hLh.out q k hlt hk)
            have k5 := Lib.hid (hLt.out q k hlt hk)
            have s1 := Lib.hid (hSc.out q k)
            have s2 := Lib.hid (hS0.out q hlt)
            have s3 := Lib.hid (hS1.out q k)
            have t0 := Lib.hid (hT0.out q k)
            have z0 := Lib.hid (hZ.out q)
            generalize hpk : k * m = pk at *
            generalize ts.getD (pk + q) 0 = xv at *
            generalize co q k = cv at *
            have hw1 : IntKind.i64.wrap ((pk : Int) + (q : Int)) = ((pk + q : Nat) : Int) := by rw [← Int.natCast_add]; exact IntWalk.i64_in _ (by omega)
            have hw2 : IntKind.i64.wrap (((pk + q : Nat) : Int) + 1) = ((pk + q + 1 : Nat) : Int) := by rw [show ((pk + q : Nat) : Int) + 1 = ((pk + q + 1 : Nat) : Int) by omega]; exact IntWalk.i64_in _ (by omega)
            have hw3 : IntKind.i64.wrap (cv + xv) = cv + xv := IntWalk.i64_in _ (by omega)
            have hw4 : IntKind.i64.wrap ((k : Int) + 1) = (k : Int) + 1 := IntWalk.i64_in _ (by omega)
            have hi1 : pk + q < L := by omega
            have hs1 : pk + q - pk = q := by omega
            have hs2 : pk + m - (pk + q + 1) = m - (q + 1) := by omega
            have hn1' : cap1 ≠ pk := by omega
            clear hpk
            by_cases hqe : m = q + 1
            · have hs3 : m - (q + 1) = 0 := by omega
              have hqe2 := Lib.hid hqe
              clear hqe
              by_cases hce : cap1 = pk + q + 1
              · have hct : (cap1 = pk + q + 1) = True := eq_true hce
                clear hce
                by_cases hk0 : k = 0
                · have g1 := Lib.hid (show leastSo (headOf ts m q) (k + 1) = headOf ts m q k by rw [hk0]; exact s2.out.1)
                  have g2 := Lib.hid (show leastSo (tailOf ts m q) (k + 1) = tailOf ts m q k by rw [hk0]; exact s2.out.2)
                  have z1 : leastSo (headOf ts m q) k = -1 := by rw [hk0]; exact z0.out.1
                  have z2 : leastSo (tailOf ts m q) k = -1 := by rw [hk0]; exact z0.out.2.1
                  rw [z1, z2]
                  clear z1 z2 hk0
                  generalize headOf ts m q k = hdv at *
                  generalize tailOf ts m q k = tlv at *
                  have t0' := Lib.hid (t0.out hqe2.out)
                  go_wp2_with (first | (go_at_call 54; (with_reducible refine (hH.out).mono ?_); rintro e w' ⟨rfl, rfl⟩) | (go_at_call 54; (with_reducible refine (hNone.out _ _ (by unfold maxLen; omega)).mono ?_); rintro e w' ⟨rfl, rfl⟩))
                  go_roundw
                  case rel => exact ⟨k + 1, by omega, by go_num, by rw [s1.out], by rw [g1.out], by rw [g2.out, t0'.out], by trivial⟩
                  case measure => simp [intOf]; omega
                · obtain ⟨f1, f2⟩ := s3.out hk0
                  have g1 := Lib.hid f1
                  have g2 := Lib.hid f2
                  have k6 := k4.out hk0
                  have k7 := k5.out hk0
                  clear f1 f2
                  have t0' := Lib.hid (t0.out hqe2.out)
                  generalize leastSo (headOf ts m q) k = hv at *
                  generalize leastSo (tailOf ts m q) k = tv at *
                  generalize headOf ts m q k = hdv at *
                  generalize tailOf ts m q k = tlv at *
                  by_cases ca : hdv < hv
                  · have gh := Lib.hid (show leastSo (headOf ts m q) (k + 1) = hdv by rw [g1.out]; omega)
                    by_cases cb : tlv < tv
                    · have gt := Lib.hid (show leastSo (tailOf ts m q) (k + 1) = tlv by rw [g2.out]; omega)
                      have e0 := t0'.out
                      subst e0
                      go_wp2_with (first | (go_at_call 54; (with_reducible refine (hH.out).mono ?_); rintro e w' ⟨rfl, rfl⟩) | (go_at_call 54; (with_reducible refine (hNone.out _ _ (by unfold maxLen; omega)).mono ?_); rintro e w' ⟨rfl, rfl⟩))
                      go_roundw
                      case rel => exact ⟨k + 1, by omega, by go_num, by rw [s1.out], by rw [gh.out], by rw [gt.out], by trivial⟩
                      case measure => simp [intOf]; omega
                    · have gt := Lib.hid (show leastSo (tailOf ts m q) (k + 1) = tv by rw [g2.out]; omega)
                      have e0 := t0'.out
                      subst e0
                      have cbd : decide (0 < tv) = false := decide_eq_false cb
                      go_wp2_with (first | (go_at_call 54; (with_reducible refine (hH.out).mono ?_); rintro e w' ⟨rfl, rfl⟩) | (go_at_call 54; (with_reducible refine (hNone.out _ _ (by unfold maxLen; omega)).mono ?_); rintro e w' ⟨rfl, rfl⟩))
                      go_roundw
                      case rel => exact ⟨k + 1, by omega, by go_num, by rw [s1.out], by rw [gh.out], by rw [gt.out], by trivial⟩
                      case measure => simp [intOf]; omega
                  · have gh := Lib.hid (show leastSo (headOf ts m q) (k + 1) = hv by rw [g1.out]; omega)
                    by_cases cb : tlv < tv
                    · have gt := Lib.hid (show leastSo (tailOf ts m q) (k + 1) = tlv by rw [g2.out]; omega)
                      have e0 := t0'.out
                      subst e0
                      have cad : decide (hdv < hv) = false := decide_eq_false ca
                      go_wp2_with (first | (go_at_call 54; (with_reducible refine (hH.out).mono ?_); rintro e w' ⟨rfl, rfl⟩) | (go_at_call 54; (with_reducible refine (hNone.out _ _ (by unfold maxLen; omega)).mono ?_); rintro e w' ⟨rfl, rfl⟩))
                      go_roundw
                      case rel => exact ⟨k + 1, by omega, by go_num, by rw [s1.out], by rw [gh.out], by rw [gt.out], by trivial⟩
                      case measure => simp [intOf]; omega
                    · have gt := Lib.hid (show leastSo (tailOf ts m q) (k + 1) = tv by rw [g2.out]; omega)
                      have e0 := t0'.out
                      subst e0
                      have cad : decide (hdv < hv) = false := decide_eq_false ca
                      have cbd : decide (0 < tv) = false := decide_eq_false cb
                      go_wp2_with (first | (go_at_call 54; (with_reducible refine (hH.out).mono ?_); rintro e w' ⟨rfl, rfl⟩) | (go_at_call 54; (with_reducible refine (hNone.out _ _ (by unfold maxLen; omega)).mono ?_); rintro e w' ⟨rfl, rfl⟩))
                      go_roundw
                      case rel => exact ⟨k + 1, by omega, by go_num, by rw [s1.out], by rw [gh.out], by rw [gt.out], by trivial⟩
                      case measure => simp [intOf]; omega
              · by_cases hk0 : k = 0
                · have g1 := Lib.hid (show leastSo (headOf ts m q) (k + 1) = headOf ts m q k by rw [hk0]; exact s2.out.1)
                  have g2 := Lib.hid (show leastSo (tailOf ts m q) (k + 1) = tailOf ts m q k by rw [hk0]; exact s2.out.2)
                  have z1 : leastSo (headOf ts m q) k = -1 := by rw [hk0]; exact z0.out.1
                  have z2 : leastSo (tailOf ts m q) k = -1 := by rw [hk0]; exact z0.out.2.1
                  rw [z1, z2]
                  clear z1 z2 hk0
                  generalize headOf ts m q k = hdv at *
                  generalize tailOf ts m q k = tlv at *
                  have t0' := Lib.hid (t0.out hqe2.out)
                  go_wp2_with (first | (go_at_call 54; (with_reducible refine (hH.out).mono ?_); rintro e w' ⟨rfl, rfl⟩) | (go_at_call 54; (with_reducible refine (hNone.out _ _ (by unfold maxLen; omega)).mono ?_); rintro e w' ⟨rfl, rfl⟩))
                  go_roundw
                  case rel => exact ⟨k + 1, by omega, by go_num, by rw [s1.out], by rw [g1.out], by rw [g2.out, t0'.out], by trivial⟩
                  case measure => simp [intOf]; omega
                · obtain ⟨f1, f2⟩ := s3.out hk0
                  have g1 := Lib.hid f1
                  have g2 := Lib.hid f2
                  have k6 := k4.out hk0
                  have k7 := k5.out hk0
                  clear f1 f2
                  have t0' := Lib.hid (t0.out hqe2.out)
                  generalize leastSo (headOf ts m q) k = hv at *
                  generalize leastSo (tailOf ts m q) k = tv at *
                  generalize headOf ts m q k = hdv at *
                  generalize tailOf ts m q k = tlv at *
                  by_cases ca : hdv < hv
                  · have gh := Lib.hid (show leastSo (headOf ts m q) (k + 1) = hdv by rw [g1.out]; omega)
                    by_cases cb : tlv < tv
                    · have gt := Lib.hid (show leastSo (tailOf ts m q) (k + 1) = tlv by rw [g2.out]; omega)
                      have e0 := t0'.out
                      subst e0
                      go_wp2_with (first | (go_at_call 54; (with_reducible refine (hH.out).mono ?_); rintro e w' ⟨rfl, rfl⟩) | (go_at_call 54; (with_reducible refine (hNone.out _ _ (by unfold maxLen; omega)).mono ?_); rintro e w' ⟨rfl, rfl⟩))
                      go_roundw
                      case rel => exact ⟨k + 1, by omega, by go_num, by rw [s1.out], by rw [gh.out], by rw [gt.out], by trivial⟩
                      case measure => simp [intOf]; omega
                    · have gt := Lib.hid (show leastSo (tailOf ts m q) (k + 1) = tv by rw [g2.out]; omega)
                      have e0 := t0'.out
                      subst e0
                      have cbd : decide (0 < tv) = false := decide_eq_false cb
                      go_wp2_with (first | (go_at_call 54; (with_reducible refine (hH.out).mono ?_); rintro e w' ⟨rfl, rfl⟩) | (go_at_call 54; (with_reducible refine (hNone.out _ _ (by unfold maxLen; omega)).mono ?_); rintro e w' ⟨rfl, rfl⟩))
                      go_roundw
                      case rel => exact ⟨k + 1, by omega, by go_num, by rw [s1.out], by rw [gh.out], by rw [gt.out], by trivial⟩
                      case measure => simp [intOf]; omega
                  · have gh := Lib.hid (show leastSo (headOf ts m q) (k + 1) = hv by rw [g1.out]; omega)
                    by_cases cb : tlv < tv
                    · have gt := Lib.hid (show leastSo (tailOf ts m q) (k + 1) = tlv by rw [g2.out]; omega)
                      have e0 := t0'.out
                      subst e0
                      have cad : decide (hdv < hv) = false := decide_eq_false ca
                      go_wp2_with (first | (go_at_call 54; (with_reducible refine (hH.out).mono ?_); rintro e w' ⟨rfl, rfl⟩) | (go_at_call 54; (with_reducible refine (hNone.out _ _ (by unfold maxLen; omega)).mono ?_); rintro e w' ⟨rfl, rfl⟩))
                      go_roundw
                      case rel => exact ⟨k + 1, by omega, by go_num, by rw [s1.out], by rw [gh.out], by rw [gt.out], by trivial⟩
                      case measure => simp [intOf]; omega
                    · have gt := Lib.hid (show leastSo (tailOf ts m q) (k + 1) = tv by rw [g2.out]; omega)
                      have e0 := t0'.out
                      subst e0
                      have cad : decide (hdv < hv) = false := decide_eq_false ca
                      have cbd : decide (0 < tv) = false := decide_eq_false cb
                      go_wp2_with (first | (go_at_call 54; (with_reducible refine (hH.out).mono ?_); rintro e w' ⟨rfl, rfl⟩) | (go_at_call 54; (with_reducible refine (hNone.out _ _ (by unfold maxLen; omega)).mono ?_); rintro e w' ⟨rfl, rfl⟩))
                      go_roundw
                      case rel => exact ⟨k + 1, by omega, by go_num, by rw [s1.out], by rw [gh.out], by rw [gt.out], by trivial⟩
                      case measure => simp [intOf]; omega
            · have hqs : q + 1 < m := by omega
              have hce : cap1 ≠ pk + q + 1 := by omega
              by_cases hk0 : k = 0
              · have g1 := Lib.hid (show leastSo (headOf ts m q) (k + 1) = headOf ts m q k by rw [hk0]; exact s2.out.1)
                have g2 := Lib.hid (show leastSo (tailOf ts m q) (k + 1) = tailOf ts m q k by rw [hk0]; exact s2.out.2)
                have z1 : leastSo (headOf ts m q) k = -1 := by rw [hk0]; exact z0.out.1
                have z2 : leastSo (tailOf ts m q) k = -1 := by rw [hk0]; exact z0.out.2.1
                rw [z1, z2]
                clear z1 z2 hk0
                generalize headOf ts m q k = hdv at *
                generalize tailOf ts m q k = tlv at *
                go_wp2_with (first | (go_at_call 54; (with_reducible refine (hH.out).mono ?_); rintro e w' ⟨rfl, rfl⟩) | (go_at_call 54; (with_reducible refine (hTl.out hqs).mono ?_); rintro e w' ⟨rfl, rfl⟩))
                go_roundw
                case rel => exact ⟨k + 1, by omega, by go_num, by rw [s1.out], by rw [g1.out], by rw [g2.out], by trivial⟩
                case measure => simp [intOf]; omega
              · obtain ⟨f1, f2⟩ := s3.out hk0
                have g1 := Lib.hid f1
                have g2 := Lib.hid f2
                have k6 := k4.out hk0
                have k7 := k5.out hk0
                clear f1 f2
                generalize leastSo (headOf ts m q) k = hv at *
                generalize leastSo (tailOf ts m q) k = tv at *
                generalize headOf ts m q k = hdv at *
                generalize tailOf ts m q k = tlv at *
                by_cases ca : hdv < hv
                · have gh := Lib.hid (show leastSo (headOf ts m q) (k + 1) = hdv by rw [g1.out]; omega)
                  by_cases cb : tlv < tv
                  · have gt := Lib.hid (show leastSo (tailOf ts m q) (k + 1) = tlv by rw [g2.out]; omega)
                    go_wp2_with (first | (go_at_call 54; (with_reducible refine (hH.out).mono ?_); rintro e w' ⟨rfl, rfl⟩) | (go_at_call 54; (with_reducible refine (hTl.out hqs).mono ?_); rintro e w' ⟨rfl, rfl⟩))
                    go_roundw
                    case rel => exact ⟨k + 1, by omega, by go_num, by rw [s1.out], by rw [gh.out], by rw [gt.out], by trivial⟩
                    case measure => simp [intOf]; omega
                  · have gt := Lib.hid (show leastSo (tailOf ts m q) (k + 1) = tv by rw [g2.out]; omega)
                    have cbd : decide (tlv < tv) = false := decide_eq_false cb
                    go_wp2_with (first | (go_at_call 54; (with_reducible refine (hH.out).mono ?_); rintro e w' ⟨rfl, rfl⟩) | (go_at_call 54; (with_reducible refine (hTl.out hqs).mono ?_); rintro e w' ⟨rfl, rfl⟩))
                    go_roundw
                    case rel => exact ⟨k + 1, by omega, by go_num, by rw [s1.out], by rw [gh.out], by rw [gt.out], by trivial⟩
                    case measure => simp [intOf]; omega
                · have gh := Lib.hid (show leastSo (headOf ts m q) (k + 1) = hv by rw [g1.out]; omega)
                  by_cases cb : tlv < tv
                  · have gt := Lib.hid (show leastSo (tailOf ts m q) (k + 1) = tlv by rw [g2.out]; omega)
                    have cad : decide (hdv < hv) = false := decide_eq_false ca
                    go_wp2_with (first | (go_at_call 54; (with_reducible refine (hH.out).mono ?_); rintro e w' ⟨rfl, rfl⟩) | (go_at_call 54; (with_reducible refine (hTl.out hqs).mono ?_); rintro e w' ⟨rfl, rfl⟩))
                    go_roundw
                    case rel => exact ⟨k + 1, by omega, by go_num, by rw [s1.out], by rw [gh.out], by rw [gt.out], by trivial⟩
                    case measure => simp [intOf]; omega
                  · have gt := Lib.hid (show leastSo (tailOf ts m q) (k + 1) = tv by rw [g2.out]; omega)
                    have cad : decide (hdv < hv) = false := decide_eq_false ca
                    have cbd : decide (tlv < tv) = false := decide_eq_false cb
                    go_wp2_with (first | (go_at_call 54; (with_reducible refine (hH.out).mono ?_); rintro e w' ⟨rfl, rfl⟩) | (go_at_call 54; (with_reducible refine (hTl.out hqs).mono ?_); rintro e w' ⟨rfl, rfl⟩))
                    go_roundw
                    case rel => exact ⟨k + 1, by omega, by go_num, by rw [s1.out], by rw [gh.out], by rw [gt.out], by trivial⟩
                    case measure => simp [intOf]; omega
          · obtain rfl : n = k := by omega
            have hR := Lib.hid (hRes.out q)
            obtain ⟨y1, y2, y3, y4⟩ := hEnd.out q hlt
            obtain ⟨l1, l2⟩ := hLe.out q
            rw [← l1] at y1
            rw [← l2] at y2
            clear l1 l2
            have hs := Lib.hid (hSt.out q)
            generalize co q n = cv at *
            generalize leastSo (headOf ts m q) n = hv at *
            generalize leastSo (tailOf ts m q) n = tv at *
            generalize fb q = fv at *
            generalize ba q = bv at *
            have hw1 : IntKind.i64.wrap (hv + cv) = hv + cv := IntWalk.i64_in _ (by omega)
            have hw2 : IntKind.i64.wrap (hv + cv + tv) = bv := by rw [hR.out]; exact IntWalk.i64_in _ (by omega)
            go_wp2_with (go_at_call 55; (with_reducible refine (l00Max_any _ _ _).mono ?_); rintro e w' ⟨rfl, rfl⟩)
            go_roundw
            case rel => exact ⟨q + 1, by omega, by go_num, by rw [hs.out], by trivial⟩
            case measure => simp [intOf]; omega
      · obtain rfl : m = q := by omega
        go_wp2_with fail
        first | exact hP.out | (go_ret2; exact hP.out)
theorem flowBound_both (ts : List Int) (M : Int) (_ : ∀ x ∈ ts, (Lit.int .i64 x).wf = true) (_ : (Lit.int .i64 M).wf = true) : ∃ (r0 : Int) (r1 : Bool),
    (∀ (B : Nat) (v1 : Value) (w : World), LstI B w v1 ts → B ≤ w.heap.size → Calls Try.prog 35 #[v1, .int .i64 M] w fun e w' => e = .returned (.tuple #[.int .i64 r0, .bool r1]) ∧ Below w.heap.size w w') ∧
    (∀ (B : Nat) (v1 : Value) (w : World), LstI B w v1 ts → B ≤ w.heap.size → Calls Try.prog 36 #[v1, .int .i64 M] w fun e w' => e = .returned (.tuple #[.int .i64 r0, .bool r1]) ∧ Below w.heap.size w w') :=
  ⟨flowBRes ts M, canShop ts M, fun B v1 w h1 hB => specFlowBound_any B v1 ts M w h1 hB, fun B v1 w h1 hB => implFlowBound_any B v1 ts M w h1 hB⟩
end Go.Proofs.Ytfigojmdklaljaa
