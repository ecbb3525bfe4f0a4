/- Contracts: ProgressOf, in the model and in the program. -/
import Derived.Test.YtbjbllkolekmpaaEarly3
namespace Go.Proofs.Ytbjbllkolekmpaa
open Go.RowKit Go.Lst

/-- Starts for tasks. -/
def startsOk (xs : List TaskD) (st : List Int) : Bool := areTasks xs && decide (st.length = xs.length) && allIn st 0 100000
theorem startsOk_1 {xs : List TaskD} {st : List Int} (h : areTasks xs = false) : startsOk xs st = false := by simp [startsOk, h]
theorem startsOk_2 {xs : List TaskD} {st : List Int} (h : st.length ≠ xs.length) : startsOk xs st = false := by simp [startsOk, h]
theorem startsOk_3 {xs : List TaskD} {st : List Int} (h : allIn st 0 100000 = false) : startsOk xs st = false := by simp [startsOk, h]
theorem startsOk_of {xs : List TaskD} {st : List Int} (h : startsOk xs st = true) : areTasks xs = true ∧ st.length = xs.length ∧ allIn st 0 100000 = true := by
  simp only [startsOk, Bool.and_eq_true, decide_eq_true_eq] at h
  exact ⟨h.1.1, h.1.2, h.2⟩
theorem startsOk_mk {xs : List TaskD} {st : List Int} (h1 : areTasks xs = true) (h2 : st.length = xs.length) (h3 : allIn st 0 100000 = true) : startsOk xs st = true := by simp [startsOk, h1, h2, h3]
theorem starts_bnd {st : List Int} (h : allIn st 0 100000 = true) : Bnd 0 100000 st := fun k => by
  by_cases hk : k < st.length
  · have e := getD_get hk
    exact allIn_of h e
  · rw [List.getD_eq_getElem?_getD, List.getElem?_eq_none (by omega)]
    exact ⟨Int.le_refl _, by decide⟩
def workAt (x : TaskD) : Int := x.Time * x.Needs
def workTo (xs : List TaskD) : Nat → Int
  | 0 => 0
  | k + 1 => workTo xs k + workAt (xs.getD k default)
def doneAt (x : TaskD) (s t : Int) : Int := x.Needs * max 0 (min x.Time (t - s))
def doneTo (xs : List TaskD) (st : List Int) (t : Int) : Nat → Int
  | 0 => 0
  | k + 1 => doneTo xs st t k + doneAt (xs.getD k default) (st.getD k 0) t
theorem mul_le_mul20 {a b : Int} (h1 : 0 ≤ a) (h2 : a ≤ 100) (h3 : 0 ≤ b) (h4 : b ≤ 20) : 0 ≤ a * b ∧ a * b ≤ 2000 := by
  have := Int.mul_le_mul h2 h4 h3 (by omega)
  exact ⟨Int.mul_nonneg h1 h3, by omega⟩
theorem workAt_bound {x : TaskD} {i : Int} (h : OkTask x i) : 0 ≤ workAt x ∧ workAt x ≤ 2000 := mul_le_mul20 h.time.1 h.time.2 h.needs.1 h.needs.2
theorem doneAt_bound {x : TaskD} {i : Int} (h : OkTask x i) (s t : Int) : 0 ≤ doneAt x s t ∧ doneAt x s t ≤ 2000 := by
  have := mul_le_mul20 (a := max 0 (min x.Time (t - s))) (b := x.Needs) (by omega) (by have := h.time; omega) h.needs.1 h.needs.2
  unfold doneAt
  rw [Int.mul_comm]
  exact this
theorem workTo_bound {xs : List TaskD} (h : AreT xs) : ∀ k : Nat, k ≤ xs.length → 0 ≤ workTo xs k ∧ workTo xs k ≤ 2000 * (k : Int)
  | 0, _ => by simp [workTo]
  | k + 1, hk => by
    have h1 := workTo_bound h k (by omega)
    have e : xs[k]? = some (xs[k]'(by omega)) := List.getElem?_eq_getElem _
    have h2 := workAt_bound (h.each k _ e)
    simp only [workTo]
    rw [getD_some e]
    omega
theorem doneTo_bound {xs : List TaskD} (h : AreT xs) (st : List Int) (t : Int) : ∀ k : Nat, k ≤ xs.length → 0 ≤ doneTo xs st t k ∧ doneTo xs st t k ≤ 2000 * (k : Int)
  | 0, _ => by simp [doneTo]
  | k + 1, hk => by
    have h1 := doneTo_bound h st t k (by omega)
    have e : xs[k]? = some (xs[k]'(by omega)) := List.getElem?_eq_getElem _
    have h2 := doneAt_bound (h.each k _ e) (st.getD k 0) t
    simp only [doneTo]
    rw [getD_some e]
    omega

set_option maxHeartbeats 2000000 in
theorem l03Starts_any (B : Nat) (v1 v2 : Value) (xs : List TaskD) (st : List Int) (w : World) (h1 : LstTask B w v1 xs) (h2 : LstI B w v2 st) :
    Calls Try.prog 37 #[v1, v2] w (Ret (.bool (startsOk xs st)) w) := by
  have hA := Lib.hid (l03Are_any B v1 xs w h1)
  obtain ⟨a, cap, rfl, hl, _⟩ := h1
  obtain ⟨a2, cap2, rfl, hl2, _, _, hc2⟩ := h2.at_
  cases hq : areTasks xs
  · rw [hq] at hA
    have hF := Lib.hid (startsOk_1 (st := st) hq)
    clear hq hc2 h2
    go_enter Try.func37, Try.ntmps37
    go_wp2_with fail
    refine (hA.out).mono ?_
    rintro e w1 ⟨m, rfl, rfl⟩
    go_wp2_with fail
    go_ret
    exact ⟨m, ret_bool (by rw [hF.out]), rfl⟩
  rw [hq] at hA
  by_cases hlen : st.length = xs.length
  case neg =>
    have hF := Lib.hid (startsOk_2 hlen)
    have hne : ((st.length : Int) != (xs.length : Int)) = true := by simp; omega
    clear hq hc2 h2 hlen
    unfold maxLen at hl hl2
    go_enter Try.func37, Try.ntmps37
    go_wp2_with fail
    refine (hA.out).mono ?_
    rintro e w1 ⟨m, rfl, rfl⟩
    go_wp2_with fail
    go_ret
    exact ⟨m, ret_bool (by rw [hF.out]), rfl⟩
  have hYes : Hid (∀ k, k = st.length → (∀ i x, i < k → st[i]? = some x → inB x 0 100000 = true) → startsOk xs st = true) := Lib.hid fun k hk hp => startsOk_mk hq hlen (all_upto fun i x hi hx => hp i x (by omega) hx)
  have hNo : Hid (∀ (i : Nat) (x : Int), st[i]? = some x → inB x 0 100000 = false → startsOk xs st = false) := Lib.hid fun i x hx h => startsOk_3 (all_not hx h)
  have hC := Lib.hid hc2
  rw [← hlen]
  rw [← hlen] at hA
  clear hc2 h2 hq hlen hl
  generalize st.length = n at *
  unfold maxLen at hl2
  go_enter Try.func37, Try.ntmps37
  go_wp2_with fail
  refine (hA.out).mono ?_
  rintro e w1 ⟨m0, rfl, rfl⟩
  go_wp2_with fail
  go_loopw [18] (fun i wr => ∃ k m : Nat, k ≤ n ∧ i = .int .i64 k ∧ Hid (∀ i x, i < k → st[i]? = some x → inB x 0 100000 = true) ∧ wr = w.drewN m) (fun i _ => n - (intOf i).toNat)
  case atStart => exact ⟨0, m0, Nat.zero_le _, rfl, Lib.hid (fun i x hi _ => by omega), rfl⟩
  case round =>
    obtain ⟨k, m, hk, rfl, hP, rfl⟩ := hrel
    by_cases hlt : k < n
    · obtain ⟨b, o, x, rfl, _, hx, hcell⟩ := hC.out k hlt
      have hXx := Lib.hid hx
      clear hx
      rw [← World.cell?_drewN (n := m)] at hcell
      generalize hwo : w.drewN m = wo at *
      have hWo := Lib.hid hwo
      clear hwo
      cases hr : inB x 0 100000
      · have hF := Lib.hid (hNo.out k x hXx.out hr)
        go_wp2_with (go_at_call 44; refine (l00In_any _ _ _ _).mono ?_; rintro e w' ⟨rfl, rfl⟩)
        go_ret
        exact ⟨m, ret_bool (by rw [hF.out]), hWo.out.symm⟩
      · have hP2 : Hid (∀ i y, i < k + 1 → st[i]? = some y → inB y 0 100000 = true) := Lib.hid fun i y hi hy => by
          by_cases h1 : i < k
          · exact hP.out i y h1 hy
          · have : i = k := by omega
            subst this
            rw [hXx.out] at hy
            cases hy
            exact hr
        go_wp2_with (go_at_call 44; refine (l00In_any _ _ _ _).mono ?_; rintro e w' ⟨rfl, rfl⟩)
        go_roundw
        case rel => exact ⟨k + 1, m, by omega, by go_num, hP2, hWo.out.symm⟩
        case measure => simp [intOf]; omega
    · have hF := Lib.hid (hYes.out k (by omega) hP.out)
      go_wp2_with fail
      go_ret
      exact ⟨m, ret_bool (by rw [hF.out]), rfl⟩

set_option maxHeartbeats 1000000 in
theorem areStarts_any (B : Nat) (a : Option Addr) (n cap : Nat) (v2 : Value) (st : List Int) (w : World) (h2 : LstI B w v2 st) (hl : n ≤ maxLen) :
    Calls Try.prog 41 #[.slice a n cap, v2] w (Ret (.bool (decide (st.length = n) && allIn st 0 100000)) w) := by
  have hQ := Lib.hid (areWithin_any B v2 st 0 100000 w h2.lst)
  obtain ⟨a2, cap2, rfl, hl2, _, _, _⟩ := h2.at_
  clear h2
  unfold maxLen at hl hl2
  by_cases hlen : st.length = n
  · rw [decide_eq_true hlen]
    rw [hlen] at hQ ⊢
    clear hlen hl2
    go_enter Try.func41, Try.ntmps41
    go_wp2_with fail
    refine (hQ.out).mono ?_
    rintro e w1 ⟨rfl, rfl⟩
    go_wp2_with fail
    go_ret
    exact ⟨0, by simp, rfl⟩
  · rw [decide_eq_false hlen]
    have hne : ((st.length : Int) == (n : Int)) = false := by simp; omega
    clear hQ hlen
    go_enter Try.func41, Try.ntmps41
    go_wp2_with fail
    go_ret
    exact ⟨0, by simp, rfl⟩

set_option maxHeartbeats 1000000 in
set_option maxRecDepth 100000 in
theorem effortOf_any (t n : Int) (vb vl : Value) (ab al : Option Addr) (n1 n2 c1 c2 : Nat) (hb : vb = .slice ab n1 c1) (hl : vl = .slice al n2 c2) (w : World) : Calls Try.prog 34 #[.agg #[.int .i64 t, .int .i64 n, vb, vl]] w fun e w' => e = .returned (.agg #[.int .i64 t, .int .i64 n]) ∧ Below w.heap.size w w' := by
  subst hb hl
  go_enter Try.func34, Try.ntmps34
  go_wp2
  refine bodyPost_ret (v := .agg #[.int .i64 t, .int .i64 n]) (by simp [results, Try.results34, go_sem]) rfl ⟨rfl, by repeat (first | exact Below.refl _ _ | refine below_alloc ?_ _)⟩
set_option maxHeartbeats 1000000 in
theorem work_any (t n : Int) (w : World) (hw : IntKind.i64.wrap (t * n) = t * n) : Calls Try.prog 75 #[.agg #[.int .i64 t, .int .i64 n]] w fun e w' => e = .returned (.int .i64 (t * n)) ∧ Below w.heap.size w w' := by
  go_enter Try.func75, Try.ntmps75
  go_wp2
  go_ret
  exact ⟨rfl, by repeat (first | exact Below.refl _ _ | refine below_alloc ?_ _)⟩
set_option maxHeartbeats 4000000 in
theorem allWork_any (B : Nat) (v : Value) (xs : List TaskD) (w : World) (h : LstTask B w v xs) (hB : B ≤ w.heap.size) (hT : AreT xs) :
    Calls Try.prog 58 #[v] w fun e w' => e = .returned (.int .i64 (workTo xs xs.length)) ∧ Below w.heap.size w w' := by
  obtain ⟨a, c1, rfl, hm, _, _, hc⟩ := h.at_
  have hC := Lib.hid hc
  have hS : Hid (∀ k x, xs[k]? = some x → workTo xs (k + 1) = workTo xs k + x.Time * x.Needs ∧ 0 ≤ x.Time * x.Needs ∧ x.Time * x.Needs ≤ 2000) := Lib.hid fun k x hx => by
    have := workAt_bound (hT.each k x hx)
    unfold workAt at this
    exact ⟨by simp only [workTo]; rw [getD_some hx]; rfl, this.1, this.2⟩
  have hBd : Hid (∀ k : Nat, k ≤ xs.length → 0 ≤ workTo xs k ∧ workTo xs k ≤ 2000 * (k : Int)) := Lib.hid (workTo_bound hT)
  have hE : Hid (∀ j, j = xs.length → workTo xs xs.length = workTo xs j) := Lib.hid fun j hj => by rw [hj]
  have hm1 : xs.length ≤ 16 := hT.most
  have h0 : Hid (workTo xs 0 = 0) := Lib.hid rfl
  clear hc h hT
  generalize workTo xs xs.length = res at *
  generalize xs.length = n at *
  go_enter Try.func58, Try.ntmps58
  go_wp2_with fail
  go_loopw [3, 8] (fun z i wr => ∃ (j : Nat) (y : Int), j ≤ n ∧ i = .int .i64 j ∧ z = .int .i64 y ∧ Hid (y = workTo xs j) ∧ Hid (Below w.heap.size w wr)) (fun _ i _ => n - (intOf i).toNat)
  case atStart => exact ⟨0, 0, Nat.zero_le _, rfl, rfl, Lib.hid h0.out.symm, Lib.hid (Below.refl _ _)⟩
  case round =>
    obtain ⟨j, y, hj, rfl, rfl, hy, hB1⟩ := hrel
    by_cases hlt : j < n
    · obtain ⟨b, o, x, vb, vl, rfl, hbB, hx, e0, e1, e2, e3, l0, l1⟩ := hC.out j hlt
      have hyb := hBd.out j hj
      rw [← hy.out] at hyb
      have hs := hS.out j x hx
      have hnext := Lib.hid (show y + x.Time * x.Needs = workTo xs (j + 1) by rw [hs.1, hy.out])
      obtain ⟨y1, y2⟩ := hyb
      obtain ⟨_, p1, p2⟩ := hs
      obtain ⟨ab, nb, rfl, _⟩ := id l0
      obtain ⟨al, nl, rfl, _⟩ := id l1
      rw [← hB1.out.cell (p := ⟨b, o + j * 4, none⟩) (show b < w.heap.size by omega)] at e0
      rw [← hB1.out.cell (p := ⟨b, o + j * 4 + 1, none⟩) (show b < w.heap.size by omega)] at e1
      rw [← hB1.out.cell (p := ⟨b, o + j * 4 + 2, none⟩) (show b < w.heap.size by omega)] at e2
      rw [← hB1.out.cell (p := ⟨b, o + j * 4 + 3, none⟩) (show b < w.heap.size by omega)] at e3
      clear l0 l1 hx
      have hw1 : IntKind.i64.wrap (x.Time * x.Needs) = x.Time * x.Needs := IntWalk.i64_in _ (by omega)
      have hw2 : IntKind.i64.wrap (y + x.Time * x.Needs) = y + x.Time * x.Needs := IntWalk.i64_in _ (by omega)
      have hW1 := Lib.hid hw1
      have hW2 := Lib.hid hw2
      have hjI : (j : Int) < n := by omega
      clear hw1 hw2
      go_wp2_with fail
      generalize hw3 : World.alloc wr _ = w3
      have hB3 := Lib.hid (show Below w.heap.size w w3 by rw [← hw3]; exact below_alloc hB1.out _)
      clear hw3 hB1 e0 e1 e2 e3
      refine (effortOf_any _ _ _ _ _ _ _ _ _ _ rfl rfl w3).mono ?_
      rintro r w4 ⟨rfl, hb4⟩
      have hB4 := Lib.hid (below_on hB3.out (Nat.le_refl _) hb4)
      clear hb4 hB3
      go_wp2_with fail
      refine (work_any _ _ w4 hW1.out).mono ?_
      rintro r w5 ⟨rfl, hb5⟩
      have hB5 := Lib.hid (below_on hB4.out (Nat.le_refl _) hb5)
      clear hb5 hB4
      have hw2 := hW2.out
      go_wp2_with fail
      go_roundw
      case rel => exact ⟨j + 1, _, by omega, by go_num, rfl, hnext, hB5⟩
      case measure => simp [intOf]; omega
    · have hF := Lib.hid (show y = res by rw [hy.out, hE.out j (by omega)])
      go_wp2_with fail
      go_ret
      exact ⟨ret_int hF.out, hB1.out⟩


end Go.Proofs.Ytbjbllkolekmpaa
