/- Contracts: ProgressOf, in the model and in the program. -/
import Derived.Test.YtlgojbbhjhifhabEarly3
namespace Go.Proofs.Ytlgojbbhjhifhab
open Go.RowKit Go.Lst

/-- Starts for tasks. -/
def startsOk (xs : List TaskD) (st : List Int) : Bool := areTasks xs && decide (st.length = xs.length) && allIn st 0 100000
theorem startsOk_1 {xs : List TaskD} {st : List Int} (h : areTasks xs = false) : startsOk xs st = false := by simp [startsOk, h]
theorem startsOk_2 {xs : List TaskD} {st : List Int} (h : st.length ≠ xs.length) : startsOk xs st = false := by simp [startsOk, h]
theorem startsOk_3 {xs : List TaskD} {st : List Int} (h : allIn st 0 100000 = false) : startsOk xs st = false := by simp [startsOk, h]
theorem startsOk_of {xs : List TaskD} {st : List Int} (h : startsOk xs st = true) : areTasks xs = true ∧ st.length = xs.length ∧ allIn st 0 100000 = true := by
  simp only [startsOk, Bool.and_eq_true, decide_eq_true_eq] at h
  exact ⟨h.1.1, h.1.2, h.2⟩
theorem startsOk_mk {xs : List TaskD} {st : List Int} (h1 : areTasks xs = true) (h2 : st.length = xs.length) (h3 : allIn st 0 100000 = true) : startsOk xs st = true := by simp [startsOk, h1, h2, h3]
theorem starts_bnd {st : List Int} (h : allIn st 0 100000 = true) : Bnd 0 100000 st := fun k => by
  by_cases hk : k < st.length
  · have e := getD_get hk
    exact allIn_of h e
  · rw [List.getD_eq_getElem?_getD, List.getElem?_eq_none (by omega)]
    exact ⟨Int.le_refl _, by decide⟩
def workAt (x : TaskD) : Int := x.Time * x.Needs
def workTo (xs : List TaskD) : Nat → Int
  | 0 => 0
  | k + 1 => workTo xs k + workAt (xs.getD k default)
def doneAt (x : TaskD) (s t : Int) : Int := x.Needs * max 0 (min x.Time (t - s))
def doneTo (xs : List TaskD) (st : List Int) (t : Int) : Nat → Int
  | 0 => 0
  | k + 1 => doneTo xs st t k + doneAt (xs.getD k default) (st.getD k 0) t
theorem mul_le_mul20 {a b : Int} (h1 : 0 ≤ a) (h2 : a ≤ 100) (h3 : 0 ≤ b) (h4 : b ≤ 20) : 0 ≤ a * b ∧ a * b ≤ 2000 := by
  have := Int.mul_le_mul h2 h4 h3 (by omega)
  exact ⟨Int.mul_nonneg h1 h3, by omega⟩
theorem workAt_bound {x : TaskD} {i : Int} (h : OkTask x i) : 0 ≤ workAt x ∧ workAt x ≤ 2000 := mul_le_mul20 h.time.1 h.time.2 h.needs.1 h.needs.2
theorem doneAt_bound {x : TaskD} {i : Int} (h : OkTask x i) (s t : Int) : 0 ≤ doneAt x s t ∧ doneAt x s t ≤ 2000 := by
  have := mul_le_mul20 (a := max 0 (min x.Time (t - s))) (b := x.Needs) (by omega) (by have := h.time; omega) h.needs.1 h.needs.2
  unfold doneAt
  rw [Int.mul_comm]
  exact this
theorem workTo_bound {xs : List TaskD} (h : AreT xs) : ∀ k : Nat, k ≤ xs.length → 0 ≤ workTo xs k ∧ workTo xs k ≤ 2000 * (k : Int)
  | 0, _ => by simp [workTo]
  | k + 1, hk => by
    have h1 := workTo_bound h k (by omega)
    have e : xs[k]? = some (xs[k]'(by omega)) := List.getElem?_eq_getElem _
    have h2 := workAt_bound (h.each k _ e)
    simp only [workTo]
    rw [getD_some e]
    omega
theorem doneTo_bound {xs : List TaskD} (h : AreT xs) (st : List Int) (t : Int) : ∀ k : Nat, k ≤ xs.length → 0 ≤ doneTo xs st t k ∧ doneTo xs st t k ≤ 2000 * (k : Int)
  | 0, _ => by simp [doneTo]
  | k + 1, hk => by
    have h1 := doneTo_bound h st t k (by omega)
    have e : xs[k]? = some (xs[k]'(by omega)) := List.getElem?_eq_getElem _
    have h2 := doneAt_bound (h.each k _ e) (st.getD k 0) t
    simp only [doneTo]
    rw [getD_some e]
    omega

set_option maxHeartbeats 2000000 in
theorem l03Starts_any (B : Nat) (v1 v2 : Value) (xs : List TaskD) (st : List Int) (w : World) (h1 : LstTask B w v1 xs) (h2 : LstI B w v2 st) :
    Calls Try.prog 59 #[v1, v2] w (Ret (.bool (startsOk xs st)) w) := by
  have hA := Lib.hid (l03Are_any B v1 xs w h1)
  obtain ⟨a, cap, rfl, hl, _⟩ := h1
  obtain ⟨a2, cap2, rfl, hl2, _, _, hc2⟩ := h2.at_
  cases hq : areTasks xs
  · rw [hq] at hA
    have hF := Lib.hid (startsOk_1 (st := st) hq)
    clear hq hc2 h2
    go_enter Try.func59, Try.ntmps59
    go_wp2_with fail
    refine (hA.out).mono ?_
    rintro e w1 ⟨m, rfl, rfl⟩
    go_wp2_with fail
    go_ret
    exact ⟨m, ret_bool (by rw [hF.out]), rfl⟩
  rw [hq] at hA
  by_cases hlen : st.length = xs.length
  case neg =>
    have hF := Lib.hid (startsOk_2 hlen)
    have hne : ((st.length : Int) != (xs.length : Int)) = true := by simp; omega
    clear hq hc2 h2 hlen
    unfold maxLen at hl hl2
    go_enter Try.func59, Try.ntmps59
    go_wp2_with fail
    refine (hA.out).mono ?_
    rintro e w1 ⟨m, rfl, rfl⟩
    go_wp2_with fail
    go_ret
    exact ⟨m, ret_bool (by rw [hF.out]), rfl⟩
  have hYes : Hid (∀ k, k = st.length → (∀ i x, i < k → st[i]? = some x → inB x 0 100000 = true) → startsOk xs st = true) := Lib.hid fun k hk hp => startsOk_mk hq hlen (all_upto fun i x hi hx => hp i x (by omega) hx)
  have hNo : Hid (∀ (i : Nat) (x : Int), st[i]? = some x → inB x 0 100000 = false → startsOk xs st = false) := Lib.hid fun i x hx h => startsOk_3 (all_not hx h)
  have hC := Lib.hid hc2
  rw [← hlen]
  rw [← hlen] at hA
  clear hc2 h2 hq hlen hl
  generalize st.length = n at *
  unfold maxLen at hl2
  go_enter Try.func59, Try.ntmps59
  go_wp2_with fail
  refine (hA.out).mono ?_
  rintro e w1 ⟨m0, rfl, rfl⟩
  go_wp2_with fail
  go_loopw [18] (fun i wr => ∃ k m : Nat, k ≤ n ∧ i = .int .i64 k ∧ Hid (∀ i x, i < k → st[i]? = some x → inB x 0 100000 = true) ∧ wr = w.drewN m) (fun i _ => n - (intOf i).toNat)
  case atStart => exact ⟨0, m0, Nat.zero_le _, rfl, Lib.hid (fun i x hi _ => by omega), rfl⟩
  case round =>
    obtain ⟨k, m, hk, rfl, hP, rfl⟩ := hrel
    by_cases hlt : k < n
    · obtain ⟨b, o, x, rfl, _, hx, hcell⟩ := hC.out k hlt
      have hXx := Lib.hid hx
      clear hx
      rw [← World.cell?_drewN (n := m)] at hcell
      generalize hwo : w.drewN m = wo at *
      have hWo := Lib.hid hwo
      clear hwo
      cases hr : inB x 0 100000
      · have hF := Lib.hid (hNo.out k x hXx.out hr)
        go_wp2_with (go_at_call 60; refine (l00In_any _ _ _ _).mono ?_; rintro e w' ⟨rfl, rfl⟩)
        go_ret
        exact ⟨m, ret_bool (by rw [hF.out]), hWo.out.symm⟩
      · have hP2 : Hid (∀ i y, i < k + 1 → st[i]? = some y → inB y 0 100000 = true) := Lib.hid fun i y hi hy => by
          by_cases h1 : i < k
          · exact hP.out i y h1 hy
          · have : i = k := by omega
            subst this
            rw [hXx.out] at hy
            cases hy
            exact hr
        go_wp2_with (go_at_call 60; refine (l00In_any _ _ _ _).mono ?_; rintro e w' ⟨rfl, rfl⟩)
        go_roundw
        case rel => exact ⟨k + 1, m, by omega, by go_num, hP2, hWo.out.symm⟩
        case measure => simp [intOf]; omega
    · have hF := Lib.hid (hYes.out k (by omega) hP.out)
      go_wp2_with fail
      go_ret
      exact ⟨m, ret_bool (by rw [hF.out]), rfl⟩

set_option maxHeartbeats 1000000 in
theorem areStarts_any (B : Nat) (a : Option Addr) (n cap : Nat) (v2 : Value) (st : List Int) (w : World) (h2 : LstI B w v2 st) (hl : n ≤ maxLen) :
    Calls Try.prog 65 #[.slice a n cap, v2] w (Ret (.bool (decide (st.length = n) && allIn st 0 100000)) w) := by
  have hQ := Lib.hid (areWithin_any B v2 st 0 100000 w h2.lst)
  obtain ⟨a2, cap2, rfl, hl2, _, _, _⟩ := h2.at_
  clear h2
  unfold maxLen at hl hl2
  by_cases hlen : st.length = n
  · rw [decide_eq_true hlen]
    rw [hlen] at hQ ⊢
    clear hlen hl2
    go_enter Try.func65, Try.ntmps65
    go_wp2_with fail
    refine (hQ.out).mono ?_
    rintro e w1 ⟨rfl, rfl⟩
    go_wp2_with fail
    go_ret
    exact ⟨0, by simp, rfl⟩
  · rw [decide_eq_false hlen]
    have hne : ((st.length : Int) == (n : Int)) = false := by simp; omega
    clear hQ hlen
    go_enter Try.func65, Try.ntmps65
    go_wp2_with fail
    go_ret
    exact ⟨0, by simp, rfl⟩

set_option maxHeartbeats 1000000 in
set_option maxRecDepth 100000 in
theorem effortOf_any (t n : Int) (vb vl : Value) (ab al : Option Addr) (n1 n2 c1 c2 : Nat) (hb : vb = .slice ab n1 c1) (hl : vl = .slice al n2 c2) (w : World) : Calls Try.prog 122 #[.agg #[.int .i64 t, .int .i64 n, vb, vl]] w fun e w' => e = .returned (.agg #[.int .i64 t, .int .i64 n]) ∧ Below w.heap.size w w' := by
  subst hb hl
  go_enter Try.func122, Try.ntmps122
  go_wp2
  refine bodyPost_ret (v := .agg #[.int .i64 t, .int .i64 n]) (by simp [results, Try.results122, go_sem]) rfl ⟨rfl, by repeat (first | exact Below.refl _ _ | refine below_alloc ?_ _)⟩
set_option maxHeartbeats 1000000 in
theorem work_any (t n : Int) (w : World) (hw : IntKind.i64.wrap (t * n) = t * n) : Calls Try.prog 123 #[.agg #[.int .i64 t, .int .i64 n]] w fun e w' => e = .returned (.int .i64 (t * n)) ∧ Below w.heap.size w w' := by
  go_enter Try.func123, Try.ntmps123
  go_wp2
  go_ret
  exact ⟨rfl, by repeat (first | exact Below.refl _ _ | refine below_alloc ?_ _)⟩
set_option maxHeartbeats 4000000 in
theorem allWork_any (B : Nat) (v : Value) (xs : List TaskD) (w : World) (h : LstTask B w v xs) (hB : B ≤ w.heap.size) (hT : AreT xs) :
    Calls Try.prog 67 #[v] w fun e w' => e = .returned (.int .i64 (workTo xs xs.length)) ∧ Below w.heap.size w w' := by
  obtain ⟨a, c1, rfl, hm, _, _, hc⟩ := h.at_
  have hC := Lib.hid hc
  have hS : Hid (∀ k x, xs[k]? = some x → workTo xs (k + 1) = workTo xs k + x.Time * x.Needs ∧ 0 ≤ x.Time * x.Needs ∧ x.Time * x.Needs ≤ 2000) := Lib.hid fun k x hx => by
    have := workAt_bound (hT.each k x hx)
    unfold workAt at this
    exact ⟨by simp only [workTo]; rw [getD_some hx]; rfl, this.1, this.2⟩
  have hBd : Hid (∀ k : Nat, k ≤ xs.length → 0 ≤ workTo xs k ∧ workTo xs k ≤ 2000 * (k : Int)) := Lib.hid (workTo_bound hT)
  have hE : Hid (∀ j, j = xs.length → workTo xs xs.length = workTo xs j) := Lib.hid fun j hj => by rw [hj]
  have hm1 : xs.length ≤ 16 := hT.most
  have h0 : Hid (workTo xs 0 = 0) := Lib.hid rfl
  clear hc h hT
  generalize workTo xs xs.length = res at *
  generalize xs.length = n at *
  go_enter Try.func67, Try.ntmps67
  go_wp2_with fail
  go_loopw [3, 8] (fun z i wr => ∃ (j : Nat) (y : Int), j ≤ n ∧ i = .int .i64 j ∧ z = .int .i64 y ∧ Hid (y = workTo xs j) ∧ Hid (Below w.heap.size w wr)) (fun _ i _ => n - (intOf i).toNat)
  case atStart => exact ⟨0, 0, Nat.zero_le _, rfl, rfl, Lib.hid h0.out.symm, Lib.hid (Below.refl _ _)⟩
  case round =>
    obtain ⟨j, y, hj, rfl, rfl, hy, hB1⟩ := hrel
    by_cases hlt : j < n
    · obtain ⟨b, o, x, vb, vl, rfl, hbB, hx, e0, e1, e2, e3, l0, l1⟩ := hC.out j hlt
      have hyb := hBd.out j hj
      rw [← hy.out] at hyb
      have hs := hS.out j x hx
      have hnext := Lib.hid (show y + x.Time * x.Needs = workTo xs (j + 1) by rw [hs.1, hy.out])
      obtain ⟨y1, y2⟩ := hyb
      obtain ⟨_, p1, p2⟩ := hs
      obtain ⟨ab, nb, rfl, _⟩ := id l0
      obtain ⟨al, nl, rfl, _⟩ := id l1
      rw [← hB1.out.cell (p := ⟨b, o + j * 4, none⟩) (show b < w.heap.size by omega)] at e0
      rw [← hB1.out.cell (p := ⟨b, o + j * 4 + 1, none⟩) (show b < w.heap.size by omega)] at e1
      rw [← hB1.out.cell (p := ⟨b, o + j * 4 + 2, none⟩) (show b < w.heap.size by omega)] at e2
      rw [← hB1.out.cell (p := ⟨b, o + j * 4 + 3, none⟩) (show b < w.heap.size by omega)] at e3
      clear l0 l1 hx
      have hw1 : IntKind.i64.wrap (x.Time * x.Needs) = x.Time * x.Needs := IntWalk.i64_in _ (by omega)
      have hw2 : IntKind.i64.wrap (y + x.Time * x.Needs) = y + x.Time * x.Needs := IntWalk.i64_in _ (by omega)
      have hW1 := Lib.hid hw1
      have hW2 := Lib.hid hw2
      have hjI : (j : Int) < n := by omega
      clear hw1 hw2
      go_wp2_with fail
      generalize hw3 : World.alloc wr _ = w3
      have hB3 := Lib.hid (show Below w.heap.size w w3 by rw [← hw3]; exact below_alloc hB1.out _)
      clear hw3 hB1 e0 e1 e2 e3
      refine (effortOf_any _ _ _ _ _ _ _ _ _ _ rfl rfl w3).mono ?_
      rintro r w4 ⟨rfl, hb4⟩
      have hB4 := Lib.hid (below_on hB3.out (Nat.le_refl _) hb4)
      clear hb4 hB3
      go_wp2_with fail
      refine (work_any _ _ w4 hW1.out).mono ?_
      rintro r w5 ⟨rfl, hb5⟩
      have hB5 := Lib.hid (below_on hB4.out (Nat.le_refl _) hb5)
      clear hb5 hB4
      have hw2 := hW2.out
      go_wp2_with fail
      go_roundw
      case rel => exact ⟨j + 1, _, by omega, by go_num, rfl, hnext, hB5⟩
      case measure => simp [intOf]; omega
    · have hF := Lib.hid (show y = res by rw [hy.out, hE.out j (by omega)])
      go_wp2_with fail
      go_ret
      exact ⟨ret_int hF.out, hB1.out⟩

set_option maxHeartbeats 400000 in
theorem least_any (a b : Int) (w : World) : Calls Try.prog 62 #[.int .i64 a, .int .i64 b] w fun e w' => e = .returned (.int .i64 (min a b)) ∧ w = w' := by
  by_cases h : a < b
  · have hv : min a b = a := by omega
    rw [hv]
    go_enter Try.func62, Try.ntmps62
    go_wp2
    go_ret
    exact ⟨rfl, rfl⟩
  · have hv : min a b = b := by omega
    rw [hv]
    go_enter Try.func62, Try.ntmps62
    go_wp2
    go_ret
    exact ⟨rfl, rfl⟩
theorem least_eq (a b : Int) : (if b < a then b else a) = min a b := by split <;> omega
def progOk (xs : List TaskD) (st : List Int) (t : Int) : Bool := startsOk xs st && inB t 0 100000
def progDone (xs : List TaskD) (st : List Int) (t : Int) : Int := if progOk xs st t then doneTo xs st t xs.length else 0
def progAll (xs : List TaskD) (st : List Int) (t : Int) : Int := if progOk xs st t then workTo xs xs.length else 0
def ProgPost (xs : List TaskD) (st : List Int) (t : Int) (w : World) (e : Ending) (w' : World) : Prop := e = .returned (.tuple #[.int .i64 (progDone xs st t), .int .i64 (progAll xs st t), .bool (progOk xs st t)]) ∧ Below w.heap.size w w'
theorem prog_no {xs : List TaskD} {st : List Int} {t : Int} {w w' : World} (h : progOk xs st t = false) (hb : Below w.heap.size w w') : ProgPost xs st t w (.returned (.tuple #[.int .i64 0, .int .i64 0, .bool false])) w' := by
  refine ⟨?_, hb⟩
  unfold progDone progAll
  rw [h]; rfl
theorem prog_yes {xs : List TaskD} {st : List Int} {t a b : Int} {w w' : World} (h : progOk xs st t = true) (ha : a = doneTo xs st t xs.length) (hc : b = workTo xs xs.length) (hb : Below w.heap.size w w') : ProgPost xs st t w (.returned (.tuple #[.int .i64 a, .int .i64 b, .bool true])) w' := by
  refine ⟨?_, hb⟩
  unfold progDone progAll
  rw [h, ha, hc]; rfl
/-- What lies at place k, of tasks and starts. -/
theorem prog_cells {B : Nat} {w : World} {v1 v2 : Value} {xs : List TaskD} {st : List Int} (t : Int) (h1 : LstTask B w v1 xs) (h2 : LstI B w v2 st) (hT : AreT xs) (hl : st.length = xs.length) (hs : allIn st 0 100000 = true) :
    ∃ (a a2 : Option Addr) (c1 c2 : Nat), v1 = .slice a xs.length c1 ∧ v2 = .slice a2 xs.length c2 ∧ ∀ k, k < xs.length → ∃ (b o b2 o2 : Nat) (x : TaskD) (vb vl : Value) (s : Int), a = some ⟨b, o, none⟩ ∧ a2 = some ⟨b2, o2, none⟩ ∧ b < B ∧ b2 < B ∧
      w.cell? ⟨b, o + k * 4, none⟩ = some (.int .i64 x.Time) ∧ w.cell? ⟨b, o + k * 4 + 1, none⟩ = some (.int .i64 x.Needs) ∧ w.cell? ⟨b, o + k * 4 + 2, none⟩ = some vb ∧ w.cell? ⟨b, o + k * 4 + 3, none⟩ = some vl ∧ (∃ a n c, vb = .slice a n c) ∧ (∃ a n c, vl = .slice a n c) ∧
      w.cell? ⟨b2, o2 + k, none⟩ = some (.int .i64 s) ∧ 0 ≤ s ∧ s ≤ 100000 ∧ 0 ≤ x.Time ∧ x.Time ≤ 100 ∧ 0 ≤ x.Needs ∧ x.Needs ≤ 20 ∧ workTo xs (k + 1) = workTo xs k + x.Time * x.Needs ∧ 0 ≤ x.Time * x.Needs ∧ x.Time * x.Needs ≤ 2000 ∧
      doneTo xs st t (k + 1) = doneTo xs st t k + x.Needs * max 0 (min x.Time (t - s)) ∧ 0 ≤ x.Needs * max 0 (min x.Time (t - s)) ∧ x.Needs * max 0 (min x.Time (t - s)) ≤ 2000 := by
  obtain ⟨a, c1, rfl, _, _, _, hc⟩ := h1.at_
  obtain ⟨a2, c2, rfl, _, _, _, hc2⟩ := h2.at_
  refine ⟨a, a2, c1, c2, rfl, by rw [hl], fun k hk => ?_⟩
  obtain ⟨b, o, x, vb, vl, rfl, hb, hx, e0, e1, e2, e3, l0, l1⟩ := hc k hk
  obtain ⟨b2, o2, s, rfl, hb2, hs', e4⟩ := hc2 k (by omega)
  obtain ⟨a5, c5, rfl, _⟩ := l0
  obtain ⟨a6, c6, rfl, _⟩ := l1
  have hok := hT.each k x hx
  have hsb := allIn_of hs hs'
  have hw := workAt_bound hok
  have hd := doneAt_bound hok s t
  unfold workAt at hw
  unfold doneAt at hd
  refine ⟨b, o, b2, o2, x, _, _, s, rfl, rfl, hb, hb2, e0, e1, e2, e3, ⟨_, _, _, rfl⟩, ⟨_, _, _, rfl⟩, e4, hsb.1, hsb.2, hok.time.1, hok.time.2, hok.needs.1, hok.needs.2, ?_, hw.1, hw.2, ?_, hd.1, hd.2⟩
  · simp only [workTo]; rw [getD_some hx]; rfl
  · simp only [doneTo]; rw [getD_some hx, getD_some hs']; rfl

set_option maxHeartbeats 4000000 in
theorem specProgressOf_any (B : Nat) (v1 v2 : Value) (xs : List TaskD) (st : List Int) (t : Int) (w : World) (h1 : LstTask B w v1 xs) (h2 : LstI B w v2 st) (hB : B ≤ w.heap.size) : Calls Try.prog 21 #[v1, v2, .int .i64 t] w (ProgPost xs st t w) := by
  have hA := Lib.hid (l03Starts_any B v1 v2 xs st w h1 h2)
  have hNo : Hid (progOk xs st t = false → ∀ w', Below w.heap.size w w' → ProgPost xs st t w (.returned (.tuple #[.int .i64 0, .int .i64 0, .bool false])) w') := Lib.hid fun h w' hb => prog_no h hb
  have hYes : Hid (progOk xs st t = true → ∀ a b w', a = doneTo xs st t xs.length → b = workTo xs xs.length → Below w.heap.size w w' → ProgPost xs st t w (.returned (.tuple #[.int .i64 a, .int .i64 b, .bool true])) w') := Lib.hid fun h a b w' ha hc hb => prog_yes h ha hc hb
  cases hq : startsOk xs st
  · have hF := Lib.hid (show progOk xs st t = false by simp [progOk, hq])
    rw [hq] at hA
    obtain ⟨a, cap, rfl, _⟩ := h1
    obtain ⟨a2, cap2, rfl, _⟩ := h2
    generalize ProgPost xs st t w = POST at *
    clear hq
    go_enter Try.func21, Try.ntmps21
    go_wp2_with fail
    refine (hA.out).mono ?_
    rintro e w1 ⟨m, rfl, rfl⟩
    go_wp2_with fail
    go_ret3
    exact hNo.out hF.out _ (below_drawn _ _)
  rw [hq] at hA
  cases hr : inB t 0 100000
  · have hF := Lib.hid (show progOk xs st t = false by simp [progOk, hr])
    obtain ⟨a, cap, rfl, _⟩ := h1
    obtain ⟨a2, cap2, rfl, _⟩ := h2
    generalize ProgPost xs st t w = POST at *
    clear hq
    go_enter Try.func21, Try.ntmps21
    go_wp2_with fail
    refine (hA.out).mono ?_
    rintro e w1 ⟨m, rfl, rfl⟩
    go_wp2_with (go_at_call 60; refine (l00In_any _ _ _ _).mono ?_; rintro e w' ⟨rfl, rfl⟩)
    go_ret3
    exact hNo.out hF.out _ (below_drawn _ _)
  have hF := Lib.hid (show progOk xs st t = true by simp [progOk, hq, hr])
  obtain ⟨h3, h4, h5⟩ := startsOk_of hq
  have hT := areTasks_iff.1 h3
  obtain ⟨a, a2, c1, c2, rfl, rfl, hcells⟩ := prog_cells t h1 h2 hT h4 h5
  have hC := Lib.hid hcells
  have hW := Lib.hid (workTo_bound hT)
  have hD := Lib.hid (doneTo_bound hT st t)
  have hm : xs.length ≤ 16 := hT.most
  obtain ⟨t1, t2⟩ := inB_true hr
  have hN := Lib.hid (show xs.length = xs.length from rfl)
  have hw0 : Hid (workTo xs 0 = 0) := Lib.hid rfl
  have hd0 : Hid (doneTo xs st t 0 = 0) := Lib.hid rfl
  generalize ProgPost xs st t w = POST at *
  clear hcells h1 h2 hT h3 h4 h5 hq hNo
  generalize hnn : xs.length = n at *
  clear hnn
  go_enter Try.func21, Try.ntmps21
  go_wp2_with fail
  refine (hA.out).mono ?_
  rintro e w1 ⟨m0, rfl, rfl⟩
  go_wp2_with (go_at_call 60; refine (l00In_any _ _ _ _).mono ?_; rintro e w' ⟨rfl, rfl⟩)
  clear hr
  go_loopw [9, 10, 23] (fun z q i wr => ∃ (k m : Nat) (y1 y2 : Int), k ≤ n ∧ i = .int .i64 k ∧ z = .int .i64 y1 ∧ q = .int .i64 y2 ∧ Hid (y1 = doneTo xs st t k) ∧ Hid (y2 = workTo xs k) ∧ wr = w.drewN m) (fun _ _ i _ => n - (intOf i).toNat)
  case atStart => exact ⟨0, m0, 0, 0, Nat.zero_le _, rfl, rfl, rfl, Lib.hid hd0.out.symm, Lib.hid hw0.out.symm, rfl⟩
  case round =>
    obtain ⟨k, m, y1, y2, hk, rfl, rfl, rfl, hy1, hy2, rfl⟩ := hrel
    by_cases hlt : k < n
    · obtain ⟨b, o, b2, o2, x, vb, vl, s, rfl, rfl, _, _, e0, e1, _, _, _, _, e4, s1, s2, x1, x2, n1, n2, hw, p1, p2, hd, q1, q2⟩ := hC.out k hlt
      have hb1 := hD.out k hk
      have hb2 := hW.out k hk
      rw [← hy1.out] at hb1
      rw [← hy2.out] at hb2
      obtain ⟨b11, b12⟩ := hb1
      obtain ⟨b21, b22⟩ := hb2
      have hn1 := Lib.hid (show y1 + x.Needs * max 0 (min x.Time (t - s)) = doneTo xs st t (k + 1) by rw [hd, hy1.out])
      have hn2 := Lib.hid (show y2 + x.Time * x.Needs = workTo xs (k + 1) by rw [hw, hy2.out])
      rw [← World.cell?_drewN (n := m)] at e0 e1 e4
      generalize hwo : w.drewN m = wo at *
      have hWo := Lib.hid hwo
      have hkI : (k : Int) < n := by omega
      have hw1 : IntKind.i64.wrap (x.Time * x.Needs) = x.Time * x.Needs := IntWalk.i64_in _ (by omega)
      have hw2 : IntKind.i64.wrap (y2 + x.Time * x.Needs) = y2 + x.Time * x.Needs := IntWalk.i64_in _ (by omega)
      have hw3 : IntKind.i64.wrap (t - s) = t - s := IntWalk.i64_in _ (by omega)
      have hw4 : IntKind.i64.wrap (x.Needs * max 0 (min x.Time (t - s))) = x.Needs * max 0 (min x.Time (t - s)) := IntWalk.i64_in _ (by omega)
      have hw5 : IntKind.i64.wrap (y1 + x.Needs * max 0 (min x.Time (t - s))) = y1 + x.Needs * max 0 (min x.Time (t - s)) := IntWalk.i64_in _ (by omega)
      clear hwo hw hd hy1 hy2
      go_wp2_with fail
      go_quiet (fail)
      go_wp2_with fail
      generalize hwp : World.drewN wo _ = wp
      have hWp := Lib.hid (show Below wo.heap.size wo wp ∧ ∃ q, wp = wo.drewN q from ⟨by rw [← hwp]; exact below_drawn _ _, ⟨_, hwp.symm⟩⟩)
      have f0 : wp.cell? ⟨b, o + k * 4, none⟩ = some (.int .i64 x.Time) := by rw [← hwp]; exact e0
      have f1 : wp.cell? ⟨b, o + k * 4 + 1, none⟩ = some (.int .i64 x.Needs) := by rw [← hwp]; exact e1
      have f4 : wp.cell? ⟨b2, o2 + k, none⟩ = some (.int .i64 s) := by rw [← hwp]; exact e4
      clear hwp e0 e1 e4
      go_quiet ((first | (go_at_call 61; exact Ret.quiet (Ret.same (l00Max_any _ _ _))) | (go_at_call 62; exact Ret.quiet (Ret.same (least_any _ _ _)))))
      go_wp2_with fail
      go_roundw
      case rel =>
        obtain ⟨_, q, hq⟩ := hWp.out
        exact ⟨k + 1, _, _, _, by omega, by go_num, rfl, rfl, hn1, hn2, by rw [hq, ← hWo.out, World.drewN_drewN, World.drewN_drewN]⟩
      case measure => simp [intOf]; omega
    · have hE1 := Lib.hid (show y1 = doneTo xs st t n by rw [hy1.out, show k = n by omega])
      have hE2 := Lib.hid (show y2 = workTo xs n by rw [hy2.out, show k = n by omega])
      have hB2 := Lib.hid (below_drawn w m)
      generalize w.drewN m = wo at *
      go_wp2_with fail
      go_ret3
      exact hYes.out hF.out _ _ _ hE1.out hE2.out hB2.out

set_option maxHeartbeats 4000000 in
theorem implProgressOf_any (B : Nat) (v1 v2 : Value) (xs : List TaskD) (st : List Int) (t : Int) (w : World) (h1 : LstTask B w v1 xs) (h2 : LstI B w v2 st) (hB : B ≤ w.heap.size) : Calls Try.prog 24 #[v1, v2, .int .i64 t] w (ProgPost xs st t w) := by
  have hA := Lib.hid (areTasks_any B v1 xs w h1 hB)
  have hNo : Hid (progOk xs st t = false → ∀ w', Below w.heap.size w w' → ProgPost xs st t w (.returned (.tuple #[.int .i64 0, .int .i64 0, .bool false])) w') := Lib.hid fun h w' hb => prog_no h hb
  have hYes : Hid (progOk xs st t = true → ∀ a b w', a = doneTo xs st t xs.length → b = workTo xs xs.length → Below w.heap.size w w' → ProgPost xs st t w (.returned (.tuple #[.int .i64 a, .int .i64 b, .bool true])) w') := Lib.hid fun h a b w' ha hc hb => prog_yes h ha hc hb
  have hL1 := Lib.hid h1
  have hL2 := Lib.hid h2
  cases hq : areTasks xs
  · have hF := Lib.hid (show progOk xs st t = false by simp [progOk, startsOk, hq])
    rw [hq] at hA
    obtain ⟨a, cap, rfl, _⟩ := h1
    obtain ⟨a2, cap2, rfl, _⟩ := h2
    generalize ProgPost xs st t w = POST at *
    clear hq
    go_enter Try.func24, Try.ntmps24
    go_wp2_with fail
    refine (hA.out).mono ?_
    rintro e w1 ⟨rfl, hb1⟩
    have hB1 := Lib.hid hb1
    clear hb1
    go_wp2_with fail
    go_ret3
    exact hNo.out hF.out _ hB1.out
  rw [hq] at hA
  cases hq2 : (decide (st.length = xs.length) && allIn st 0 100000)
  · have hF := Lib.hid (show progOk xs st t = false by simp only [progOk, startsOk, Bool.and_assoc]; rw [← Bool.and_assoc (decide _), hq2]; simp)
    obtain ⟨a, cap, rfl, hl, _⟩ := h1
    obtain ⟨a2, cap2, rfl, _⟩ := h2
    generalize ProgPost xs st t w = POST at *
    clear hq
    go_enter Try.func24, Try.ntmps24
    go_wp2_with fail
    refine (hA.out).mono ?_
    rintro e w1 ⟨rfl, hb1⟩
    have hB1 := Lib.hid hb1
    clear hb1
    go_wp2_with fail
    refine (areStarts_any B _ _ _ _ st w1 (hL2.out.below hB1.out hB) hl).mono ?_
    rw [hq2]
    rintro e w2 ⟨m, rfl, rfl⟩
    go_wp2_with fail
    go_ret3
    exact hNo.out hF.out _ (Lst.Below.drewN hB1.out m)
  cases hr : inB t 0 100000
  · have hF := Lib.hid (show progOk xs st t = false by simp [progOk, hr])
    obtain ⟨a, cap, rfl, hl, _⟩ := h1
    obtain ⟨a2, cap2, rfl, _⟩ := h2
    generalize ProgPost xs st t w = POST at *
    clear hq
    go_enter Try.func24, Try.ntmps24
    go_wp2_with fail
    refine (hA.out).mono ?_
    rintro e w1 ⟨rfl, hb1⟩
    have hB1 := Lib.hid hb1
    clear hb1
    go_wp2_with fail
    refine (areStarts_any B _ _ _ _ st w1 (hL2.out.below hB1.out hB) hl).mono ?_
    rw [hq2]
    rintro e w2 ⟨m, rfl, rfl⟩
    go_wp2_with (go_at_call 66; refine (isWithin_any _ _ _ _).mono ?_; rintro e w' ⟨rfl, rfl⟩)
    go_ret3
    exact hNo.out hF.out _ (Lst.Below.drewN hB1.out m)
  have hq3 := hq2
  simp only [Bool.and_eq_true, decide_eq_true_eq] at hq3
  have hF := Lib.hid (show progOk xs st t = true by simp [progOk, startsOk, hq, hr, hq3.1, hq3.2])
  have hT := areTasks_iff.1 hq
  have hTT := Lib.hid hT
  have hl := h1
  obtain ⟨a, a2, c1, c2, rfl, rfl, hcells⟩ := prog_cells t h1 h2 hT hq3.1 hq3.2
  obtain ⟨_, _, e1, hl1, _⟩ := hl
  clear e1
  have hC := Lib.hid hcells
  have hD := Lib.hid (doneTo_bound hT st t)
  have hm : xs.length ≤ 16 := hT.most
  obtain ⟨t1, t2⟩ := inB_true hr
  have hd0 : Hid (doneTo xs st t 0 = 0) := Lib.hid rfl
  generalize ProgPost xs st t w = POST at *
  clear hcells h1 h2 hT hq hNo hq3
  have hLn := Lib.hid (show xs.length = xs.length from rfl)
  generalize hnn : xs.length = n at *
  have hN := Lib.hid hnn
  clear hnn
  go_enter Try.func24, Try.ntmps24
  go_wp2_with fail
  refine (hA.out).mono ?_
  rintro e w1 ⟨rfl, hb1⟩
  have hB1 := Lib.hid hb1
  clear hb1
  go_wp2_with fail
  refine (areStarts_any B _ _ _ _ st w1 (hL2.out.below hB1.out hB) hl1).mono ?_
  rw [hq2]
  rintro e w2 ⟨m, rfl, rfl⟩
  have hB2 := Lib.hid (Lst.Below.drewN hB1.out m)
  generalize w1.drewN m = w2 at *
  clear hq2
  go_wp2_with (go_at_call 66; refine (isWithin_any _ _ _ _).mono ?_; rintro e w' ⟨rfl, rfl⟩)
  clear hr
  go_loopw [9, 28] (fun z i wr => ∃ (k : Nat) (y1 : Int), k ≤ n ∧ i = .int .i64 k ∧ z = .int .i64 y1 ∧ Hid (y1 = doneTo xs st t k) ∧ Hid (Below w.heap.size w wr)) (fun _ i _ => n - (intOf i).toNat)
  case atStart => exact ⟨0, 0, Nat.zero_le _, rfl, rfl, Lib.hid hd0.out.symm, hB2⟩
  case round =>
    obtain ⟨k, y1, hk, rfl, rfl, hy1, hB3⟩ := hrel
    by_cases hlt : k < n
    · obtain ⟨b, o, b2, o2, x, vb, vl, s, rfl, rfl, bb, bb2, e0, e1, e2, e3, ⟨ab, nb, cb, rfl⟩, ⟨al, nl, cl, rfl⟩, e4, s1, s2, x1, x2, n1, n2, hw, p1, p2, hd, q1, q2⟩ := hC.out k hlt
      have hb1 := hD.out k hk
      rw [← hy1.out] at hb1
      obtain ⟨b11, b12⟩ := hb1
      have hn1 := Lib.hid (show y1 + x.Needs * max 0 (min x.Time (t - s)) = doneTo xs st t (k + 1) by rw [hd, hy1.out])
      rw [← hB3.out.cell (p := ⟨b, o + k * 4, none⟩) (show b < w.heap.size by omega)] at e0
      rw [← hB3.out.cell (p := ⟨b, o + k * 4 + 1, none⟩) (show b < w.heap.size by omega)] at e1
      rw [← hB3.out.cell (p := ⟨b, o + k * 4 + 2, none⟩) (show b < w.heap.size by omega)] at e2
      rw [← hB3.out.cell (p := ⟨b, o + k * 4 + 3, none⟩) (show b < w.heap.size by omega)] at e3
      rw [← hB3.out.cell (p := ⟨b2, o2 + k, none⟩) (show b2 < w.heap.size by omega)] at e4
      have hsz : b2 < wr.heap.size := Nat.lt_of_lt_of_le (show b2 < w.heap.size by omega) hB3.out.size
      have hkI : (k : Int) < n := by omega
      have hw3 : IntKind.i64.wrap (t - s) = t - s := IntWalk.i64_in _ (by omega)
      clear hw hd hy1 p1 p2
      by_cases c1 : t - s < x.Time
      · by_cases c2 : 0 < t - s
        · have hM : max 0 (min x.Time (t - s)) = (t - s) := by omega
          rw [hM] at hn1 q1 q2
          have hw4 : IntKind.i64.wrap (x.Needs * (t - s)) = x.Needs * (t - s) := IntWalk.i64_in _ (by omega)
          have hw5 : IntKind.i64.wrap (y1 + x.Needs * (t - s)) = y1 + x.Needs * (t - s) := IntWalk.i64_in _ (by omega)
          clear hM
          go_wp2_with fail
          generalize hwp : World.alloc wr _ = wp
          have hB4 := Lib.hid (show Below w.heap.size w wp by rw [← hwp]; exact below_alloc hB3.out _)
          have f0 : wp.cell? ⟨wr.heap.size, 0, none⟩ = some (.int .i64 x.Time) := by rw [← hwp]; exact (Whole.made wr _ _ rfl).at_ rfl
          have f1 : wp.cell? ⟨wr.heap.size, 1, none⟩ = some (.int .i64 x.Needs) := by rw [← hwp]; exact (Whole.made wr _ _ rfl).at_ rfl
          have f4 : wp.cell? ⟨b2, o2 + k, none⟩ = some (.int .i64 s) := by rw [← hwp, (below_alloc (Below.refl _ _) _ : Below wr.heap.size wr _).cell (p := ⟨b2, o2 + k, none⟩) hsz]; exact e4
          clear hwp e0 e1 e2 e3 e4
          go_quiet (fail)
          go_wp2_with fail
          go_roundw
          case rel => exact ⟨k + 1, _, by omega, by go_num, rfl, by first | exact hn1 | exact Lib.hid (by simpa using hn1.out), Lib.hid (Lst.Below.drewN hB4.out _)⟩
          case measure => simp [intOf]; omega
        · have hM : max 0 (min x.Time (t - s)) = 0 := by omega
          rw [hM] at hn1 q1 q2
          have hw4 : IntKind.i64.wrap (x.Needs * 0) = x.Needs * 0 := IntWalk.i64_in _ (by omega)
          have hw5 : IntKind.i64.wrap (y1 + x.Needs * 0) = y1 + x.Needs * 0 := IntWalk.i64_in _ (by omega)
          clear hM
          go_wp2_with fail
          generalize hwp : World.alloc wr _ = wp
          have hB4 := Lib.hid (show Below w.heap.size w wp by rw [← hwp]; exact below_alloc hB3.out _)
          have f0 : wp.cell? ⟨wr.heap.size, 0, none⟩ = some (.int .i64 x.Time) := by rw [← hwp]; exact (Whole.made wr _ _ rfl).at_ rfl
          have f1 : wp.cell? ⟨wr.heap.size, 1, none⟩ = some (.int .i64 x.Needs) := by rw [← hwp]; exact (Whole.made wr _ _ rfl).at_ rfl
          have f4 : wp.cell? ⟨b2, o2 + k, none⟩ = some (.int .i64 s) := by rw [← hwp, (below_alloc (Below.refl _ _) _ : Below wr.heap.size wr _).cell (p := ⟨b2, o2 + k, none⟩) hsz]; exact e4
          clear hwp e0 e1 e2 e3 e4
          go_quiet (fail)
          go_wp2_with fail
          go_roundw
          case rel => exact ⟨k + 1, _, by omega, by go_num, rfl, by first | exact hn1 | exact Lib.hid (by simpa using hn1.out), Lib.hid (Lst.Below.drewN hB4.out _)⟩
          case measure => simp [intOf]; omega
      · by_cases c2 : 0 < x.Time
        · have hM : max 0 (min x.Time (t - s)) = x.Time := by omega
          rw [hM] at hn1 q1 q2
          have hw4 : IntKind.i64.wrap (x.Needs * x.Time) = x.Needs * x.Time := IntWalk.i64_in _ (by omega)
          have hw5 : IntKind.i64.wrap (y1 + x.Needs * x.Time) = y1 + x.Needs * x.Time := IntWalk.i64_in _ (by omega)
          clear hM
          go_wp2_with fail
          generalize hwp : World.alloc wr _ = wp
          have hB4 := Lib.hid (show Below w.heap.size w wp by rw [← hwp]; exact below_alloc hB3.out _)
          have f0 : wp.cell? ⟨wr.heap.size, 0, none⟩ = some (.int .i64 x.Time) := by rw [← hwp]; exact (Whole.made wr _ _ rfl).at_ rfl
          have f1 : wp.cell? ⟨wr.heap.size, 1, none⟩ = some (.int .i64 x.Needs) := by rw [← hwp]; exact (Whole.made wr _ _ rfl).at_ rfl
          have f4 : wp.cell? ⟨b2, o2 + k, none⟩ = some (.int .i64 s) := by rw [← hwp, (below_alloc (Below.refl _ _) _ : Below wr.heap.size wr _).cell (p := ⟨b2, o2 + k, none⟩) hsz]; exact e4
          clear hwp e0 e1 e2 e3 e4
          go_quiet (fail)
          go_wp2_with fail
          go_roundw
          case rel => exact ⟨k + 1, _, by omega, by go_num, rfl, by first | exact hn1 | exact Lib.hid (by simpa using hn1.out), Lib.hid (Lst.Below.drewN hB4.out _)⟩
          case measure => simp [intOf]; omega
        · have hM : max 0 (min x.Time (t - s)) = 0 := by omega
          rw [hM] at hn1 q1 q2
          have hw4 : IntKind.i64.wrap (x.Needs * 0) = x.Needs * 0 := IntWalk.i64_in _ (by omega)
          have hw5 : IntKind.i64.wrap (y1 + x.Needs * 0) = y1 + x.Needs * 0 := IntWalk.i64_in _ (by omega)
          clear hM
          go_wp2_with fail
          generalize hwp : World.alloc wr _ = wp
          have hB4 := Lib.hid (show Below w.heap.size w wp by rw [← hwp]; exact below_alloc hB3.out _)
          have f0 : wp.cell? ⟨wr.heap.size, 0, none⟩ = some (.int .i64 x.Time) := by rw [← hwp]; exact (Whole.made wr _ _ rfl).at_ rfl
          have f1 : wp.cell? ⟨wr.heap.size, 1, none⟩ = some (.int .i64 x.Needs) := by rw [← hwp]; exact (Whole.made wr _ _ rfl).at_ rfl
          have f4 : wp.cell? ⟨b2, o2 + k, none⟩ = some (.int .i64 s) := by rw [← hwp, (below_alloc (Below.refl _ _) _ : Below wr.heap.size wr _).cell (p := ⟨b2, o2 + k, none⟩) hsz]; exact e4
          clear hwp e0 e1 e2 e3 e4
          go_quiet (fail)
          go_wp2_with fail
          go_roundw
          case rel => exact ⟨k + 1, _, by omega, by go_num, rfl, by first | exact hn1 | exact Lib.hid (by simpa using hn1.out), Lib.hid (Lst.Below.drewN hB4.out _)⟩
          case measure => simp [intOf]; omega
    · have hE1 := Lib.hid (show y1 = doneTo xs st t n by rw [hy1.out, show k = n by omega])
      go_wp2_with fail
      refine (allWork_any B _ xs wr (hL1.out.below hB3.out hB) (Nat.le_trans hB hB3.out.size) hTT.out).mono ?_
      rintro e w5 ⟨rfl, hb5⟩
      have hB5 := Lib.hid (below_on hB3.out (Nat.le_refl _) hb5)
      clear hb5 hB3
      go_wp2_with fail
      go_ret3
      exact hYes.out hF.out _ _ _ hE1.out (by rw [hN.out]) hB5.out
theorem progressOf_both (xs : List TaskD) (st : List Int) (t : Int) (_ : ∀ y ∈ xs, y.wf) (_ : ∀ x ∈ st, (Lit.int .i64 x).wf = true) (_ : (Lit.int .i64 t).wf = true) : ∃ (r0 r1 : Int) (r2 : Bool),
    (∀ (B : Nat) (v1 v2 : Value) (w : World), LstTask B w v1 xs → LstI B w v2 st → B ≤ w.heap.size → Calls Try.prog 21 #[v1, v2, .int .i64 t] w fun e w' => e = .returned (.tuple #[.int .i64 r0, .int .i64 r1, .bool r2]) ∧ Below w.heap.size w w') ∧
    (∀ (B : Nat) (v1 v2 : Value) (w : World), LstTask B w v1 xs → LstI B w v2 st → B ≤ w.heap.size → Calls Try.prog 24 #[v1, v2, .int .i64 t] w fun e w' => e = .returned (.tuple #[.int .i64 r0, .int .i64 r1, .bool r2]) ∧ Below w.heap.size w w') :=
  ⟨progDone xs st t, progAll xs st t, progOk xs st t, fun B v1 v2 w h1 h2 hB => specProgressOf_any B v1 v2 xs st t w h1 h2 hB, fun B v1 v2 w h1 h2 hB => implProgressOf_any B v1 v2 xs st t w h1 h2 hB⟩
end Go.Proofs.Ytlgojbbhjhifhab
