/- Contracts: which starts are a plan of jobs. -/
import Derived.Test.YtonokdbkjeoklaaAreJobs
import Derived.IntWalk
namespace Go.Proofs.Ytonokdbkjeoklaa
open Go.RowKit Go.Lst

def startOf (ss : List Int) (i : Nat) : Int := ss.getD i 0
def jobAt (xs : List JobD) (i : Nat) : JobD := xs.getD i default
/-- Two jobs are on the machine at once. -/
def clashAt (xs : List JobD) (ss : List Int) (i k : Nat) : Bool := decide (startOf ss i < startOf ss k + (jobAt xs k).Time) && decide (startOf ss k < startOf ss i + (jobAt xs i).Time)
def freeTo (xs : List JobD) (ss : List Int) (i : Nat) : Nat → Bool
  | 0 => true
  | k + 1 => freeTo xs ss i k && !clashAt xs ss i k
def keptAt (xs : List JobD) (ss : List Int) (i : Nat) : Bool := !decide (startOf ss i < (jobAt xs i).Release) && freeTo xs ss i i
def keptTo (xs : List JobD) (ss : List Int) : Nat → Bool
  | 0 => true
  | i + 1 => keptTo xs ss i && keptAt xs ss i
theorem freeTo_false {xs : List JobD} {ss : List Int} {i k m : Nat} (h : freeTo xs ss i k = false) (hm : k ≤ m) : freeTo xs ss i m = false := by
  induction m with
  | zero => have : k = 0 := by omega
            subst this; exact h
  | succ m ih =>
    by_cases e : k = m + 1
    · subst e; exact h
    · unfold freeTo; rw [ih (by omega), Bool.false_and]
theorem keptTo_false {xs : List JobD} {ss : List Int} {k m : Nat} (h : keptTo xs ss k = false) (hm : k ≤ m) : keptTo xs ss m = false := by
  induction m with
  | zero => have : k = 0 := by omega
            subst this; exact h
  | succ m ih =>
    by_cases e : k = m + 1
    · subst e; exact h
    · unfold keptTo; rw [ih (by omega), Bool.false_and]
def okStarts (xs : List JobD) (ss : List Int) : Bool := areJobs xs && decide (ss.length = xs.length) && allIn ss 0 1000000
def planOf (xs : List JobD) (ss : List Int) : Bool := okStarts xs ss && keptTo xs ss xs.length
theorem okStarts_of {xs : List JobD} {ss : List Int} (h : okStarts xs ss = true) : areJobs xs = true ∧ ss.length = xs.length ∧ ∀ (i : Nat) (x : Int), ss[i]? = some x → 0 ≤ x ∧ x ≤ 1000000 := by
  simp only [okStarts, Bool.and_eq_true, decide_eq_true_eq] at h
  exact ⟨h.1.1, h.1.2, fun i x hx => allIn_of h.2 hx⟩
theorem jobAt_of {xs : List JobD} {i : Nat} {x : JobD} (h : xs[i]? = some x) : jobAt xs i = x := by unfold jobAt; rw [List.getD_eq_getElem?_getD, h]; rfl
/-- What is known of the job i and its start. -/
theorem start_at {xs : List JobD} {ss : List Int} (h : okStarts xs ss = true) {i : Nat} (hi : i < xs.length) :
    ∃ (x : JobD) (s : Int), xs[i]? = some x ∧ ss[i]? = some s ∧ jobAt xs i = x ∧ startOf ss i = s ∧ 0 ≤ s ∧ s ≤ 1000000 ∧ 1 ≤ x.Time ∧ x.Time ≤ 10000 ∧ 0 ≤ x.Release ∧ x.Release ≤ 10000 := by
  obtain ⟨h1, h2, h3⟩ := okStarts_of h
  have e1 : xs[i]? = some xs[i] := List.getElem?_eq_getElem _
  have e2 : ss[i]? = some (ss[i]'(by omega)) := List.getElem?_eq_getElem _
  obtain ⟨g1, g2, _, _⟩ := okJob_of ((areJobs_of h1).2.2 i _ e1)
  have g3 := h3 i _ e2
  exact ⟨_, _, e1, e2, jobAt_of e1, getD_of e2, g3.1, g3.2, g1.1, g1.2, g2.1, g2.2⟩

set_option maxHeartbeats 2000000 in
theorem l02Starts_any (B : Nat) (v1 v2 : Value) (xs : List JobD) (ss : List Int) (w : World) (h1 : LstJob B w v1 xs) (h2 : LstI B w v2 ss) :
    Calls Try.prog 69 #[v1, v2] w (Ret (.bool (okStarts xs ss)) w) := by
  have hJ := Lib.hid (l02Jobs_any B v1 xs w h1)
  obtain ⟨a1, cap1, hv1, hl1, _⟩ := h1.at_
  obtain ⟨a2, cap2, rfl, hl2, _, _, hc⟩ := h2.at_
  subst hv1
  have hM : Hid (∀ (i : Nat) (x : Int), ss[i]? = some x → inB x 0 1000000 = false → okStarts xs ss = false) := Lib.hid fun i x hx hq => by
    unfold okStarts allIn
    rw [all_not hx hq, Bool.and_false]
  have hN : Hid (∀ k, k = ss.length → (∀ i x, i < k → ss[i]? = some x → inB x 0 1000000 = true) → okStarts xs ss = (areJobs xs && decide (ss.length = xs.length))) := Lib.hid fun k hk hp => by
    unfold okStarts allIn
    rw [all_upto fun i x hi hx => hp i x (by omega) hx, Bool.and_true]
  have hC := Lib.hid hc
  clear hc h1 h2
  generalize ss.length = n at *
  generalize xs.length = m at *
  unfold maxLen at hl1 hl2
  go_enter Try.func69, Try.ntmps69
  go_wp2_with fail
  go_loopw [5] (fun i wr => ∃ k : Nat, k ≤ n ∧ i = .int .i64 k ∧ Hid (∀ i x, i < k → ss[i]? = some x → inB x 0 1000000 = true) ∧ wr = w) (fun i _ => n - (intOf i).toNat)
  case atStart => exact ⟨0, Nat.zero_le _, rfl, Lib.hid (fun i x hi _ => by omega), rfl⟩
  case round =>
    obtain ⟨k, hk, rfl, hP, rfl⟩ := hrel
    by_cases hlt : k < n
    · obtain ⟨b, o, x, rfl, _, hx, hcell⟩ := hC.out k hlt
      have hXx := Lib.hid hx
      clear hx
      cases hq : inB x 0 1000000
      · have hF := Lib.hid (hM.out k x hXx.out hq)
        go_wp2_with (go_at_call 55; refine (l00In_any _ _ _ _).mono ?_; rintro e w' ⟨rfl, rfl⟩)
        go_ret
        exact ⟨0, ret_bool (by rw [hF.out]), rfl⟩
      · have hP2 : Hid (∀ i y, i < k + 1 → ss[i]? = some y → inB y 0 1000000 = true) := Lib.hid fun i y hi hy => by
          by_cases h1 : i < k
          · exact hP.out i y h1 hy
          · have : i = k := by omega
            subst this
            rw [hXx.out] at hy
            cases hy
            exact hq
        go_wp2_with (go_at_call 55; refine (l00In_any _ _ _ _).mono ?_; rintro e w' ⟨rfl, rfl⟩)
        go_roundw
        case rel => exact ⟨k + 1, by omega, by go_num, hP2, by trivial⟩
        case measure => simp [intOf]; omega
    · have hF := Lib.hid (hN.out k (by omega) hP.out)
      cases hqj : areJobs xs
      · rw [hqj] at hJ
        have hV := Lib.hid (show okStarts xs ss = false by rw [hF.out, hqj]; rfl)
        clear hqj
        go_wp2_with fail
        refine (hJ.out).mono ?_
        rintro e w' ⟨mm, rfl, rfl⟩
        go_wp2_with fail
        go_ret
        exact ⟨_, ret_bool (by rw [hV.out]), rfl⟩
      · rw [hqj] at hJ
        by_cases he : n = m
        · have hV := Lib.hid (show okStarts xs ss = true by rw [hF.out, hqj, decide_eq_true he]; rfl)
          have hb : ((n : Int) == (m : Int)) = true := by rw [beq_iff_eq]; omega
          have hb2 : (n == m) = true := by rw [beq_iff_eq]; exact he
          clear hqj he
          go_wp2_with fail
          refine (hJ.out).mono ?_
          rintro e w' ⟨mm, rfl, rfl⟩
          go_wp2_with fail
          go_ret
          exact ⟨_, ret_bool (by rw [hV.out]), rfl⟩
        · have hV := Lib.hid (show okStarts xs ss = false by rw [hF.out, decide_eq_false he, Bool.and_false])
          have hb : ((n : Int) == (m : Int)) = false := by rw [beq_eq_false_iff_ne]; omega
          have hb2 : (n == m) = false := by rw [beq_eq_false_iff_ne]; exact he
          clear hqj he
          go_wp2_with fail
          refine (hJ.out).mono ?_
          rintro e w' ⟨mm, rfl, rfl⟩
          go_wp2_with fail
          go_ret
          exact ⟨_, ret_bool (by rw [hV.out]), rfl⟩
set_option maxHeartbeats 4000000 in
theorem l02Kept_any (B : Nat) (v1 v2 : Value) (xs : List JobD) (ss : List Int) (w : World) (h1 : LstJob B w v1 xs) (h2 : LstI B w v2 ss) (hok : okStarts xs ss = true) :
    Calls Try.prog 70 #[v1, v2] w (Ret (.bool (keptTo xs ss xs.length)) w) := by
  obtain ⟨a1, cap1, rfl, hl1, _, _, hc1⟩ := h1.at_
  obtain ⟨a2, cap2, rfl, hl2, _, _, hc2⟩ := h2.at_
  obtain ⟨hj, hlen, _⟩ := okStarts_of hok
  have hA : Hid (∀ i, i < xs.length → ∃ (b1 o1 b2 o2 : Nat) (x : JobD) (s : Int), a1 = some ⟨b1, o1, none⟩ ∧ a2 = some ⟨b2, o2, none⟩ ∧
      w.cell? ⟨b1, o1 + i * 4, none⟩ = some (.int .i64 x.Time) ∧ w.cell? ⟨b1, o1 + i * 4 + 1, none⟩ = some (.int .i64 x.Release) ∧ w.cell? ⟨b2, o2 + i, none⟩ = some (.int .i64 s) ∧
      jobAt xs i = x ∧ startOf ss i = s ∧ 0 ≤ s ∧ s ≤ 1000000 ∧ 1 ≤ x.Time ∧ x.Time ≤ 10000 ∧ 0 ≤ x.Release ∧ x.Release ≤ 10000) := Lib.hid fun i hi => by
    obtain ⟨x, s, e1, e2, r⟩ := start_at hok hi
    obtain ⟨b1, o1, x', ha1, _, hx', p0, p1, _, _⟩ := hc1 i hi
    obtain ⟨b2, o2, s', ha2, _, hs', q0⟩ := hc2 i (by omega)
    obtain rfl : x' = x := by rw [e1] at hx'; exact (Option.some.inj hx').symm
    obtain rfl : s' = s := by rw [e2] at hs'; exact (Option.some.inj hs').symm
    exact ⟨b1, o1, b2, o2, x', s', ha1, ha2, p0, p1, q0, r⟩
  have hF : Hid (∀ k, k ≤ xs.length → keptTo xs ss k = false → keptTo xs ss xs.length = false) := Lib.hid fun k hk h => keptTo_false h hk
  have hS : Hid (∀ i, keptTo xs ss (i + 1) = (keptTo xs ss i && keptAt xs ss i)) := Lib.hid fun i => rfl
  have hKA : Hid (∀ i, keptAt xs ss i = (!decide (startOf ss i < (jobAt xs i).Release) && freeTo xs ss i i)) := Lib.hid fun i => rfl
  have hFS : Hid (∀ i k, freeTo xs ss i (k + 1) = (freeTo xs ss i k && !clashAt xs ss i k)) := Lib.hid fun i k => rfl
  have hFF : Hid (∀ i k, k ≤ i → freeTo xs ss i k = false → freeTo xs ss i i = false) := Lib.hid fun i k hk h => freeTo_false h hk
  rw [hlen] at hl2 ⊢
  clear h1 h2 hc1 hc2 hok hj hlen
  generalize xs.length = n at *
  unfold maxLen at hl1
  go_enter Try.func70, Try.ntmps70
  go_wp2_with fail
  go_loopw [5] (fun i wr => ∃ k m : Nat, k ≤ n ∧ i = .int .i64 k ∧ Hid (keptTo xs ss k = true) ∧ wr = w.drewN m) (fun i _ => n - (intOf i).toNat)
  case atStart => exact ⟨0, 0, Nat.zero_le _, rfl, Lib.hid rfl, rfl⟩
  case round =>
    obtain ⟨i, m, hi, rfl, hK, rfl⟩ := hrel
    by_cases hlt : i < n
    · obtain ⟨b1, o1, b2, o2, x, s, rfl, rfl, p0, p1, q0, hjx, hss, s1, s2, t1, t2, r1, r2⟩ := hA.out i hlt
      rw [← World.cell?_drewN (n := m)] at p0 p1 q0
      generalize hwo : w.drewN m = wo at *
      have hWo := Lib.hid hwo
      have hJX := Lib.hid hjx
      have hSS := Lib.hid hss
      clear hwo hjx hss
      cases hq : decide (s < x.Release)
      · go_wp2_with fail
        go_quiet (fail)
        go_wp2_with fail
        go_loopw [6] (fun kk wr => ∃ k m2 : Nat, k ≤ i ∧ kk = .int .i64 k ∧ Hid (freeTo xs ss i k = true) ∧ wr = wo.drewN m2) (fun kk _ => i - (intOf kk).toNat)
        case atStart => exact ⟨0, _, Nat.zero_le _, rfl, Lib.hid rfl, rfl⟩
        case round =>
          obtain ⟨k, m2, hk, rfl, hFk, rfl⟩ := hrel
          by_cases hki : k < i
          · obtain ⟨b1', o1', b2', o2', y, sk, hab1, hab2, p0', p1', q0', hjy, hsk, s1', s2', t1', t2', r1', r2'⟩ := hA.out k (by omega)
            injection hab1 with hab1
            injection hab1 with e1 e2 _
            subst e1 e2
            injection hab2 with hab2
            injection hab2 with e1 e2 _
            subst e1 e2
            have q0i : wo.cell? ⟨b2, o2 + k, none⟩ = some (.int .i64 sk) := by rw [← hWo.out]; exact q0'
            have p0i : wo.cell? ⟨b1, o1 + k * 4, none⟩ = some (.int .i64 y.Time) := by rw [← hWo.out]; exact p0'
            clear q0' p0' p1'
            rw [← World.cell?_drewN (n := m2)] at p0 q0 q0i p0i
            generalize hwo2 : wo.drewN m2 = wo2 at *
            have hWo2 := Lib.hid hwo2
            clear hwo2
            have hC : Hid (clashAt xs ss i k = (decide (s < sk + y.Time) && decide (sk < s + x.Time))) := Lib.hid (by unfold clashAt; rw [hJX.out, hSS.out, hjy, hsk])
            clear hjy hsk
            have hw1 : IntKind.i64.wrap (s + x.Time) = s + x.Time := IntWalk.i64_in _ (by omega)
            have hw2 : IntKind.i64.wrap (sk + y.Time) = sk + y.Time := IntWalk.i64_in _ (by omega)
            cases hc1 : decide (sk < s + x.Time)
            · have hN := Lib.hid (show freeTo xs ss i (k + 1) = true by rw [hFS.out, hFk.out, hC.out, hc1]; simp)
              go_wp2_with fail
              go_quiet (fail)
              go_wp2_with fail
              go_roundw
              case rel => exact ⟨k + 1, _, by omega, by go_num, hN, by rw [← hWo2.out, World.drewN_drewN]⟩
              case measure => simp [intOf]; omega
            · cases hc2 : decide (s < sk + y.Time)
              · have hN := Lib.hid (show freeTo xs ss i (k + 1) = true by rw [hFS.out, hFk.out, hC.out, hc1, hc2]; simp)
                go_wp2_with fail
                go_quiet (fail)
                go_wp2_with fail
                go_roundw
                case rel => exact ⟨k + 1, _, by omega, by go_num, hN, by rw [← hWo2.out, World.drewN_drewN]⟩
                case measure => simp [intOf]; omega
              · have hV := Lib.hid (hF.out (i + 1) (by omega) (by rw [hS.out, hKA.out, hFF.out i (k + 1) (by omega) (by rw [hFS.out, hC.out, hc1, hc2]; simp)]; simp))
                go_wp2_with fail
                go_quiet (fail)
                go_wp2_with fail
                go_ret
                exact ⟨_, ret_bool (by rw [hV.out]), by rw [← hWo2.out, ← hWo.out]; simp only [World.drewN_drewN]; rfl⟩
          · have hN := Lib.hid (show keptTo xs ss (i + 1) = true by
              have := hFk.out
              rw [show k = i by omega] at this
              rw [hS.out, hK.out, hKA.out, hSS.out, hJX.out, hq, this]; rfl)
            go_wp2_with fail
            go_roundw
            case rel => exact ⟨i + 1, _, by omega, by go_num, hN, by rw [← hWo.out]; simp only [World.drewN_drewN]; rfl⟩
            case measure => simp [intOf]; omega
      · have hV := Lib.hid (hF.out (i + 1) (by omega) (by rw [hS.out, hKA.out, hSS.out, hJX.out, hq]; simp))
        go_wp2_with fail
        go_quiet (fail)
        go_wp2_with fail
        go_ret
        exact ⟨_, ret_bool (by rw [hV.out]), by rw [← hWo.out, World.drewN_drewN]⟩
    · have hV := Lib.hid (show keptTo xs ss n = true by have := hK.out; rw [show i = n by omega] at this; exact this)
      go_wp2
      go_ret
      exact ⟨_, ret_bool (by rw [hV.out]), rfl⟩

/-- What the memory holds of the job i and its start. -/
theorem start_cells {B : Nat} {a1 a2 : Option Addr} {w : World} {xs : List JobD} {ss : List Int} {n c1 c2 : Nat} (h1 : LstJob B w (.slice a1 n c1) xs) (h2 : LstI B w (.slice a2 n c2) ss) (hok : okStarts xs ss = true) :
    ∀ i, i < n → ∃ (b1 o1 b2 o2 : Nat) (x : JobD) (s : Int), a1 = some ⟨b1, o1, none⟩ ∧ a2 = some ⟨b2, o2, none⟩ ∧ b1 < B ∧ b2 < B ∧
      w.cell? ⟨b1, o1 + i * 4, none⟩ = some (.int .i64 x.Time) ∧ w.cell? ⟨b1, o1 + i * 4 + 1, none⟩ = some (.int .i64 x.Release) ∧ w.cell? ⟨b1, o1 + i * 4 + 2, none⟩ = some (.int .i64 x.Due) ∧ w.cell? ⟨b1, o1 + i * 4 + 3, none⟩ = some (.int .i64 x.Weight) ∧ w.cell? ⟨b2, o2 + i, none⟩ = some (.int .i64 s) ∧
      jobAt xs i = x ∧ startOf ss i = s ∧ 0 ≤ s ∧ s ≤ 1000000 ∧ 1 ≤ x.Time ∧ x.Time ≤ 10000 ∧ 0 ≤ x.Release ∧ x.Release ≤ 10000 := fun i hi => by
  obtain ⟨a1', c1', e1', _, _, _, hc1⟩ := h1.at_
  obtain ⟨a2', c2', e2', _, _, _, hc2⟩ := h2.at_
  injection e1' with q1 q2 q3
  injection e2' with q4 q5 q6
  subst q1 q4
  obtain ⟨x, s, e1, e2, r⟩ := start_at hok (show i < xs.length by omega)
  obtain ⟨b1, o1, x', ha1, hb1, hx', p0, p1, p2, p3⟩ := hc1 i (by omega)
  obtain ⟨b2, o2, s', ha2, hb2, hs', q0⟩ := hc2 i (by omega)
  obtain rfl : x' = x := by rw [e1] at hx'; exact (Option.some.inj hx').symm
  obtain rfl : s' = s := by rw [e2] at hs'; exact (Option.some.inj hs').symm
  exact ⟨b1, o1, b2, o2, x', s', ha1, ha2, hb1, hb2, p0, p1, p2, p3, q0, r⟩
set_option maxHeartbeats 1000000 in
theorem specIsJobPlan_any (B : Nat) (v1 v2 : Value) (xs : List JobD) (ss : List Int) (w : World) (h1 : LstJob B w v1 xs) (h2 : LstI B w v2 ss) :
    Calls Try.prog 37 #[v1, v2] w (Ret (.tuple #[.bool (planOf xs ss), .bool (okStarts xs ss)]) w) := by
  have hS := Lib.hid (l02Starts_any B v1 v2 xs ss w h1 h2)
  unfold planOf
  cases hq : okStarts xs ss
  · rw [hq] at hS
    clear h1 h2 hq
    go_enter Try.func37, Try.ntmps37
    go_wp2_with (go_at_call 69; refine (hS.out).mono ?_; rintro e w' ⟨m, rfl, rfl⟩)
    go_ret2
    exact Ret.later _ _ _
  · rw [hq] at hS
    have hK := Lib.hid (fun m => l02Kept_any B v1 v2 xs ss (w.drewN m) (LstJob.below h1 (Lst.Below.drewN (Below.refl B w) m) (Nat.le_refl _)) (h2.drewN m) hq)
    rw [Bool.true_and]
    generalize keptTo xs ss xs.length = q at *
    clear h1 h2 hq
    go_enter Try.func37, Try.ntmps37
    go_wp2_with (first | (go_at_call 69; refine (hS.out).mono ?_; rintro e w' ⟨m, rfl, rfl⟩) | (go_at_call 70; refine (hK.out _).mono ?_; rintro e w' ⟨m2, rfl, rfl⟩))
    go_ret2
    exact ⟨_, rfl, by first | rfl | exact World.drewN_drewN ..⟩
set_option maxHeartbeats 4000000 in
theorem implIsJobPlan_any (B : Nat) (v1 v2 : Value) (xs : List JobD) (ss : List Int) (w : World) (h1 : LstJob B w v1 xs) (h2 : LstI B w v2 ss) (hB : B ≤ w.heap.size) :
    Calls Try.prog 38 #[v1, v2] w fun e w' => e = .returned (.tuple #[.bool (planOf xs ss), .bool (okStarts xs ss)]) ∧ Below w.heap.size w w' := by
  have hJ := Lib.hid (areJobs_any B v1 xs w h1 hB)
  obtain ⟨a1, cap1, hv1, hl1, _⟩ := h1.at_
  obtain ⟨a2, cap2, hv2, hl2, _⟩ := h2.at_
  subst hv1 hv2
  cases hq : areJobs xs
  · have hV := Lib.hid (show okStarts xs ss = false by unfold okStarts; rw [hq]; rfl)
    have hP := Lib.hid (show planOf xs ss = false by unfold planOf; rw [hV.out]; rfl)
    rw [hV.out, hP.out]
    rw [hq] at hJ
    clear h1 h2 hq
    generalize xs.length = n at *
    generalize ss.length = m at *
    go_enter Try.func38, Try.ntmps38
    go_wp2_with (go_at_call 18; refine (hJ.out).mono ?_; rintro e w1 ⟨rfl, hb1⟩; have hB1 := Lib.hid hb1; clear hb1)
    go_ret2
    exact ⟨rfl, hB1.out⟩
  · rw [hq] at hJ
    by_cases he : ss.length = xs.length
    · have hW := Lib.hid (fun w1 (hb : Below w.heap.size w w1) => areWithin_any w.heap.size (.slice a2 ss.length cap2) ss 0 1000000 w1 ((h2.mono hB).below hb (Nat.le_refl _)).lst)
      have hne : ((ss.length : Int) != (xs.length : Int)) = false := by rw [bne_eq_false_iff_eq]; omega
      have hne2 : (ss.length != xs.length) = false := by rw [bne_eq_false_iff_eq]; exact he
      cases hq2 : allIn ss 0 1000000
      · have hV := Lib.hid (show okStarts xs ss = false by unfold okStarts; rw [hq2, Bool.and_false])
        have hP := Lib.hid (show planOf xs ss = false by unfold planOf; rw [hV.out]; rfl)
        rw [hV.out, hP.out]
        rw [hq2] at hW
        clear h1 h2 hq hq2 he
        generalize xs.length = n at *
        generalize ss.length = m at *
        unfold maxLen at hl1 hl2
        go_enter Try.func38, Try.ntmps38
        go_wp2_with (first | (go_at_call 18; refine (hJ.out).mono ?_; rintro e w1 ⟨rfl, hb1⟩; have hB1 := Lib.hid hb1; clear hb1) | (go_at_call 51; refine (hW.out _ hB1.out).mono ?_; rintro e w2 ⟨rfl, rfl⟩))
        go_ret2
        exact ⟨rfl, hB1.out⟩
      · have hV := Lib.hid (show okStarts xs ss = true by unfold okStarts; rw [hq, hq2, decide_eq_true he]; rfl)
        have hP := Lib.hid (show planOf xs ss = keptTo xs ss xs.length by unfold planOf; rw [hV.out]; rfl)
        rw [hV.out, hP.out]
        rw [hq2] at hW
        rw [he] at h2
        have hA := Lib.hid (start_cells (h1.mono hB) (h2.mono hB) hV.out)
        have hF : Hid (∀ k, k ≤ xs.length → keptTo xs ss k = false → keptTo xs ss xs.length = false) := Lib.hid fun k hk h => keptTo_false h hk
        have hS : Hid (∀ i, keptTo xs ss (i + 1) = (keptTo xs ss i && keptAt xs ss i)) := Lib.hid fun i => rfl
        have hKA : Hid (∀ i, keptAt xs ss i = (!decide (startOf ss i < (jobAt xs i).Release) && freeTo xs ss i i)) := Lib.hid fun i => rfl
        have hFS : Hid (∀ i k, freeTo xs ss i (k + 1) = (freeTo xs ss i k && !clashAt xs ss i k)) := Lib.hid fun i k => rfl
        have hFF : Hid (∀ i k, k ≤ i → freeTo xs ss i k = false → freeTo xs ss i i = false) := Lib.hid fun i k hk h => freeTo_false h hk
        rw [he] at hW hne hne2 ⊢
        clear h1 h2 hq hq2 he hl2
        generalize xs.length = n at *
        unfold maxLen at hl1
        go_enter Try.func38, Try.ntmps38
        go_wp2_with (first | (go_at_call 18; refine (hJ.out).mono ?_; rintro e w1 ⟨rfl, hb1⟩; have hB1 := Lib.hid hb1; clear hb1) | (go_at_call 51; refine (hW.out _ hB1.out).mono ?_; rintro e w2 ⟨rfl, rfl⟩))
        go_loopw [26] (fun ii wr => ∃ i : Nat, i ≤ n ∧ ii = .int .i64 i ∧ Hid (keptTo xs ss i = true) ∧ Hid (Below w.heap.size w wr)) (fun ii _ => n - (intOf ii).toNat)
        case atStart => exact ⟨0, Nat.zero_le _, rfl, Lib.hid rfl, hB1⟩
        case round =>
          clear hB1
          obtain ⟨i, hi, rfl, hK, hB1⟩ := hrel
          by_cases hlt : i < n
          · obtain ⟨b1, o1, b2, o2, x, s, rfl, rfl, hbl1, hbl2, p0, p1, p2, p3, q0, hjx, hss, s1, s2, t1, t2, r1, r2⟩ := hA.out i hlt
            rw [← hB1.out.cell (p := ⟨b1, o1 + i * 4, none⟩) hbl1] at p0
            rw [← hB1.out.cell (p := ⟨b1, o1 + i * 4 + 1, none⟩) hbl1] at p1
            rw [← hB1.out.cell (p := ⟨b1, o1 + i * 4 + 2, none⟩) hbl1] at p2
            rw [← hB1.out.cell (p := ⟨b1, o1 + i * 4 + 3, none⟩) hbl1] at p3
            rw [← hB1.out.cell (p := ⟨b2, o2 + i, none⟩) hbl2] at q0
            have hJX := Lib.hid hjx
            have hSS := Lib.hid hss
            have hbw : b1 < wr.heap.size ∧ b2 < wr.heap.size := ⟨Nat.lt_of_lt_of_le hbl1 hB1.out.size, Nat.lt_of_lt_of_le hbl2 hB1.out.size⟩
            obtain ⟨hbw1, hbw2⟩ := hbw
            have HBL := Lib.hid (show b1 < w.heap.size ∧ b2 < w.heap.size from ⟨hbl1, hbl2⟩)
            clear hjx hss hbl1 hbl2
            cases hq : decide (s < x.Release)
            · go_wp2_with fail
              go_quiet (fail)
              go_wp2_with fail
              generalize hwo : World.drewN (World.alloc wr _) _ = wo at *
              have j0 : wo.cell? ⟨wr.heap.size, 0, none⟩ = some (.int .i64 x.Time) := by rw [← hwo, World.cell?_drewN, World.cell?_alloc_at _ _ _ _ rfl]; rfl
              have q0' : wo.cell? ⟨b2, o2 + i, none⟩ = some (.int .i64 s) := by rw [← hwo, World.cell?_drewN, World.cell?_alloc_past _ _ _ hbw2]; exact q0
              have hB2 := Lib.hid (show Below w.heap.size w wo by rw [← hwo]; exact below_drew (below_alloc hB1.out _) _)
              clear q0 p0 p1 p2 p3 hwo hB1 hbw1 hbw2
              generalize wr.heap.size = gb at *
              go_loopw [39] (fun kk wr2 => ∃ k m2 : Nat, k ≤ i ∧ kk = .int .i64 k ∧ Hid (freeTo xs ss i k = true) ∧ wr2 = wo.drewN m2) (fun kk _ => i - (intOf kk).toNat)
              case atStart => exact ⟨0, 0, Nat.zero_le _, rfl, Lib.hid rfl, rfl⟩
              case round =>
                obtain ⟨k, m2, hk, rfl, hFk, rfl⟩ := hrel
                by_cases hki : k < i
                · obtain ⟨b1', o1', b2', o2', y, sk, hab1, hab2, hb1', hb2', p0', _, _, _, q0i, hjy, hsk, s1', s2', t1', t2', r1', r2'⟩ := hA.out k (by omega)
                  injection hab1 with hab1
                  injection hab1 with e1 e2 _
                  subst e1 e2
                  injection hab2 with hab2
                  injection hab2 with e1 e2 _
                  subst e1 e2
                  rw [← hB2.out.cell (p := ⟨b1, o1 + k * 4, none⟩) hb1'] at p0'
                  rw [← hB2.out.cell (p := ⟨b2, o2 + k, none⟩) hb2'] at q0i
                  rw [← World.cell?_drewN (n := m2)] at p0' q0i q0' j0
                  clear hb1' hb2'
                  generalize hwo2 : wo.drewN m2 = wo2 at *
                  have hWo2 := Lib.hid hwo2
                  clear hwo2
                  have hC : Hid (clashAt xs ss i k = (decide (s < sk + y.Time) && decide (sk < s + x.Time))) := Lib.hid (by unfold clashAt; rw [hJX.out, hSS.out, hjy, hsk])
                  clear hjy hsk
                  have hw1 : IntKind.i64.wrap (s + x.Time) = s + x.Time := IntWalk.i64_in _ (by omega)
                  have hw2 : IntKind.i64.wrap (sk + y.Time) = sk + y.Time := IntWalk.i64_in _ (by omega)
                  cases hc2 : decide (s < sk + y.Time)
                  · have hN := Lib.hid (show freeTo xs ss i (k + 1) = true by rw [hFS.out, hFk.out, hC.out, hc2]; simp)
                    go_wp2_with fail
                    go_quiet (fail)
                    go_wp2_with fail
                    go_roundw
                    case rel => exact ⟨k + 1, _, by omega, by go_num, hN, by rw [← hWo2.out, World.drewN_drewN]⟩
                    case measure => simp [intOf]; omega
                  · cases hc1 : decide (sk < s + x.Time)
                    · have hN := Lib.hid (show freeTo xs ss i (k + 1) = true by rw [hFS.out, hFk.out, hC.out, hc1, hc2]; simp)
                      go_wp2_with fail
                      go_quiet (fail)
                      go_wp2_with fail
                      go_roundw
                      case rel => exact ⟨k + 1, _, by omega, by go_num, hN, by rw [← hWo2.out, World.drewN_drewN]⟩
                      case measure => simp [intOf]; omega
                    · have hV := Lib.hid (hF.out (i + 1) (by omega) (by rw [hS.out, hKA.out, hFF.out i (k + 1) (by omega) (by rw [hFS.out, hC.out, hc1, hc2]; simp)]; simp))
                      go_wp2_with fail
                      go_quiet (fail)
                      go_wp2_with fail
                      go_ret2
                      exact ⟨by rw [hV.out]; rfl, by rw [← hWo2.out]; exact below_drew (below_drew hB2.out _) _⟩
                · have hN := Lib.hid (show keptTo xs ss (i + 1) = true by
                    have := hFk.out
                    rw [show k = i by omega] at this
                    rw [hS.out, hK.out, hKA.out, hSS.out, hJX.out, hq, this]; rfl)
                  go_wp2_with fail
                  go_roundw
                  case rel => exact ⟨i + 1, by omega, by go_num, hN, Lib.hid (below_drew hB2.out _)⟩
                  case measure => simp [intOf]; omega
            · have hV := Lib.hid (hF.out (i + 1) (by omega) (by rw [hS.out, hKA.out, hSS.out, hJX.out, hq]; simp))
              go_wp2_with fail
              go_quiet (fail)
              go_wp2_with fail
              go_ret2
              exact ⟨by rw [hV.out]; rfl, below_drew (below_alloc hB1.out _) _⟩
          · have hV := Lib.hid (show keptTo xs ss n = true by have := hK.out; rw [show i = n by omega] at this; exact this)
            go_wp2
            go_ret2
            exact ⟨by rw [hV.out]; rfl, hB1.out⟩
    · have hV := Lib.hid (show okStarts xs ss = false by unfold okStarts; rw [decide_eq_false he, Bool.and_false]; rfl)
      have hP := Lib.hid (show planOf xs ss = false by unfold planOf; rw [hV.out]; rfl)
      rw [hV.out, hP.out]
      have hne : ((ss.length : Int) != (xs.length : Int)) = true := by rw [bne_iff_ne]; omega
      have hne2 : (ss.length != xs.length) = true := by rw [bne_iff_ne]; exact he
      clear h1 h2 hq he
      generalize xs.length = n at *
      generalize ss.length = m at *
      unfold maxLen at hl1 hl2
      go_enter Try.func38, Try.ntmps38
      go_wp2_with (go_at_call 18; refine (hJ.out).mono ?_; rintro e w1 ⟨rfl, hb1⟩; have hB1 := Lib.hid hb1; clear hb1)
      go_ret2
      exact ⟨rfl, hB1.out⟩

theorem isJobPlan_both (xs : List JobD) (ss : List Int) (_ : ∀ y ∈ xs, y.wf) (_ : ∀ x ∈ ss, (Lit.int .i64 x).wf = true) : ∃ (r0 r1 : Bool),
    (∀ (B : Nat) (v1 v2 : Value) (w : World), LstJob B w v1 xs → LstI B w v2 ss → B ≤ w.heap.size → Calls Try.prog 37 #[v1, v2] w fun e w' => e = .returned (.tuple #[.bool r0, .bool r1]) ∧ Below w.heap.size w w') ∧
    (∀ (B : Nat) (v1 v2 : Value) (w : World), LstJob B w v1 xs → LstI B w v2 ss → B ≤ w.heap.size → Calls Try.prog 38 #[v1, v2] w fun e w' => e = .returned (.tuple #[.bool r0, .bool r1]) ∧ Below w.heap.size w w') :=
  ⟨planOf xs ss, okStarts xs ss, fun B v1 v2 w h1 h2 _ => (specIsJobPlan_any B v1 v2 xs ss w h1 h2).mono fun _ _ hr => hr.below, fun B v1 v2 w h1 h2 hB => implIsJobPlan_any B v1 v2 xs ss w h1 h2 hB⟩
end Go.Proofs.Ytonokdbkjeoklaa
