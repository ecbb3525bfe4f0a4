/- Contracts: which lists are arcs. -/
import Derived.Test.YtnmecfibfajbnaaRowArc
import Derived.Test.YtnmecfibfajbnaaAreJobs
import Derived.Test.YtnmecfibfajbnaaBlk
namespace Go.Proofs.Ytnmecfibfajbnaa
open Go.RowKit Go.Lst

def okArc (n : Int) (x : ArcD) : Bool := inB x.From 0 (n - 1) && inB x.To 0 (n - 1) && inB x.Long 0 1000 && inB x.Marks 0 10
def areArcs (n : Int) (xs : List ArcD) : Bool := inB n 1 12 && (decide (1 ≤ xs.length) && decide (xs.length ≤ 32)) && xs.all (okArc n)
theorem okArc_of {n : Int} {x : ArcD} (h : okArc n x = true) : (0 ≤ x.From ∧ x.From ≤ n - 1) ∧ (0 ≤ x.To ∧ x.To ≤ n - 1) ∧ (0 ≤ x.Long ∧ x.Long ≤ 1000) ∧ (0 ≤ x.Marks ∧ x.Marks ≤ 10) := by
  simp only [okArc, Bool.and_eq_true] at h
  exact ⟨inB_true h.1.1.1, inB_true h.1.1.2, inB_true h.1.2, inB_true h.2⟩
theorem okArc_ends {n : Int} {x : ArcD} : okArc n x = (allIn [x.From, x.To] 0 (n - 1) && inB x.Long 0 1000 && inB x.Marks 0 10) := by
  simp only [okArc, allIn, List.all_cons, List.all_nil, Bool.and_true]
theorem areArcs_of {n : Int} {xs : List ArcD} (h : areArcs n xs = true) : (1 ≤ n ∧ n ≤ 12) ∧ 1 ≤ xs.length ∧ xs.length ≤ 32 ∧ ∀ (i : Nat) (x : ArcD), xs[i]? = some x → okArc n x = true := by
  simp only [areArcs, Bool.and_eq_true, decide_eq_true_eq] at h
  exact ⟨inB_true h.1.1, h.1.2.1, h.1.2.2, fun i x hx => List.all_eq_true.1 h.2 x (List.mem_of_getElem? hx)⟩
theorem areArcs_1 {n : Int} {xs : List ArcD} (h : inB n 1 12 = false) : areArcs n xs = false := by simp [areArcs, h]
theorem areArcs_2 {n : Int} {xs : List ArcD} (h : xs.length < 1) : areArcs n xs = false := by
  unfold areArcs; rw [decide_eq_false (show ¬ 1 ≤ xs.length by omega)]; simp
theorem areArcs_3 {n : Int} {xs : List ArcD} (h : 32 < xs.length) : areArcs n xs = false := by
  unfold areArcs; rw [decide_eq_false (show ¬ xs.length ≤ 32 by omega)]; simp
theorem areArcs_4 {n : Int} {xs : List ArcD} {k : Nat} {x : ArcD} (hx : xs[k]? = some x) (h : okArc n x = false) : areArcs n xs = false := by
  unfold areArcs; rw [all_not hx h, Bool.and_false]
theorem areArcs_5 {n : Int} {xs : List ArcD} (h1 : inB n 1 12 = true) (h2 : ¬ xs.length < 1) (h3 : ¬ 32 < xs.length) : areArcs n xs = xs.all (okArc n) := by
  unfold areArcs
  rw [h1, decide_eq_true (show 1 ≤ xs.length by omega), decide_eq_true (show xs.length ≤ 32 by omega)]; simp
theorem all_any {α : Type} (p : α → Bool) (xs : List α) : xs.all p = !(xs.any fun x => !(p x)) := by
  induction xs with
  | nil => rfl
  | cons x xs ih => simp [ih, Bool.not_or]

set_option maxHeartbeats 400000 in
theorem l05Nodes_any (n : Int) (w : World) : Calls Try.prog 70 #[.int .i64 n] w fun e w' => e = .returned (.bool (inB n 1 12)) ∧ w = w' := by
  go_enter Try.func70, Try.ntmps70
  go_wp2_with (go_at_call 36; refine (l00In_any _ _ _ _).mono ?_; rintro e w' ⟨rfl, rfl⟩)
  go_ret
  exact ⟨rfl, rfl⟩
set_option maxHeartbeats 4000000 in
theorem l05Arcs_any (B : Nat) (n : Int) (v : Value) (xs : List ArcD) (w : World) (h : LstArc B w v xs) :
    Calls Try.prog 48 #[.int .i64 n, v] w (Ret (.bool (areArcs n xs)) w) := by
  obtain ⟨a, cap, rfl, hl, _, _, hc⟩ := h.at_
  clear h
  cases hn : inB n 1 12
  · have hV := Lib.hid (areArcs_1 (xs := xs) hn)
    generalize xs.length = m at *
    unfold maxLen at hl
    go_enter Try.func48, Try.ntmps48
    go_wp2_with (go_at_call 70; refine (l05Nodes_any _ _).mono ?_; rintro e w' ⟨rfl, rfl⟩)
    go_ret
    exact ⟨0, ret_bool (by rw [hV.out]), rfl⟩
  by_cases hlo : xs.length < 1
  · have hV := Lib.hid (areArcs_2 (n := n) hlo)
    generalize xs.length = m at *
    unfold maxLen at hl
    go_enter Try.func48, Try.ntmps48
    go_wp2_with (go_at_call 70; refine (l05Nodes_any _ _).mono ?_; rintro e w' ⟨rfl, rfl⟩)
    go_ret
    exact ⟨0, ret_bool (by rw [hV.out]), rfl⟩
  by_cases hhi : 32 < xs.length
  · have hV := Lib.hid (areArcs_3 (n := n) hhi)
    generalize xs.length = m at *
    unfold maxLen at hl
    go_enter Try.func48, Try.ntmps48
    go_wp2_with (go_at_call 70; refine (l05Nodes_any _ _).mono ?_; rintro e w' ⟨rfl, rfl⟩)
    go_ret
    exact ⟨0, ret_bool (by rw [hV.out]), rfl⟩
  have hN : Hid (∀ k, k = xs.length → (∀ i x, i < k → xs[i]? = some x → okArc n x = true) → areArcs n xs = true) := Lib.hid fun k hk hp => by
    rw [areArcs_5 hn hlo hhi]
    exact all_upto fun i x hi hx => hp i x (by omega) hx
  have hM : Hid (∀ (i : Nat) (x : ArcD), xs[i]? = some x → okArc n x = false → areArcs n xs = false) := Lib.hid fun i x hx hq => areArcs_4 hx hq
  have hC := Lib.hid hc
  have hn1 := (inB_true hn).1
  have hn2 := (inB_true hn).2
  clear hc
  generalize areArcs n xs = q at *
  generalize xs.length = m at *
  unfold maxLen at hl
  go_enter Try.func48, Try.ntmps48
  go_wp2_with (go_at_call 70; refine (l05Nodes_any _ _).mono ?_; rintro e w' ⟨rfl, rfl⟩)
  clear hn
  go_loopw [22] (fun i wr => ∃ k j : Nat, k ≤ m ∧ i = .int .i64 k ∧ Hid (∀ i x, i < k → xs[i]? = some x → okArc n x = true) ∧ wr = w.drewN j) (fun i _ => m - (intOf i).toNat)
  case atStart => exact ⟨0, 0, Nat.zero_le _, rfl, Lib.hid (fun i x hi _ => by omega), rfl⟩
  case round =>
    obtain ⟨k, j, hk, rfl, hP, rfl⟩ := hrel
    by_cases hlt : k < m
    · obtain ⟨b, o, x, rfl, _, hx, h0, h1, h2, h3⟩ := hC.out k hlt
      have hXx := Lib.hid hx
      clear hx
      rw [← World.cell?_drewN (n := j)] at h0 h1 h2 h3
      generalize hwo : w.drewN j = wo at *
      have hWo := Lib.hid hwo
      clear hwo
      cases e0 : inB x.From 0 (n - 1)
      case false =>
        have hF := Lib.hid (hM.out k x hXx.out (by simp [okArc, e0]))
        go_wp2_with (go_at_call 36; refine (l00In_any _ _ _ _).mono ?_; rintro e w' ⟨rfl, rfl⟩)
        go_ret
        exact ⟨_, ret_bool (by rw [hF.out]), hWo.out.symm⟩
      case true =>
        cases e1 : inB x.To 0 (n - 1)
        case false =>
          have hF := Lib.hid (hM.out k x hXx.out (by simp [okArc, e0, e1]))
          go_wp2_with (go_at_call 36; refine (l00In_any _ _ _ _).mono ?_; rintro e w' ⟨rfl, rfl⟩)
          go_ret
          exact ⟨_, ret_bool (by rw [hF.out]), hWo.out.symm⟩
        case true =>
          cases e2 : inB x.Long 0 1000
          case false =>
            have hF := Lib.hid (hM.out k x hXx.out (by simp [okArc, e0, e1, e2]))
            go_wp2_with (go_at_call 36; refine (l00In_any _ _ _ _).mono ?_; rintro e w' ⟨rfl, rfl⟩)
            go_ret
            exact ⟨_, ret_bool (by rw [hF.out]), hWo.out.symm⟩
          case true =>
            cases e3 : inB x.Marks 0 10
            case false =>
              have hF := Lib.hid (hM.out k x hXx.out (by simp [okArc, e0, e1, e2, e3]))
              go_wp2_with (go_at_call 36; refine (l00In_any _ _ _ _).mono ?_; rintro e w' ⟨rfl, rfl⟩)
              go_ret
              exact ⟨_, ret_bool (by rw [hF.out]), hWo.out.symm⟩
            case true =>
              have hP2 : Hid (∀ i y, i < k + 1 → xs[i]? = some y → okArc n y = true) := Lib.hid fun i y hi hy => by
                by_cases h1 : i < k
                · exact hP.out i y h1 hy
                · have : i = k := by omega
                  subst this
                  rw [hXx.out] at hy
                  cases hy
                  simp [okArc, e0, e1, e2, e3]
              go_wp2_with (go_at_call 36; refine (l00In_any _ _ _ _).mono ?_; rintro e w' ⟨rfl, rfl⟩)
              go_roundw
              case rel => exact ⟨k + 1, _, by omega, by go_num, hP2, hWo.out.symm⟩
              case measure => simp [intOf]; omega
    · have hF := Lib.hid (hN.out k (by omega) hP.out)
      go_wp2
      go_ret
      exact ⟨_, ret_bool (by rw [hF.out]), rfl⟩

set_option maxHeartbeats 2000000 in
theorem wrongArc_any (x : ArcD) (p : Addr) (n : Int) (w : World) (hp : w.cell? p = some (.int .i64 n)) (hpl : p.block < w.heap.size) (hn1 : 1 ≤ n) (hn2 : n ≤ 12) :
    Calls Try.prog 76 #[.agg #[.int .i64 x.From, .int .i64 x.To, .int .i64 x.Long, .int .i64 x.Marks], .pointer (some p)] w fun e w' => e = .returned (.bool (!okArc n x)) ∧ Below w.heap.size w w' := by
  rw [okArc_ends]
  go_enter Try.func76, Try.ntmps76
  go_wp2_with fail
  refine (areWithin_any _ _ [x.From, x.To] _ _ _ (lst_lit _ (by simp) (by simp))).mono ?_
  cases e0 : allIn [x.From, x.To] 0 (n - 1)
  · rintro e w' ⟨rfl, rfl⟩
    go_wp2_with fail
    go_ret
    exact ⟨ret_bool (by simp [e0]), by repeat (first | exact Below.refl _ _ | refine below_alloc ?_ _)⟩
  rintro e w' ⟨rfl, rfl⟩
  cases e2 : inB x.Long 0 1000
  · go_wp2_with (go_at_call 53; refine (isWithin_any _ _ _ _).mono ?_; rintro e w' ⟨rfl, rfl⟩)
    go_ret
    exact ⟨ret_bool (by simp [e0, e2]), by repeat (first | exact Below.refl _ _ | refine below_alloc ?_ _)⟩
  · go_wp2_with (go_at_call 53; refine (isWithin_any _ _ _ _).mono ?_; rintro e w' ⟨rfl, rfl⟩)
    go_ret
    exact ⟨ret_bool (by simp [e0, e2]), by repeat (first | exact Below.refl _ _ | refine below_alloc ?_ _)⟩

set_option maxHeartbeats 4000000 in
theorem wrongArcIndex_any (B : Nat) (v : Value) (xs : List ArcD) (w : World) (h : LstArc B w v xs) (hB : B ≤ w.heap.size) (p : Addr) (n : Int) (hp : w.cell? p = some (.int .i64 n)) (hpl : p.block < w.heap.size) (hn1 : 1 ≤ n) (hn2 : n ≤ 12) :
    Calls Try.prog 85 #[v, .func (.func 76) #[] #[.pointer (some p)]] w fun e w' => (∃ r : Int, e = .returned (.int .i64 r) ∧ -1 ≤ r ∧ decide (0 ≤ r) = xs.any (fun x => !okArc n x)) ∧ Below w.heap.size w w' := by
  obtain ⟨a, cap, rfl, hl, _, _, hc⟩ := h.at_
  have hYes : Hid (∀ (k : Nat) (x : ArcD), xs[k]? = some x → (!okArc n x) = true → decide (0 ≤ (k : Int)) = xs.any (fun x => !okArc n x)) := Lib.hid fun k x hx hp => by
    rw [decide_eq_true (by omega), List.any_eq_true.2 ⟨x, List.mem_of_getElem? hx, hp⟩]
  have hNo : Hid (∀ k, k = xs.length → (∀ (i : Nat) (x : ArcD), i < k → xs[i]? = some x → (!okArc n x) = false) → decide (0 ≤ (-1 : Int)) = xs.any (fun x => !okArc n x)) := Lib.hid fun k hk hp => by
    rw [decide_eq_false (by omega)]
    symm
    rw [List.any_eq_false]
    intro x hx
    obtain ⟨i, hi, rfl⟩ := List.mem_iff_getElem.1 hx
    have := hp i _ (by omega) (List.getElem?_eq_getElem hi)
    simp [this]
  have hC := Lib.hid hc
  have hP0 := Lib.hid hp
  clear hp
  clear hc h
  generalize xs.any (fun x => !okArc n x) = res at *
  generalize xs.length = m at *
  unfold maxLen at hl
  go_enter Try.func85, Try.ntmps85
  go_wp2_with fail
  go_loopw [8] (fun i wr => ∃ k : Nat, k ≤ m ∧ i = .int .i64 k ∧ Hid (∀ (i : Nat) (x : ArcD), i < k → xs[i]? = some x → (!okArc n x) = false) ∧ Hid (Below w.heap.size w wr)) (fun i _ => m - (intOf i).toNat)
  case atStart => exact ⟨0, Nat.zero_le _, rfl, Lib.hid (fun i x hi _ => by omega), Lib.hid (Below.refl _ _)⟩
  case round =>
    obtain ⟨k, hk, rfl, hP, hB1⟩ := hrel
    by_cases hlt : k < m
    · obtain ⟨b, o, x, rfl, hb, hx, h0, h1, h2, h3⟩ := hC.out k hlt
      have hXx := Lib.hid hx
      rw [← hB1.out.cell (p := ⟨b, o + k * 4, none⟩) (show b < w.heap.size by omega)] at h0
      rw [← hB1.out.cell (p := ⟨b, o + k * 4 + 1, none⟩) (show b < w.heap.size by omega)] at h1
      rw [← hB1.out.cell (p := ⟨b, o + k * 4 + 2, none⟩) (show b < w.heap.size by omega)] at h2
      rw [← hB1.out.cell (p := ⟨b, o + k * 4 + 3, none⟩) (show b < w.heap.size by omega)] at h3
      clear hx hb
      go_wp2_with fail
      refine (wrongArc_any x p n wr ((hB1.out.cell hpl).trans hP0.out) (Nat.lt_of_lt_of_le hpl hB1.out.size) hn1 hn2).mono ?_
      rintro e w3 ⟨rfl, hb3⟩
      have hB3 := Lib.hid (below_on hB1.out (Nat.le_refl _) hb3)
      cases hq : (!okArc n x)
      · have hP2 : Hid (∀ (i : Nat) (x : ArcD), i < k + 1 → xs[i]? = some x → (!okArc n x) = false) := Lib.hid fun i y hi hy => by
          by_cases h1 : i < k
          · exact hP.out i y h1 hy
          · have : i = k := by omega
            subst this
            rw [hXx.out] at hy
            cases hy
            exact hq
        clear hb3 hB1
        go_wp2_with fail
        go_roundw
        case rel => exact ⟨k + 1, by omega, by go_num, hP2, hB3⟩
        case measure => simp [intOf]; omega
      · have hF := Lib.hid (hYes.out k x hXx.out hq)
        clear hb3 hB1
        go_wp2_with fail
        go_ret
        exact ⟨⟨k, rfl, by omega, hF.out⟩, hB3.out⟩
    · have hF := Lib.hid (hNo.out k (by omega) hP.out)
      go_wp2_with fail
      go_ret
      exact ⟨⟨-1, rfl, by omega, hF.out⟩, hB1.out⟩
set_option maxHeartbeats 1000000 in
theorem wrongArcContains_any (B : Nat) (v : Value) (xs : List ArcD) (w : World) (h : LstArc B w v xs) (hB : B ≤ w.heap.size) (p : Addr) (n : Int) (hp : w.cell? p = some (.int .i64 n)) (hpl : p.block < w.heap.size) (hn1 : 1 ≤ n) (hn2 : n ≤ 12) :
    Calls Try.prog 77 #[v, .func (.func 76) #[] #[.pointer (some p)]] w fun e w' => e = .returned (.bool (xs.any (fun x => !okArc n x))) ∧ Below w.heap.size w w' := by
  have hQ := Lib.hid (wrongArcIndex_any B v xs w h hB p n hp hpl hn1 hn2)
  obtain ⟨a, cap, rfl, _⟩ := h
  generalize xs.any (fun x => !okArc n x) = res at *
  go_enter Try.func77, Try.ntmps77
  go_wp2_with fail
  refine (hQ.out).mono ?_
  rintro e w1 ⟨⟨r, rfl, hr1, hr2⟩, hb1⟩
  have hB1 := Lib.hid hb1
  have hR := Lib.hid hr2
  clear hb1 hr2
  go_wp2_with fail
  go_ret
  exact ⟨ret_bool (by rw [← hR.out]), hB1.out⟩

set_option maxHeartbeats 4000000 in
theorem areArcs_any (B : Nat) (n : Int) (v : Value) (xs : List ArcD) (w : World) (h : LstArc B w v xs) (hB : B ≤ w.heap.size) :
    Calls Try.prog 52 #[.int .i64 n, v] w fun e w' => e = .returned (.bool (areArcs n xs)) ∧ Below w.heap.size w w' := by
  have hL := Lib.hid h
  obtain ⟨a, cap, rfl, hl, _⟩ := h.at_
  clear h
  have hB0 : Below w.heap.size w (w.alloc (.cells #[.int .i64 n] 2)) := below_alloc (Below.refl _ _) _
  have hW : Whole (w.alloc (.cells #[.int .i64 n] 2)) w.heap.size 2 _ := Whole.made w _ _ rfl
  have hsz : (w.alloc (.cells #[.int .i64 n] 2)).heap.size = w.heap.size + 1 := by simp
  have hc0 : (w.alloc (.cells #[.int .i64 n] 2)).cell? ⟨w.heap.size, 0, none⟩ = some (.int .i64 n) := hW.at_ rfl
  clear hW
  cases hn : inB n 1 12
  · have hV := Lib.hid (areArcs_1 (xs := xs) hn)
    generalize xs.length = m at *
    unfold maxLen at hl
    go_enter Try.func52, Try.ntmps52
    go_wp2_with fail
    generalize (w.alloc (.cells #[.int .i64 n] 2)) = w0 at *
    go_wp2_with (go_at_call 53; refine (isWithin_any _ _ _ _).mono ?_; rintro e w' ⟨rfl, rfl⟩)
    go_ret
    exact ⟨ret_bool (by rw [hV.out]), hB0⟩
  by_cases hlo : xs.length < 1
  · have hV := Lib.hid (areArcs_2 (n := n) hlo)
    generalize xs.length = m at *
    unfold maxLen at hl
    go_enter Try.func52, Try.ntmps52
    go_wp2_with fail
    generalize (w.alloc (.cells #[.int .i64 n] 2)) = w0 at *
    go_wp2_with (go_at_call 53; refine (isWithin_any _ _ _ _).mono ?_; rintro e w' ⟨rfl, rfl⟩)
    go_ret
    exact ⟨ret_bool (by rw [hV.out]), hB0⟩
  by_cases hhi : 32 < xs.length
  · have hV := Lib.hid (areArcs_3 (n := n) hhi)
    generalize xs.length = m at *
    unfold maxLen at hl
    go_enter Try.func52, Try.ntmps52
    go_wp2_with fail
    generalize (w.alloc (.cells #[.int .i64 n] 2)) = w0 at *
    go_wp2_with (go_at_call 53; refine (isWithin_any _ _ _ _).mono ?_; rintro e w' ⟨rfl, rfl⟩)
    go_ret
    exact ⟨ret_bool (by rw [hV.out]), hB0⟩
  have hK := Lib.hid ((areArcs_5 hn hlo hhi).trans (all_any (okArc n) xs))
  have hn1 := (inB_true hn).1
  have hn2 := (inB_true hn).2
  generalize areArcs n xs = q at *
  have hN := Lib.hid (wrongArcContains_any B _ xs _ (hL.out.below hB0 hB) (by omega) ⟨w.heap.size, 0, none⟩ n hc0 (by simp) hn1 hn2)
  generalize (xs.any fun x => !okArc n x) = res at *
  generalize xs.length = m at *
  unfold maxLen at hl
  go_enter Try.func52, Try.ntmps52
  go_wp2_with fail
  generalize (w.alloc (.cells #[.int .i64 n] 2)) = w0 at *
  have hB1 := Lib.hid hB0
  clear hB0
  go_wp2_with (go_at_call 53; refine (isWithin_any _ _ _ _).mono ?_; rintro e w' ⟨rfl, rfl⟩)
  refine (hN.out).mono ?_
  rintro e w2 ⟨rfl, hb2⟩
  have hB3 := Lib.hid (below_on hB1.out (by omega) hb2)
  go_wp2_with fail
  go_ret
  exact ⟨ret_bool (by rw [hK.out]), hB3.out⟩
end Go.Proofs.Ytnmecfibfajbnaa
