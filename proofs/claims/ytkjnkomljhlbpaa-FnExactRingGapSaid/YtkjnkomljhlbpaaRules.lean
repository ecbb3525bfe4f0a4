/- Contracts: which lists are rules. -/
import Derived.Test.YtkjnkomljhlbpaaRowRule
import Derived.Test.YtkjnkomljhlbpaaAreJobs
import Derived.Test.YtkjnkomljhlbpaaBlk
import Derived.Test.YtkjnkomljhlbpaaArcs
namespace Go.Proofs.Ytkjnkomljhlbpaa
open Go.RowKit Go.Lst

def okRule (e p : Int) (x : RuleD) : Bool := inB x.From 0 (e - 1) && inB x.To 0 (e - 1) && (!(x.From == x.To)) && inB x.Least 0 (p - 1) && inB x.Most x.Least (x.Least + p - 1)
def areRules (e p : Int) (xs : List RuleD) : Bool := inB e 1 12 && inB p 1 60 && decide (xs.length ≤ 32) && xs.all (okRule e p)
theorem okRule_of {e p : Int} {x : RuleD} (h : okRule e p x = true) : (0 ≤ x.From ∧ x.From ≤ e - 1) ∧ (0 ≤ x.To ∧ x.To ≤ e - 1) ∧ x.From ≠ x.To ∧ (0 ≤ x.Least ∧ x.Least ≤ p - 1) ∧ (x.Least ≤ x.Most ∧ x.Most ≤ x.Least + p - 1) := by
  simp only [okRule, Bool.and_eq_true, Bool.not_eq_true', beq_eq_false_iff_ne] at h
  exact ⟨inB_true h.1.1.1.1, inB_true h.1.1.1.2, h.1.1.2, inB_true h.1.2, inB_true h.2⟩
theorem okRule_ends {e p : Int} {x : RuleD} : okRule e p x = (allIn [x.From, x.To] 0 (e - 1) && (!(x.From == x.To)) && inB x.Least 0 (p - 1) && inB x.Most x.Least (x.Least + p - 1)) := by
  simp only [okRule, allIn, List.all_cons, List.all_nil, Bool.and_true]
theorem areRules_of {e p : Int} {xs : List RuleD} (h : areRules e p xs = true) : (1 ≤ e ∧ e ≤ 12) ∧ (1 ≤ p ∧ p ≤ 60) ∧ xs.length ≤ 32 ∧ ∀ (i : Nat) (x : RuleD), xs[i]? = some x → okRule e p x = true := by
  simp only [areRules, Bool.and_eq_true, decide_eq_true_eq] at h
  exact ⟨inB_true h.1.1.1, inB_true h.1.1.2, h.1.2, fun i x hx => List.all_eq_true.1 h.2 x (List.mem_of_getElem? hx)⟩
theorem areRules_1 {e p : Int} {xs : List RuleD} (h : inB e 1 12 = false) : areRules e p xs = false := by simp [areRules, h]
theorem areRules_2 {e p : Int} {xs : List RuleD} (h : inB p 1 60 = false) : areRules e p xs = false := by simp [areRules, h]
theorem areRules_3 {e p : Int} {xs : List RuleD} (h : 32 < xs.length) : areRules e p xs = false := by
  unfold areRules; rw [decide_eq_false (show ¬ xs.length ≤ 32 by omega)]; simp
theorem areRules_4 {e p : Int} {xs : List RuleD} {k : Nat} {x : RuleD} (hx : xs[k]? = some x) (h : okRule e p x = false) : areRules e p xs = false := by
  unfold areRules; rw [all_not hx h, Bool.and_false]
theorem areRules_5 {e p : Int} {xs : List RuleD} (h1 : inB e 1 12 = true) (h2 : inB p 1 60 = true) (h3 : ¬ 32 < xs.length) : areRules e p xs = xs.all (okRule e p) := by
  unfold areRules
  rw [h1, h2, decide_eq_true (show xs.length ≤ 32 by omega)]; simp

set_option maxHeartbeats 8000000 in
theorem l05Rules_any (B : Nat) (e p : Int) (v : Value) (xs : List RuleD) (w : World) (h : LstRule B w v xs) :
    Calls Try.prog 13 #[.int .i64 e, v, .int .i64 p] w (Ret (.bool (areRules e p xs)) w) := by
  obtain ⟨a, cap, rfl, hl, _, _, hc⟩ := h.at_
  clear h
  cases hn : inB e 1 12
  · have hV := Lib.hid (areRules_1 (p := p) (xs := xs) hn)
    generalize xs.length = m at *
    unfold maxLen at hl
    go_enter Try.func13, Try.ntmps13
    go_wp2_with (go_at_call 21; refine (l05Nodes_any _ _).mono ?_; rintro e w' ⟨rfl, rfl⟩)
    go_ret
    exact ⟨0, ret_bool (by rw [hV.out]), rfl⟩
  by_cases hhi : 32 < xs.length
  · have hV := Lib.hid (areRules_3 (e := e) (p := p) hhi)
    have hdh : decide ((32 : Int) < (xs.length : Int)) = true := decide_eq_true (by omega)
    generalize xs.length = m at *
    unfold maxLen at hl
    go_enter Try.func13, Try.ntmps13
    go_wp2_with (go_at_call 21; refine (l05Nodes_any _ _).mono ?_; rintro e w' ⟨rfl, rfl⟩)
    go_ret
    exact ⟨0, ret_bool (by rw [hV.out]), rfl⟩
  have hdh : decide ((32 : Int) < (xs.length : Int)) = false := decide_eq_false (by omega)
  cases hp : inB p 1 60
  · have hV := Lib.hid (areRules_2 (e := e) (xs := xs) hp)
    generalize xs.length = m at *
    unfold maxLen at hl
    go_enter Try.func13, Try.ntmps13
    go_wp2_with (first | (go_at_call 21; refine (l05Nodes_any _ _).mono ?_; rintro e w' ⟨rfl, rfl⟩) | (go_at_call 14; refine (l00In_any _ _ _ _).mono ?_; rintro e w' ⟨rfl, rfl⟩))
    go_ret
    exact ⟨0, ret_bool (by rw [hV.out]), rfl⟩
  have hN : Hid (∀ k, k = xs.length → (∀ i x, i < k → xs[i]? = some x → okRule e p x = true) → areRules e p xs = true) := Lib.hid fun k hk hq => by
    rw [areRules_5 hn hp hhi]
    exact all_upto fun i x hi hx => hq i x (by omega) hx
  have hM : Hid (∀ (i : Nat) (x : RuleD), xs[i]? = some x → okRule e p x = false → areRules e p xs = false) := Lib.hid fun i x hx hq => areRules_4 hx hq
  have hC := Lib.hid hc
  have hn1 := (inB_true hn).1
  have hn2 := (inB_true hn).2
  have hp1 := (inB_true hp).1
  have hp2 := (inB_true hp).2
  clear hc
  generalize areRules e p xs = q at *
  generalize xs.length = m at *
  unfold maxLen at hl
  go_enter Try.func13, Try.ntmps13
  go_wp2_with (first | (go_at_call 21; refine (l05Nodes_any _ _).mono ?_; rintro e w' ⟨rfl, rfl⟩) | (go_at_call 14; refine (l00In_any _ _ _ _).mono ?_; rintro e w' ⟨rfl, rfl⟩))
  clear hn hp
  go_loopw [24] (fun i wr => ∃ k j : Nat, k ≤ m ∧ i = .int .i64 k ∧ Hid (∀ i x, i < k → xs[i]? = some x → okRule e p x = true) ∧ wr = w.drewN j) (fun i _ => m - (intOf i).toNat)
  case atStart => exact ⟨0, 0, Nat.zero_le _, rfl, Lib.hid (fun i x hi _ => by omega), rfl⟩
  case round =>
    obtain ⟨k, j, hk, rfl, hP, rfl⟩ := hrel
    by_cases hlt : k < m
    · obtain ⟨b, o, x, rfl, _, hx, h0, h1, h2, h3⟩ := hC.out k hlt
      have hXx := Lib.hid hx
      clear hx
      rw [← World.cell?_drewN (n := j)] at h0 h1 h2 h3
      generalize hwo : w.drewN j = wo at *
      have hWo := Lib.hid hwo
      clear hwo
      have hw0 : IntKind.i64.wrap (e - 1) = e - 1 := IntWalk.i64_in _ (by omega)
      have hw1 : IntKind.i64.wrap (p - 1) = p - 1 := IntWalk.i64_in _ (by omega)
      cases e0 : inB x.From 0 (e - 1)
      case false =>
        have hF := Lib.hid (hM.out k x hXx.out (by simp [okRule, e0]))
        go_wp2_with fail
        go_quiet ((go_at_call 14; exact Ret.quiet (Ret.same (l00In_any _ _ _ _))))
        go_wp2
        go_ret
        exact ⟨_, ret_bool (by rw [hF.out]), by rw [← hWo.out, World.drewN_drewN]⟩
      case true =>
        cases e1 : inB x.To 0 (e - 1)
        case false =>
          have hF := Lib.hid (hM.out k x hXx.out (by simp [okRule, e0, e1]))
          go_wp2_with fail
          go_quiet ((go_at_call 14; exact Ret.quiet (Ret.same (l00In_any _ _ _ _))))
          go_wp2
          go_ret
          exact ⟨_, ret_bool (by rw [hF.out]), by rw [← hWo.out, World.drewN_drewN]⟩
        case true =>
          cases e2 : (!(x.From == x.To))
          case false =>
            have e2b : (x.From == x.To) = true := by simpa using e2
            have hF := Lib.hid (hM.out k x hXx.out (by simp [okRule, e0, e1, e2]))
            go_wp2_with fail
            go_quiet ((go_at_call 14; exact Ret.quiet (Ret.same (l00In_any _ _ _ _))))
            go_wp2
            go_ret
            exact ⟨_, ret_bool (by rw [hF.out]), by rw [← hWo.out, World.drewN_drewN]⟩
          case true =>
            have e2b : (x.From == x.To) = false := by simpa using e2
            cases e3 : inB x.Least 0 (p - 1)
            case false =>
              have hF := Lib.hid (hM.out k x hXx.out (by simp [okRule, e0, e1, e2, e3]))
              go_wp2_with fail
              go_quiet ((go_at_call 14; exact Ret.quiet (Ret.same (l00In_any _ _ _ _))))
              go_wp2
              go_ret
              exact ⟨_, ret_bool (by rw [hF.out]), by rw [← hWo.out, World.drewN_drewN]⟩
            case true =>
              have e3a := (inB_true e3).1
              have e3b := (inB_true e3).2
              have hw2 : IntKind.i64.wrap (x.Least + p) = x.Least + p := IntWalk.i64_in _ (by omega)
              have hw3 : IntKind.i64.wrap (x.Least + p - 1) = x.Least + p - 1 := IntWalk.i64_in _ (by omega)
              cases e4 : inB x.Most x.Least (x.Least + p - 1)
              case false =>
                have hF := Lib.hid (hM.out k x hXx.out (by simp [okRule, e0, e1, e2, e3, e4]))
                go_wp2_with fail
                go_quiet ((go_at_call 14; exact Ret.quiet (Ret.same (l00In_any _ _ _ _))))
                go_wp2
                go_ret
                exact ⟨_, ret_bool (by rw [hF.out]), by rw [← hWo.out, World.drewN_drewN]⟩
              case true =>
                have hP2 : Hid (∀ i y, i < k + 1 → xs[i]? = some y → okRule e p y = true) := Lib.hid fun i y hi hy => by
                  by_cases h1 : i < k
                  · exact hP.out i y h1 hy
                  · have : i = k := by omega
                    subst this
                    rw [hXx.out] at hy
                    cases hy
                    simp [okRule, e0, e1, e2, e3, e4]
                go_wp2_with fail
                go_quiet ((go_at_call 14; exact Ret.quiet (Ret.same (l00In_any _ _ _ _))))
                go_wp2
                go_roundw
                case rel => exact ⟨k + 1, _, by omega, by go_num, hP2, by rw [← hWo.out, World.drewN_drewN]⟩
                case measure => simp [intOf]; omega
    · have hF := Lib.hid (hN.out k (by omega) hP.out)
      go_wp2
      go_ret
      exact ⟨_, ret_bool (by rw [hF.out]), rfl⟩

set_option maxHeartbeats 4000000 in
theorem wrongRule_any (x : RuleD) (pe pp : Addr) (e p : Int) (w : World) (he : w.cell? pe = some (.int .i64 e)) (hel : pe.block < w.heap.size) (hp : w.cell? pp = some (.int .i64 p)) (hpl : pp.block < w.heap.size) (he1 : 1 ≤ e) (he2 : e ≤ 12) (hp1 : 1 ≤ p) (hp2 : p ≤ 60) :
    Calls Try.prog 23 #[.agg #[.int .i64 x.From, .int .i64 x.To, .int .i64 x.Least, .int .i64 x.Most], .pointer (some pe), .pointer (some pp)] w fun e' w' => e' = .returned (.bool (!okRule e p x)) ∧ Below w.heap.size w w' := by
  rw [okRule_ends]
  go_enter Try.func23, Try.ntmps23
  go_wp2_with fail
  refine (areWithin_any _ _ [x.From, x.To] _ _ _ (lst_lit _ (by simp) (by simp))).mono ?_
  cases e0 : allIn [x.From, x.To] 0 (e - 1)
  · rintro e' w' ⟨rfl, rfl⟩
    go_wp2_with fail
    go_ret
    exact ⟨ret_bool (by simp [e0]), by repeat (first | exact Below.refl _ _ | refine below_alloc ?_ _)⟩
  rintro e' w' ⟨rfl, rfl⟩
  cases e2 : (x.From == x.To)
  case true =>
    go_wp2_with fail
    go_ret
    exact ⟨ret_bool (by simp [e0, e2]), by repeat (first | exact Below.refl _ _ | refine below_alloc ?_ _)⟩
  case false =>
    cases e3 : inB x.Least 0 (p - 1)
    case false =>
      go_wp2_with (go_at_call 22; refine (isWithin_any _ _ _ _).mono ?_; rintro e w' ⟨rfl, rfl⟩)
      go_ret
      exact ⟨ret_bool (by simp [e0, e2, e3]), by repeat (first | exact Below.refl _ _ | refine below_alloc ?_ _)⟩
    case true =>
      have e3a := (inB_true e3).1
      have e3b := (inB_true e3).2
      go_wp2_with (go_at_call 22; refine (isWithin_any _ _ _ _).mono ?_; rintro e w' ⟨rfl, rfl⟩)
      go_ret
      exact ⟨ret_bool (by simp [e0, e2, e3]), by repeat (first | exact Below.refl _ _ | refine below_alloc ?_ _)⟩

set_option maxHeartbeats 4000000 in
theorem wrongRuleIndex_any (B : Nat) (v : Value) (xs : List RuleD) (w : World) (h : LstRule B w v xs) (hB : B ≤ w.heap.size) (pe pp : Addr) (e p : Int) (he : w.cell? pe = some (.int .i64 e)) (hel : pe.block < w.heap.size) (hp : w.cell? pp = some (.int .i64 p)) (hpl : pp.block < w.heap.size) (he1 : 1 ≤ e) (he2 : e ≤ 12) (hp1 : 1 ≤ p) (hp2 : p ≤ 60) :
    Calls Try.prog 27 #[v, .func (.func 23) #[] #[.pointer (some pe), .pointer (some pp)]] w fun e' w' => (∃ r : Int, e' = .returned (.int .i64 r) ∧ -1 ≤ r ∧ decide (0 ≤ r) = xs.any (fun x => !okRule e p x)) ∧ Below w.heap.size w w' := by
  obtain ⟨a, cap, rfl, hl, _, _, hc⟩ := h.at_
  have hYes : Hid (∀ (k : Nat) (x : RuleD), xs[k]? = some x → (!okRule e p x) = true → decide (0 ≤ (k : Int)) = xs.any (fun x => !okRule e p x)) := Lib.hid fun k x hx hq => by
    rw [decide_eq_true (by omega), List.any_eq_true.2 ⟨x, List.mem_of_getElem? hx, hq⟩]
  have hNo : Hid (∀ k, k = xs.length → (∀ (i : Nat) (x : RuleD), i < k → xs[i]? = some x → (!okRule e p x) = false) → decide (0 ≤ (-1 : Int)) = xs.any (fun x => !okRule e p x)) := Lib.hid fun k hk hq => by
    rw [decide_eq_false (by omega)]
    symm
    rw [List.any_eq_false]
    intro x hx
    obtain ⟨i, hi, rfl⟩ := List.mem_iff_getElem.1 hx
    have := hq i _ (by omega) (List.getElem?_eq_getElem hi)
    simp [this]
  have hC := Lib.hid hc
  have hE0 := Lib.hid he
  have hP0 := Lib.hid hp
  clear he hp
  clear hc h
  generalize xs.any (fun x => !okRule e p x) = res at *
  generalize xs.length = n at *
  unfold maxLen at hl
  go_enter Try.func27, Try.ntmps27
  go_wp2_with fail
  go_loopw [8] (fun i wr => ∃ k : Nat, k ≤ n ∧ i = .int .i64 k ∧ Hid (∀ (i : Nat) (x : RuleD), i < k → xs[i]? = some x → (!okRule e p x) = false) ∧ Hid (Below w.heap.size w wr)) (fun i _ => n - (intOf i).toNat)
  case atStart => exact ⟨0, Nat.zero_le _, rfl, Lib.hid (fun i x hi _ => by omega), Lib.hid (Below.refl _ _)⟩
  case round =>
    obtain ⟨k, hk, rfl, hP, hB1⟩ := hrel
    by_cases hlt : k < n
    · obtain ⟨b, o, x, rfl, hb, hx, h0, h1, h2, h3⟩ := hC.out k hlt
      have hXx := Lib.hid hx
      rw [← hB1.out.cell (p := ⟨b, o + k * 4, none⟩) (show b < w.heap.size by omega)] at h0
      rw [← hB1.out.cell (p := ⟨b, o + k * 4 + 1, none⟩) (show b < w.heap.size by omega)] at h1
      rw [← hB1.out.cell (p := ⟨b, o + k * 4 + 2, none⟩) (show b < w.heap.size by omega)] at h2
      rw [← hB1.out.cell (p := ⟨b, o + k * 4 + 3, none⟩) (show b < w.heap.size by omega)] at h3
      clear hx hb
      go_wp2_with fail
      refine (wrongRule_any x pe pp e p wr ((hB1.out.cell hel).trans hE0.out) (Nat.lt_of_lt_of_le hel hB1.out.size) ((hB1.out.cell hpl).trans hP0.out) (Nat.lt_of_lt_of_le hpl hB1.out.size) he1 he2 hp1 hp2).mono ?_
      rintro e9 w3 ⟨rfl, hb3⟩
      have hB3 := Lib.hid (below_on hB1.out (Nat.le_refl _) hb3)
      cases hq : (!okRule e p x)
      · have hP2 : Hid (∀ (i : Nat) (x : RuleD), i < k + 1 → xs[i]? = some x → (!okRule e p x) = false) := Lib.hid fun i y hi hy => by
          by_cases h1 : i < k
          · exact hP.out i y h1 hy
          · have : i = k := by omega
            subst this
            rw [hXx.out] at hy
            cases hy
            exact hq
        clear hb3 hB1
        go_wp2_with fail
        go_roundw
        case rel => exact ⟨k + 1, by omega, by go_num, hP2, hB3⟩
        case measure => simp [intOf]; omega
      · have hF := Lib.hid (hYes.out k x hXx.out hq)
        clear hb3 hB1
        go_wp2_with fail
        go_ret
        exact ⟨⟨k, rfl, by omega, hF.out⟩, hB3.out⟩
    · have hF := Lib.hid (hNo.out k (by omega) hP.out)
      go_wp2_with fail
      go_ret
      exact ⟨⟨-1, rfl, by omega, hF.out⟩, hB1.out⟩
set_option maxHeartbeats 1000000 in
theorem wrongRuleContains_any (B : Nat) (v : Value) (xs : List RuleD) (w : World) (h : LstRule B w v xs) (hB : B ≤ w.heap.size) (pe pp : Addr) (e p : Int) (he : w.cell? pe = some (.int .i64 e)) (hel : pe.block < w.heap.size) (hp : w.cell? pp = some (.int .i64 p)) (hpl : pp.block < w.heap.size) (he1 : 1 ≤ e) (he2 : e ≤ 12) (hp1 : 1 ≤ p) (hp2 : p ≤ 60) :
    Calls Try.prog 25 #[v, .func (.func 23) #[] #[.pointer (some pe), .pointer (some pp)]] w fun e' w' => e' = .returned (.bool (xs.any (fun x => !okRule e p x))) ∧ Below w.heap.size w w' := by
  have hQ := Lib.hid (wrongRuleIndex_any B v xs w h hB pe pp e p he hel hp hpl he1 he2 hp1 hp2)
  obtain ⟨a, cap, rfl, _⟩ := h
  generalize xs.any (fun x => !okRule e p x) = res at *
  go_enter Try.func25, Try.ntmps25
  go_wp2_with fail
  refine (hQ.out).mono ?_
  rintro e9 w1 ⟨⟨r, rfl, hr1, hr2⟩, hb1⟩
  have hB1 := Lib.hid hb1
  have hR := Lib.hid hr2
  clear hb1 hr2
  go_wp2_with fail
  go_ret
  exact ⟨ret_bool (by rw [← hR.out]), hB1.out⟩

set_option maxHeartbeats 4000000 in
theorem areRules_any (B : Nat) (e p : Int) (v : Value) (xs : List RuleD) (w : World) (h : LstRule B w v xs) (hB : B ≤ w.heap.size) :
    Calls Try.prog 17 #[.int .i64 e, v, .int .i64 p] w fun e' w' => e' = .returned (.bool (areRules e p xs)) ∧ Below w.heap.size w w' := by
  have hL := Lib.hid h
  obtain ⟨a, cap, rfl, hl, _⟩ := h.at_
  clear h
  have hB0 : Below w.heap.size w ((w.alloc (.cells #[.int .i64 e] 2)).alloc (.cells #[.int .i64 p] 2)) := below_alloc (below_alloc (Below.refl _ _) _) _
  have hsz : ((w.alloc (.cells #[.int .i64 e] 2)).alloc (.cells #[.int .i64 p] 2)).heap.size = w.heap.size + 2 := by simp
  have hc0 : ((w.alloc (.cells #[.int .i64 e] 2)).alloc (.cells #[.int .i64 p] 2)).cell? ⟨w.heap.size, 0, none⟩ = some (.int .i64 e) := by simp
  have hc1 : ((w.alloc (.cells #[.int .i64 e] 2)).alloc (.cells #[.int .i64 p] 2)).cell? ⟨w.heap.size + 1, 0, none⟩ = some (.int .i64 p) := by simp
  cases hn : inB e 1 12
  · have hV := Lib.hid (areRules_1 (p := p) (xs := xs) hn)
    generalize xs.length = m at *
    unfold maxLen at hl
    go_enter Try.func17, Try.ntmps17
    go_wp2_with fail
    generalize ((w.alloc (.cells #[.int .i64 e] 2)).alloc (.cells #[.int .i64 p] 2)) = w0 at *
    go_wp2_with (go_at_call 22; refine (isWithin_any _ _ _ _).mono ?_; rintro e w' ⟨rfl, rfl⟩)
    go_ret
    exact ⟨ret_bool (by rw [hV.out]), hB0⟩
  cases hp : inB p 1 60
  · have hV := Lib.hid (areRules_2 (e := e) (xs := xs) hp)
    generalize xs.length = m at *
    unfold maxLen at hl
    go_enter Try.func17, Try.ntmps17
    go_wp2_with fail
    generalize ((w.alloc (.cells #[.int .i64 e] 2)).alloc (.cells #[.int .i64 p] 2)) = w0 at *
    go_wp2_with (go_at_call 22; refine (isWithin_any _ _ _ _).mono ?_; rintro e w' ⟨rfl, rfl⟩)
    go_ret
    exact ⟨ret_bool (by rw [hV.out]), hB0⟩
  by_cases hhi : 32 < xs.length
  · have hV := Lib.hid (areRules_3 (e := e) (p := p) hhi)
    have hdh : decide ((32 : Int) < (xs.length : Int)) = true := decide_eq_true (by omega)
    generalize xs.length = m at *
    unfold maxLen at hl
    go_enter Try.func17, Try.ntmps17
    go_wp2_with fail
    generalize ((w.alloc (.cells #[.int .i64 e] 2)).alloc (.cells #[.int .i64 p] 2)) = w0 at *
    go_wp2_with (go_at_call 22; refine (isWithin_any _ _ _ _).mono ?_; rintro e w' ⟨rfl, rfl⟩)
    go_ret
    exact ⟨ret_bool (by rw [hV.out]), hB0⟩
  have hdh : decide ((32 : Int) < (xs.length : Int)) = false := decide_eq_false (by omega)
  have hK := Lib.hid ((areRules_5 hn hp hhi).trans (all_any (okRule e p) xs))
  have hn1 := (inB_true hn).1
  have hn2 := (inB_true hn).2
  have hp1 := (inB_true hp).1
  have hp2 := (inB_true hp).2
  generalize areRules e p xs = q at *
  have hN := Lib.hid (wrongRuleContains_any B _ xs _ (hL.out.below hB0 hB) (by omega) ⟨w.heap.size, 0, none⟩ ⟨w.heap.size + 1, 0, none⟩ e p hc0 (by rw [hsz]; exact Nat.lt_add_of_pos_right (by omega)) hc1 (by rw [hsz]; exact Nat.lt_succ_self _) hn1 hn2 hp1 hp2)
  generalize (xs.any fun x => !okRule e p x) = res at *
  generalize xs.length = m at *
  unfold maxLen at hl
  go_enter Try.func17, Try.ntmps17
  go_wp2_with fail
  generalize ((w.alloc (.cells #[.int .i64 e] 2)).alloc (.cells #[.int .i64 p] 2)) = w0 at *
  have hB1 := Lib.hid hB0
  clear hB0
  go_wp2_with (go_at_call 22; refine (isWithin_any _ _ _ _).mono ?_; rintro e w' ⟨rfl, rfl⟩)
  refine (hN.out).mono ?_
  rintro e' w2 ⟨rfl, hb2⟩
  have hB3 := Lib.hid (below_on hB1.out (by omega) hb2)
  go_wp2_with fail
  go_ret
  exact ⟨ret_bool (by rw [hK.out]), hB3.out⟩
end Go.Proofs.Ytkjnkomljhlbpaa
