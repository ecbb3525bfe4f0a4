/- Contracts: which lists are the times of a shop; a list in rows; the shop of times. -/
import Derived.Test.YtnkbnkiaokkjhaaPost
import Derived.Test.YtnkbnkiaokkjhaaLine
import Derived.Test.YtnkbnkiaokkjhaaBlk
import Derived.Test.YtnkbnkiaokkjhaaMixPure
import Derived.Laws.AppendOwn
namespace Go.Proofs.Ytnkbnkiaokkjhaa
open Go.RowKit Go.Lst

/-- Rows of a length, for so many machines. -/
def rowsOk (L M : Int) : Bool := inB M 1 8 && decide (L % M = 0) && inB (L / M) 1 24
def canShop (ts : List Int) (M : Int) : Bool := rowsOk ts.length M && allIn ts 1 10000
theorem rowsOk_of {L : Nat} {M : Int} (h : rowsOk L M = true) : ∃ m n : Nat, M = (m : Int) ∧ 1 ≤ m ∧ m ≤ 8 ∧ 1 ≤ n ∧ n ≤ 24 ∧ L = n * m := by
  simp only [rowsOk, Bool.and_eq_true, decide_eq_true_eq] at h
  obtain ⟨⟨h1, h2⟩, h3⟩ := h
  obtain ⟨a, b⟩ := inB_true h1
  obtain ⟨c, d⟩ := inB_true h3
  obtain ⟨m, rfl⟩ : ∃ m : Nat, M = m := ⟨M.toNat, by omega⟩
  refine ⟨m, L / m, rfl, by omega, by omega, by omega, by omega, ?_⟩
  have h4 : L % m = 0 := by omega
  have := Nat.div_add_mod L m
  rw [h4, Nat.add_zero, Nat.mul_comm] at this
  exact this.symm
theorem canShop_of {ts : List Int} {M : Int} (h : canShop ts M = true) : ∃ m n : Nat, M = (m : Int) ∧ 1 ≤ m ∧ m ≤ 8 ∧ 1 ≤ n ∧ n ≤ 24 ∧ ts.length = n * m ∧ ∀ (i : Nat) (x : Int), ts[i]? = some x → 1 ≤ x ∧ x ≤ 10000 := by
  simp only [canShop, Bool.and_eq_true] at h
  obtain ⟨m, n, h1, h2, h3, h4, h5, h6⟩ := rowsOk_of h.1
  exact ⟨m, n, h1, h2, h3, h4, h5, h6, fun i x hx => allIn_of h.2 hx⟩
theorem mul_le24 {n m : Nat} (hn : n ≤ 24) (hm : m ≤ 8) : n * m ≤ 192 := Nat.mul_le_mul hn hm
theorem row_fit {k n m : Nat} (h : k < n) : k * m + m ≤ n * m := by
  have := Nat.mul_le_mul_right m (show k + 1 ≤ n from h)
  rw [Nat.add_mul, Nat.one_mul] at this
  exact this

set_option maxHeartbeats 1000000 in
theorem areRows_any (L : Nat) (M : Int) (w : World) (hL : L ≤ 9223372036854775807) :
    Calls Try.prog 60 #[.int .i64 L, .int .i64 M] w fun e w' => e = .returned (.bool (rowsOk L M)) ∧ w = w' := by
  cases h1 : inB M 1 8
  · have hV := Lib.hid (show rowsOk L M = false by unfold rowsOk; rw [h1]; rfl)
    go_enter Try.func60, Try.ntmps60
    go_wp2_with (go_at_call 46; (with_reducible refine (isWithin_any _ _ _ _).mono ?_); rintro e w' ⟨rfl, rfl⟩)
    go_ret
    exact ⟨ret_bool (by rw [hV.out]), rfl⟩
  · obtain ⟨m1, m2⟩ := inB_true h1
    have hm0 : (M == 0) = false := by rw [beq_eq_false_iff_ne]; omega
    have q0 : 0 ≤ (L : Int) / M := Int.ediv_nonneg (by omega) (by omega)
    have q1 : (L : Int) / M ≤ L := Int.ediv_le_self M (by omega)
    by_cases h2 : (L : Int) % M = 0
    · have hb : ((L : Int) % M == 0) = true := by rw [beq_iff_eq]; exact h2
      have hV := Lib.hid (show rowsOk L M = inB ((L : Int) / M) 1 24 by unfold rowsOk; rw [h1, decide_eq_true h2]; rfl)
      clear h2
      go_enter Try.func60, Try.ntmps60
      go_wp2_with (go_at_call 46; (with_reducible refine (isWithin_any _ _ _ _).mono ?_); rintro e w' ⟨rfl, rfl⟩)
      go_ret
      exact ⟨ret_bool (by rw [hV.out]), rfl⟩
    · have hb : ((L : Int) % M == 0) = false := by rw [beq_eq_false_iff_ne]; exact h2
      have hV := Lib.hid (show rowsOk L M = false by unfold rowsOk; rw [decide_eq_false h2, Bool.and_false]; rfl)
      clear h2
      go_enter Try.func60, Try.ntmps60
      go_wp2_with (go_at_call 46; (with_reducible refine (isWithin_any _ _ _ _).mono ?_); rintro e w' ⟨rfl, rfl⟩)
      go_ret
      exact ⟨ret_bool (by rw [hV.out]), rfl⟩
set_option maxHeartbeats 1000000 in
theorem areUnlike_any (B : Nat) (v : Value) (ts : List Int) (M : Int) (w : World) (h : LstI B w v ts) :
    Calls Try.prog 53 #[v, .int .i64 M] w fun e w' => e = .returned (.bool (canShop ts M)) ∧ w = w' := by
  have hA := Lib.hid (areWithin_any B v ts 1 10000 w h.lst)
  obtain ⟨a, cap, rfl, hl, _⟩ := h.at_
  unfold canShop
  clear h
  generalize allIn ts 1 10000 = q at *
  generalize ts.length = n at *
  unfold maxLen at hl
  have hR := Lib.hid (areRows_any n M w hl)
  cases hq : rowsOk n M
  · rw [hq] at hR
    go_enter Try.func53, Try.ntmps53
    go_wp2_with (first | (go_at_call 60; (with_reducible refine (hR.out).mono ?_); rintro e w' ⟨rfl, rfl⟩) | (go_at_call 47; (with_reducible refine (hA.out).mono ?_); rintro e w' ⟨rfl, rfl⟩))
    go_ret
    exact ⟨rfl, rfl⟩
  · rw [hq] at hR
    rw [Bool.true_and]
    go_enter Try.func53, Try.ntmps53
    go_wp2_with (first | (go_at_call 60; (with_reducible refine (hR.out).mono ?_); rintro e w' ⟨rfl, rfl⟩) | (go_at_call 47; (with_reducible refine (hA.out).mono ?_); rintro e w' ⟨rfl, rfl⟩))
    go_ret
    exact ⟨rfl, rfl⟩
theorem rowsOk_spec (L : Nat) (M : Int) : rowsOk L M = (inB M 1 8 && !decide ((L : Int) < 1) && decide ((L : Int) % M = 0) && !decide (24 < (L : Int) / M)) := by
  unfold rowsOk
  cases h1 : inB M 1 8
  · rfl
  · obtain ⟨m1, m2⟩ := inB_true h1
    by_cases h2 : (L : Int) % M = 0
    · rw [decide_eq_true h2, Bool.eq_iff_iff]
      simp only [inB, Bool.true_and, Bool.and_true, Bool.and_eq_true, decide_eq_true_eq, Bool.not_eq_true', decide_eq_false_iff_not]
      have hd := Int.mul_ediv_add_emod (L : Int) M
      rw [h2, Int.add_zero] at hd
      have h0 : 0 ≤ (L : Int) / M := Int.ediv_nonneg (by omega) (by omega)
      constructor
      · rintro ⟨a, b⟩
        refine ⟨fun hc => ?_, by omega⟩
        have hL : (L : Int) = 0 := by omega
        rw [hL, Int.zero_ediv] at a
        omega
      · rintro ⟨a, b⟩
        refine ⟨?_, by omega⟩
        rcases Int.lt_or_eq_of_le h0 with h | h
        · omega
        · rw [← h, Int.mul_zero] at hd; omega
    · rw [decide_eq_false h2]; simp
set_option maxHeartbeats 2000000 in
theorem l02Unlike_any (B : Nat) (v : Value) (ts : List Int) (M : Int) (w : World) (h : LstI B w v ts) :
    Calls Try.prog 51 #[v, .int .i64 M] w fun e w' => e = .returned (.bool (canShop ts M)) ∧ w = w' := by
  obtain ⟨a, cap, rfl, hl, _, _, hc⟩ := h.at_
  have hM := Lib.hid (l02Machines_any M w)
  cases h1 : inB M 1 8
  · have hV := Lib.hid (show canShop ts M = false by unfold canShop rowsOk; rw [h1]; rfl)
    rw [h1] at hM
    clear h hc
    generalize ts.length = n at *
    unfold maxLen at hl
    go_enter Try.func51, Try.ntmps51
    go_wp2_with (go_at_call 59; (with_reducible refine (hM.out).mono ?_); rintro e w' ⟨rfl, rfl⟩)
    go_ret
    exact ⟨ret_bool (by rw [hV.out]), rfl⟩
  · obtain ⟨m1, m2⟩ := inB_true h1
    have hm0 : (M == 0) = false := by rw [beq_eq_false_iff_ne]; omega
    have q0 : 0 ≤ (ts.length : Int) / M := Int.ediv_nonneg (by omega) (by omega)
    have q1 : (ts.length : Int) / M ≤ ts.length := Int.ediv_le_self M (by omega)
    rw [h1] at hM
    by_cases h3 : ts.length < 1
    · have hV := Lib.hid (show canShop ts M = false by unfold canShop; rw [rowsOk_spec, decide_eq_true (show (ts.length : Int) < 1 by omega)]; simp)
      have hd : decide ((ts.length : Int) < 1) = true := by simp; omega
      clear h hc h1
      generalize ts.length = n at *
      unfold maxLen at hl
      go_enter Try.func51, Try.ntmps51
      go_wp2_with (go_at_call 59; (with_reducible refine (hM.out).mono ?_); rintro e w' ⟨rfl, rfl⟩)
      go_ret
      exact ⟨ret_bool (by rw [hV.out]), rfl⟩
    · have hd : decide ((ts.length : Int) < 1) = false := by simp; omega
      by_cases h2 : (ts.length : Int) % M = 0
      · have hb : ((ts.length : Int) % M != 0) = false := by rw [bne_eq_false_iff_eq]; exact h2
        by_cases h4 : 24 < (ts.length : Int) / M
        · have hV := Lib.hid (show canShop ts M = false by unfold canShop; rw [rowsOk_spec, decide_eq_true h4]; simp)
          have hd2 : decide (24 < (ts.length : Int) / M) = true := decide_eq_true h4
          clear h hc h1 h2 h4
          generalize ts.length = n at *
          unfold maxLen at hl
          go_enter Try.func51, Try.ntmps51
          go_wp2_with (go_at_call 59; (with_reducible refine (hM.out).mono ?_); rintro e w' ⟨rfl, rfl⟩)
          go_ret
          exact ⟨ret_bool (by rw [hV.out]), rfl⟩
        · have hd2 : decide (24 < (ts.length : Int) / M) = false := decide_eq_false h4
          have hR : rowsOk ts.length M = true := by rw [rowsOk_spec, h1, hd, hd2, decide_eq_true h2]; rfl
          have hN : Hid (∀ k, k = ts.length → (∀ i x, i < k → ts[i]? = some x → inB x 1 10000 = true) → canShop ts M = true) := Lib.hid fun k hk hp => by
            unfold canShop allIn
            rw [hR, all_upto fun i x hi hx => hp i x (by omega) hx]; rfl
          have hF : Hid (∀ (i : Nat) (x : Int), ts[i]? = some x → inB x 1 10000 = false → canShop ts M = false) := Lib.hid fun i x hx hq => by
            unfold canShop allIn
            rw [all_not hx hq, Bool.and_false]
          have hC := Lib.hid hc
          clear h hc h1 h2 h4 hR
          generalize ts.length = n at *
          unfold maxLen at hl
          go_enter Try.func51, Try.ntmps51
          go_wp2_with (go_at_call 59; (with_reducible refine (hM.out).mono ?_); rintro e w' ⟨rfl, rfl⟩)
          go_loopw [6] (fun i wr => ∃ k : Nat, k ≤ n ∧ i = .int .i64 k ∧ Hid (∀ i x, i < k → ts[i]? = some x → inB x 1 10000 = true) ∧ w = wr) (fun i _ => n - (intOf i).toNat)
          case atStart => exact ⟨0, Nat.zero_le _, rfl, Lib.hid (fun i x hi _ => by omega), rfl⟩
          case round =>
            obtain ⟨k, hk, rfl, hP, rfl⟩ := hrel
            by_cases hlt : k < n
            · obtain ⟨b, o, x, rfl, _, hx, hcell⟩ := hC.out k hlt
              have hXx := Lib.hid hx
              clear hx
              cases hq : inB x 1 10000
              · have hF2 := Lib.hid (hF.out k x hXx.out hq)
                go_wp2_with (go_at_call 18; (with_reducible refine (l00In_any _ _ _ _).mono ?_); rw [hq]; rintro e w' ⟨rfl, rfl⟩)
                go_ret
                exact ⟨ret_bool (by rw [hF2.out]), rfl⟩
              · have hP2 : Hid (∀ i y, i < k + 1 → ts[i]? = some y → inB y 1 10000 = true) := Lib.hid fun i y hi hy => by
                  by_cases h1 : i < k
                  · exact hP.out i y h1 hy
                  · have : i = k := by omega
                    subst this
                    rw [hXx.out] at hy
                    cases hy
                    exact hq
                go_wp2_with (go_at_call 18; (with_reducible refine (l00In_any _ _ _ _).mono ?_); rw [hq]; rintro e w' ⟨rfl, rfl⟩)
                go_roundw
                case rel => exact ⟨k + 1, by omega, by go_num, hP2, by trivial⟩
                case measure => simp [intOf]; omega
            · have hV := Lib.hid (hN.out k (by omega) hP.out)
              go_wp2
              go_ret
              exact ⟨ret_bool (by rw [hV.out]), rfl⟩
      · have hb : ((ts.length : Int) % M != 0) = true := by rw [bne_iff_ne]; exact h2
        have hV := Lib.hid (show canShop ts M = false by unfold canShop rowsOk; rw [decide_eq_false h2, Bool.and_false]; rfl)
        clear h hc h1 h2
        generalize ts.length = n at *
        unfold maxLen at hl
        go_enter Try.func51, Try.ntmps51
        go_wp2_with (go_at_call 59; (with_reducible refine (hM.out).mono ?_); rintro e w' ⟨rfl, rfl⟩)
        go_ret
        exact ⟨ret_bool (by rw [hV.out]), rfl⟩
set_option maxHeartbeats 400000 in
theorem l04Can_any (B : Nat) (v : Value) (ts : List Int) (M : Int) (w : World) (h : LstI B w v ts) :
    Calls Try.prog 29 #[v, .int .i64 M] w fun e w' => e = .returned (.bool (canShop ts M)) ∧ w = w' := by
  have hU := Lib.hid (l02Unlike_any B v ts M w h)
  clear h
  go_enter Try.func29, Try.ntmps29
  go_wp2_with (go_at_call 51; (with_reducible refine (hU.out).mono ?_); rintro e w' ⟨rfl, rfl⟩)
  go_ret
  exact ⟨rfl, rfl⟩
end Go.Proofs.Ytnkbnkiaokkjhaa
