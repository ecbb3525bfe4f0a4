/- Contracts: how many teams can play rounds; the rounds around a circle. -/
import Derived.Test.YtpmglmpopmppbaaRoundPure
import Derived.Test.YtpmglmpopmppbaaPost
namespace Go.Proofs.Ytpmglmpopmppbaa
open Go.RowKit Go.Lst Go.Plan

/-- A game, with the former one at home if the number is odd. -/
def gameL (f l : Int) (k : Nat) : List Int := if k % 2 = 1 then [f, l] else [l, f]
theorem gameL_length (f l : Int) (k : Nat) : (gameL f l k).length = 2 := by unfold gameL; split <;> rfl
/-- The round r around a circle of n, up to the game k. -/
def partTo (n r k : Nat) : List Int := gameL r n r ++ (List.range k).flatMap fun i => gameL (((r + (i + 1)) % n : Nat) : Int) (((r + n - (i + 1)) % n : Nat) : Int) (i + 1)
theorem partTo_succ (n r k : Nat) : partTo n r (k + 1) = partTo n r k ++ gameL (((r + (k + 1)) % n : Nat) : Int) (((r + n - (k + 1)) % n : Nat) : Int) (k + 1) := by
  unfold partTo
  rw [List.range_succ, List.flatMap_append, List.append_assoc]
  simp
theorem partTo_length (n r : Nat) : ∀ k, (partTo n r k).length = 2 * k + 2
  | 0 => by simp [partTo, gameL_length]
  | k + 1 => by rw [partTo_succ, List.length_append, partTo_length n r k, gameL_length]; omega
/-- All rounds up to the round r, of h games each. -/
def circTo (n h r : Nat) : List Int := (List.range r).flatMap fun r => partTo n r (h - 1)
theorem circTo_succ (n h r : Nat) : circTo n h (r + 1) = circTo n h r ++ partTo n r (h - 1) := by
  unfold circTo
  rw [List.range_succ, List.flatMap_append]
  simp
theorem circTo_length (n : Nat) {h : Nat} (hh : 1 ≤ h) : ∀ r, (circTo n h r).length = r * (2 * h)
  | 0 => by simp [circTo]
  | r + 1 => by rw [circTo_succ, List.length_append, circTo_length n hh r, partTo_length, Nat.add_mul]; omega
/-- The rounds of so many teams. -/
def circL (T : Int) : List Int := if teamsOk T then circTo (T.toNat - 1) (T.toNat / 2) (T.toNat - 1) else []

theorem isWithin_q {q : Bool} (n lo hi : Int) (h : inB n lo hi = q) (w : World) : Calls Try.prog 59 #[.int .i64 n, .int .i64 lo, .int .i64 hi] w fun e w' => e = .returned (.bool q) ∧ w = w' := by
  rw [← h]; exact isWithin_any n lo hi w
set_option maxHeartbeats 1000000 in
theorem areTeams_any (T : Int) (w : World) : Calls Try.prog 48 #[.int .i64 T] w fun e w' => e = .returned (.bool (teamsOk T)) ∧ w = w' := by
  have hV := Lib.hid (show teamsOk T = (inB T 2 16 && decide (T % 2 = 0)) from rfl)
  generalize teamsOk T = q at *
  cases hq : inB T 2 16
  · have hF := hV.out
    rw [hq, Bool.false_and] at hF
    subst hF
    go_enter Try.func48, Try.ntmps48
    go_wp2_with (go_at_call 59; (with_reducible refine (isWithin_q _ _ _ hq _).mono ?_); rintro e' w' ⟨rfl, rfl⟩)
    go_ret
    exact ⟨rfl, rfl⟩
  · obtain ⟨h1, h2⟩ := inB_true hq
    have hF := hV.out
    rw [hq, Bool.true_and] at hF
    have e1 : T.tmod 2 = T % 2 := Int.tmod_eq_emod_of_nonneg (by omega)
    have hw : IntKind.i64.wrap (T % 2) = T % 2 := IntWalk.i64_in _ (by omega)
    have hG := Lib.hid hF
    clear hF
    go_enter Try.func48, Try.ntmps48
    go_wp2_with (go_at_call 59; (with_reducible refine (isWithin_q _ _ _ hq _).mono ?_); rintro e' w' ⟨rfl, rfl⟩)
    go_ret
    exact ⟨ret_bool (by rw [hG.out]; first | rfl | (rw [Bool.eq_iff_iff, beq_iff_eq, decide_eq_true_eq]; done) | (simp; done) | (simp; omega)), rfl⟩
set_option maxHeartbeats 1000000 in
theorem l07Teams_any (T : Int) (w : World) : Calls Try.prog 46 #[.int .i64 T] w fun e w' => e = .returned (.bool (teamsOk T)) ∧ w = w' := by
  have hV := Lib.hid (show teamsOk T = (inB T 2 16 && decide (T % 2 = 0)) from rfl)
  generalize teamsOk T = q at *
  cases hq : inB T 2 16
  · have hF := hV.out
    rw [hq, Bool.false_and] at hF
    subst hF
    go_enter Try.func46, Try.ntmps46
    go_wp2_with (go_at_call 55; (with_reducible refine (l00In_is _ _ _ hq _).mono ?_); rintro e' w' ⟨rfl, rfl⟩)
    go_ret
    exact ⟨rfl, rfl⟩
  · obtain ⟨h1, h2⟩ := inB_true hq
    have hF := hV.out
    rw [hq, Bool.true_and] at hF
    have e1 : T.tmod 2 = T % 2 := Int.tmod_eq_emod_of_nonneg (by omega)
    have hw : IntKind.i64.wrap (T % 2) = T % 2 := IntWalk.i64_in _ (by omega)
    have hG := Lib.hid hF
    clear hF
    go_enter Try.func46, Try.ntmps46
    go_wp2_with (go_at_call 55; (with_reducible refine (l00In_is _ _ _ hq _).mono ?_); rintro e' w' ⟨rfl, rfl⟩)
    go_ret
    exact ⟨ret_bool (by rw [hG.out]; first | rfl | (rw [Bool.eq_iff_iff, beq_iff_eq, decide_eq_true_eq]; done) | (simp; done) | (simp; omega)), rfl⟩
theorem newsI (w : World) (t : TypeId) (u v : Value) : ∀ (j : Nat) (x : Value), [u, v][j]? = some x → (w.alloc (.cells #[u, v] t)).cell? ((⟨w.heap.size, 0, none⟩ : Addr).add j) = some x := fun j x hj => by
  match j, hj with
  | 0, hj =>
    obtain rfl : u = x := by simpa using hj
    exact (Whole.made w t #[u, v] rfl).at_ rfl
  | 1, hj =>
    obtain rfl : v = x := by simpa using hj
    exact (Whole.made w t #[u, v] rfl).at_ rfl
  | j + 2, hj => simp at hj
theorem intsI (x y : Int) : ∀ u ∈ [Value.int .i64 x, Value.int .i64 y], u.oneCell' = true := by simp [Value.oneCell']
set_option maxHeartbeats 2000000 in
theorem withGame_any (A k num : Nat) (v : Value) (xs : List Int) (f l : Int) (w : World) (h : w.ownsRow A 2 1 v k (xs.map (Value.int .i64))) (hA : A ≤ w.heap.size) (hk : k ≤ 1000) (hn : num ≤ 1000) :
    Calls Try.prog 49 #[v, .int .i64 f, .int .i64 l, .int .i64 num] w fun e w' => ∃ v', e = .returned v' ∧ w'.ownsRow A 2 1 v' (k + 2) ((xs ++ gameL f l num).map (Value.int .i64)) ∧ Below A w w' := by
  obtain ⟨i0, hi, hz0, hz1, hz2⟩ := info_parts infoI
  have hG : Hid (num % 2 = 1 → gameL f l num = [f, l]) := Lib.hid fun hh => by unfold gameL; rw [if_pos hh]
  have hG2 : Hid (¬ num % 2 = 1 → gameL f l num = [l, f]) := Lib.hid fun hh => by unfold gameL; rw [if_neg hh]
  have hO := Lib.hid h
  clear h
  by_cases hp : num % 2 = 1
  · have d1 : ((num : Int) % 2 == 1) = true := by rw [beq_iff_eq]; omega
    rw [hG.out hp]
    clear hG hG2 hp
    go_enter Try.func49, Try.ntmps49
    go_wp2_with (at_builtin; refine wpList_append_own _ rfl _ _ _ rfl A 2 i0 (.int .i64 0) 1 8 Try.underlying22 hi hz0 hz1 hz2 rfl (by decide) _ k _ rfl (hO.out.alloc _) ⟨w.heap.size, 0, none⟩ 2 2 [.int .i64 f, .int .i64 l] rfl rfl (newsI w _ _ _) (intsI _ _) (by unfold maxLen; omega) (by omega) (grow_le hA _) ?_; intro v6 w6 hown6 hgrow6 hnil6; have hB6 := Lib.hid (below_app (Below.refl A w) hO.out hgrow6 hA (Nat.le_refl _)); have hO6 := Lib.hid hown6; clear hown6 hgrow6 hnil6)
    go_ret
    exact ⟨_, rfl, by rw [List.map_append]; exact hO6.out, hB6.out⟩
  · have d1 : ((num : Int) % 2 == 1) = false := by rw [beq_eq_false_iff_ne]; omega
    rw [hG2.out hp]
    clear hG hG2 hp
    go_enter Try.func49, Try.ntmps49
    go_wp2_with (at_builtin; refine wpList_append_own _ rfl _ _ _ rfl A 2 i0 (.int .i64 0) 1 8 Try.underlying22 hi hz0 hz1 hz2 rfl (by decide) _ k _ rfl (hO.out.alloc _) ⟨w.heap.size, 0, none⟩ 2 2 [.int .i64 l, .int .i64 f] rfl rfl (newsI w _ _ _) (intsI _ _) (by unfold maxLen; omega) (by omega) (grow_le hA _) ?_; intro v6 w6 hown6 hgrow6 hnil6; have hB6 := Lib.hid (below_app (Below.refl A w) hO.out hgrow6 hA (Nat.le_refl _)); have hO6 := Lib.hid hown6; clear hown6 hgrow6 hnil6)
    go_ret
    exact ⟨_, rfl, by rw [List.map_append]; exact hO6.out, hB6.out⟩
end Go.Proofs.Ytpmglmpopmppbaa
