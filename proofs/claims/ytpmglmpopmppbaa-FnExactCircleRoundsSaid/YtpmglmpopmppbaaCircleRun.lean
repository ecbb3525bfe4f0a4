/- Contracts: the rounds around a circle, of both builds. -/
import Derived.Test.YtpmglmpopmppbaaCircle
namespace Go.Proofs.Ytpmglmpopmppbaa
open Go.RowKit Go.Lst Go.Plan

theorem ownsRow_drew1 {A e k n : Nat} {w : World} {v : Value} {cs : List Value} (h : w.ownsRow A e k v n cs) : w.drew.ownsRow A e k v n cs := ownsRow_drewN h 1
theorem mod_both (a n : Nat) : ((a : Int) % (n : Int)) = ((a % n : Nat) : Int) ∧ ((a : Int).tmod (n : Int)) = ((a % n : Nat) : Int) := by
  refine ⟨(Int.natCast_emod a n).symm, ?_⟩
  rw [Int.tmod_eq_emod_of_nonneg (by omega)]
  exact (Int.natCast_emod a n).symm
set_option maxHeartbeats 8000000 in
set_option maxRecDepth 100000 in
theorem implCircleRounds_any (T : Int) (w : World) : Calls Try.prog 16 #[.int .i64 T] w (ListPost (circL T) (teamsOk T) w) := by
  have hTe := Lib.hid (areTeams_any T w)
  cases hq : teamsOk T
  · have hP := Lib.hid (fun hb => list_no (w := w) (w' := w) (show circL T = [] by unfold circL; rw [hq]; rfl) rfl hb)
    rw [hq] at hTe
    generalize ListPost (circL T) false w = Q at *
    go_enter Try.func16, Try.ntmps16
    go_wp2_with (go_at_call 48; (with_reducible refine hTe.out.mono ?_); rintro e' w' ⟨rfl, rfl⟩)
    exact hP.out (Below.refl _ _)
  · obtain ⟨t1, t2, t3⟩ := teams_in hq
    obtain ⟨h, rfl⟩ : ∃ h : Nat, T = 2 * (h : Int) := ⟨(T / 2).toNat, by omega⟩
    obtain ⟨n, hn⟩ : ∃ n : Nat, 2 * h = n + 1 := ⟨2 * h - 1, by omega⟩
    have hTn : (2 * (h : Int)) = (n : Int) + 1 := by omega
    rw [hTn] at hTe hq ⊢
    have hP : Hid (∀ (w' : World) (v : Value), w'.ownsRow w.heap.size 2 1 v (n * (2 * h)) ((circTo n h n).map (Value.int .i64)) → Below w.heap.size w w' → ListPost (circL ((n : Int) + 1)) true w (.returned (.tuple #[v, .bool true])) w') := Lib.hid fun w' v ho hb => by
      have e : circL ((n : Int) + 1) = circTo n h n := by
        unfold circL
        rw [hq, if_pos rfl, show ((n : Int) + 1).toNat = n + 1 by omega, show n + 1 - 1 = n by omega, show (n + 1) / 2 = h by omega]
      rw [e]
      exact list_yes rfl (Nat.le_refl _) (circTo_length n (by omega) n) ho (by have := Nat.mul_le_mul (show n ≤ 15 by omega) (show 2 * h ≤ 16 by omega); omega) hb
    rw [hq] at hTe
    generalize ListPost (circL ((n : Int) + 1)) true w = Q at *
    have hLen : Hid (∀ r, r ≤ n → r * (2 * h) ≤ 240) := Lib.hid fun r hr => by have := Nat.mul_le_mul (show r ≤ 15 by omega) (show 2 * h ≤ 16 by omega); omega
    have hNx : Hid (∀ r, (r + 1) * (2 * h) = r * (2 * h) + 2 * h) := Lib.hid fun r => by rw [Nat.add_mul, Nat.one_mul]
    have hSu := Lib.hid (circTo_succ n h)
    have hPs := Lib.hid (partTo_succ n)
    have hP0 : Hid (∀ r, partTo n r 0 = gameL r n r) := Lib.hid fun r => by simp [partTo]
    have hG : Hid (∀ (A k num : Nat) (v : Value) (xs : List Int) (f l : Int) (w' : World), w'.ownsRow A 2 1 v k (xs.map (Value.int .i64)) → A ≤ w'.heap.size → k ≤ 1000 → num ≤ 1000 → Calls Try.prog 49 #[v, .int .i64 f, .int .i64 l, .int .i64 num] w' fun e w'' => ∃ v', e = .returned v' ∧ w''.ownsRow A 2 1 v' (k + 2) ((xs ++ gameL f l num).map (Value.int .i64)) ∧ Below A w' w'') := Lib.hid withGame_any
    have hw1 : IntKind.i64.wrap ((n : Int) + 1 - 1) = (n : Int) := by rw [show (n : Int) + 1 - 1 = n by omega]; exact IntWalk.i64_in _ (by omega)
    have hn1 : n ≤ 15 := by omega
    have hn2 : 1 ≤ n := by omega
    have hh1 : 1 ≤ h := by omega
    have hh2 : h ≤ 8 := by omega
    have e1 : ((n : Int) + 1) / 2 = (h : Int) := by omega
    have e2 : ((n : Int) + 1).tdiv 2 = (h : Int) := by rw [Int.tdiv_eq_ediv_of_nonneg (by omega)]; exact e1
    have hHh := Lib.hid hn
    clear hq hTn hn t1 t2 t3
    go_enter Try.func16, Try.ntmps16
    go_wp2_with (go_at_call 48; (with_reducible refine hTe.out.mono ?_); rintro e' w' ⟨rfl, rfl⟩)
    go_loopw [5, 14] (fun gv rv wr => ∃ r : Nat, r ≤ n ∧ rv = .int .i64 r ∧ Hid (wr.ownsRow w.heap.size 2 1 gv (r * (2 * h)) ((circTo n h r).map (Value.int .i64))) ∧ Hid (Below w.heap.size w wr)) (fun _ rv _ => n - (intOf rv).toNat)
    case atStart => exact ⟨0, Nat.zero_le _, rfl, Lib.hid ⟨by simp [circTo], .inl ⟨rfl, by rw [Nat.zero_mul]⟩⟩, Lib.hid (Below.refl _ _)⟩
    case round =>
      obtain ⟨r, hr, rfl, hO, hB⟩ := hrel
      by_cases hlt : r < n
      · have hL1 := hLen.out r hr
        have hck := Lib.hid (hG.out w.heap.size (r * (2 * h)) r _ _ (r : Int) (n : Int) wr hO.out hB.out.size (by omega) (by omega))
        have hRl := Lib.hid hL1
        clear hL1
        go_wp2_with (go_at_call 49; (with_reducible refine hck.out.mono ?_); rintro e' w5 ⟨v5, rfl, ho5, hb5⟩; have hO5 := Lib.hid ho5; have hB5 := Lib.hid (hB.out.trans hb5); clear ho5 hb5)
        clear hck hO hB
        go_loopw [5, 7] (fun gv kv wr => ∃ k : Nat, k + 1 ≤ h ∧ kv = .int .i64 ((k + 1 : Nat) : Int) ∧ Hid (wr.ownsRow w.heap.size 2 1 gv (r * (2 * h) + 2 * k + 2) ((circTo n h r ++ partTo n r k).map (Value.int .i64))) ∧ Hid (Below w.heap.size w wr)) (fun _ kv _ => h - (intOf kv).toNat)
        case atStart => exact ⟨0, hh1, rfl, Lib.hid (by rw [hP0.out]; exact hO5.out), hB5⟩
        case round =>
          clear hO5 hB5
          obtain ⟨k, hk, rfl, hO, hB⟩ := hrel
          by_cases hlk : k + 1 < h
          · obtain ⟨K, hKk⟩ : ∃ K, K = k + 1 := ⟨_, rfl⟩
            rw [← hKk] at hlk ⊢
            obtain ⟨F, hFf⟩ : ∃ F, F = (r + K) % n := ⟨_, rfl⟩
            obtain ⟨L, hLl⟩ : ∃ L, L = (r + n - K) % n := ⟨_, rfl⟩
            have m1 : ((r : Int) + (K : Int)) % (n : Int) = (F : Int) := by rw [hFf, ← (mod_both (r + K) n).1]; rfl
            have m2 : ((r : Int) + (K : Int)).tmod (n : Int) = (F : Int) := by rw [hFf, ← (mod_both (r + K) n).2]; rfl
            have m3 : ((r : Int) + (n : Int) - (K : Int)) % (n : Int) = (L : Int) := by rw [hLl, ← (mod_both (r + n - K) n).1, show ((r + n - K : Nat) : Int) = (r : Int) + n - K by omega]
            have m4 : ((r : Int) + (n : Int) - (K : Int)).tmod (n : Int) = (L : Int) := by rw [hLl, ← (mod_both (r + n - K) n).2, show ((r + n - K : Nat) : Int) = (r : Int) + n - K by omega]
            have bF : F ≤ 15 := by have := Nat.mod_lt (r + K) (show 0 < n by omega); omega
            have bL : L ≤ 15 := by have := Nat.mod_lt (r + n - K) (show 0 < n by omega); omega
            have w1 : IntKind.i64.wrap ((r : Int) + (K : Int)) = (r : Int) + (K : Int) := IntWalk.i64_in _ (by omega)
            have w2 : IntKind.i64.wrap ((r : Int) + (n : Int)) = (r : Int) + (n : Int) := IntWalk.i64_in _ (by omega)
            have w3 : IntKind.i64.wrap ((r : Int) + (n : Int) - (K : Int)) = (r : Int) + (n : Int) - (K : Int) := IntWalk.i64_in _ (by omega)
            have w4 : IntKind.i64.wrap (F : Int) = (F : Int) := IntWalk.i64_in _ (by omega)
            have w5 : IntKind.i64.wrap (L : Int) = (L : Int) := IntWalk.i64_in _ (by omega)
            have hn0 : ((n : Int) == 0) = false := by rw [beq_eq_false_iff_ne]; omega
            have hn3 : ¬ (n : Int) = 0 := by omega
            have hn4 : ¬ n = 0 := by omega
            have hcl := Lib.hid (show r * (2 * h) + 2 * k + 2 ≤ 1000 by have := hLen.out r hr; omega)
            have hck := Lib.hid (hG.out w.heap.size (r * (2 * h) + 2 * k + 2) K _ _ (F : Int) (L : Int) wr.drew (ownsRow_drew1 hO.out) hB.out.size hcl.out (by omega))
            have hE : Hid (circTo n h r ++ partTo n r k ++ gameL (F : Int) (L : Int) K = circTo n h r ++ partTo n r (k + 1)) := Lib.hid (by rw [hPs.out, List.append_assoc, ← hKk, hFf, hLl])
            have hSz : Hid (r * (2 * h) + 2 * k + 2 + 2 = r * (2 * h) + 2 * (k + 1) + 2) := Lib.hid (by omega)
            rw [hE.out, hSz.out] at hck
            have hKh := Lib.hid hKk
            clear hFf hLl hKk
            generalize hz1 : r * (2 * h) + 2 * k + 2 = z at *
            have hZ1 := Lib.hid hz1
            clear hz1
            generalize hz2 : r * (2 * h) + 2 * (k + 1) + 2 = z2 at *
            have hZ2 := Lib.hid hz2
            clear hz2
            go_wp2_with fail
            go_still_tail 14, (by kernel_rfl)
            change wpList _ _ _ _ _ wr.drew
            go_wp2_with (go_at_call 49; (with_reducible refine hck.out.mono ?_); rintro e' w7 ⟨v7, rfl, ho7, hb7⟩; have hO7 := Lib.hid ho7; have hB7 := Lib.hid (hB.out.drew.trans hb7); clear ho7 hb7)
            go_roundw
            case rel => exact ⟨k + 1, by have := hKh.out; omega, by have := hKh.out; go_num, by rw [show r * (2 * h) + 2 * (k + 1) + 2 = z + 2 by have := hZ1.out; omega]; exact hO7, hB7⟩
            case measure => have := hKh.out; simp [intOf]; omega
          · have hkh : k + 1 = h := by omega
            have hkk : h - 1 = k := by omega
            have hO9 := Lib.hid (show wr.ownsRow w.heap.size 2 1 _ ((r + 1) * (2 * h)) ((circTo n h (r + 1)).map (Value.int .i64)) by rw [hSu.out, hkk, hNx.out, show r * (2 * h) + 2 * h = r * (2 * h) + 2 * k + 2 by omega]; exact hO.out)
            have hge : ¬ ((k + 1 : Nat) : Int) < (h : Int) := by omega
            clear hO hkk
            go_wp2_with fail
            go_roundw
            case rel => exact ⟨r + 1, by omega, by go_num, hO9, hB⟩
            case measure => simp [intOf]; omega
      · have hrn : r = n := by omega
        rw [hrn] at hO
        have hF := Lib.hid (hP.out wr _ hO.out hB.out)
        go_wp2_with fail
        exact hF.out
theorem empty_row (w : World) (e : TypeId) : (w.alloc (.cells #[] e)).ownsRow w.heap.size e 1 (.slice (some ⟨w.heap.size, 0, none⟩) 0 0) 0 [] :=
  ⟨rfl, .inr ⟨_, 0, #[], rfl, Nat.le_refl _, Whole.made w e #[] rfl, Nat.le_refl _, Nat.zero_le _, rfl, rfl⟩⟩
theorem gameL_odd {f l : Int} {k : Nat} (h : k % 2 = 1) : gameL f l k = [f, l] := by unfold gameL; rw [if_pos h]
theorem gameL_even {f l : Int} {k : Nat} (h : ¬ k % 2 = 1) : gameL f l k = [l, f] := by unfold gameL; rw [if_neg h]
set_option maxHeartbeats 8000000 in
set_option maxRecDepth 100000 in
theorem l07Circle_any (n h : Nat) (w : World) (hh : 2 * h = n + 1) (hn1 : n ≤ 15) (hn2 : 1 ≤ n) :
    Calls Try.prog 47 #[.int .i64 ((n : Int) + 1)] w fun e w' => ∃ v', e = .returned v' ∧ w'.ownsRow w.heap.size 2 1 v' (n * (2 * h)) ((circTo n h n).map (Value.int .i64)) ∧ Below w.heap.size w w' := by
  obtain ⟨i0, hi, hz0, hz1, hz2⟩ := info_parts infoI
  have hLen : Hid (∀ r, r ≤ n → r * (2 * h) ≤ 240) := Lib.hid fun r hr => by have := Nat.mul_le_mul (show r ≤ 15 by omega) (show 2 * h ≤ 16 by omega); omega
  have hNx : Hid (∀ r, (r + 1) * (2 * h) = r * (2 * h) + 2 * h) := Lib.hid fun r => by rw [Nat.add_mul, Nat.one_mul]
  have hSu := Lib.hid (circTo_succ n h)
  have hPs := Lib.hid (partTo_succ n)
  have hP0 : Hid (∀ r, partTo n r 0 = gameL r n r) := Lib.hid fun r => by simp [partTo]
  have hw1 : IntKind.i64.wrap ((n : Int) + 1 - 1) = (n : Int) := by rw [show (n : Int) + 1 - 1 = n by omega]; exact IntWalk.i64_in _ (by omega)
  have hh1 : 1 ≤ h := by omega
  have hh2 : h ≤ 8 := by omega
  have e1 : ((n : Int) + 1) / 2 = (h : Int) := by omega
  have e2 : ((n : Int) + 1).tdiv 2 = (h : Int) := by rw [Int.tdiv_eq_ediv_of_nonneg (by omega)]; exact e1
  have hHh := Lib.hid hh
  clear hh
  go_enter Try.func47, Try.ntmps47
  go_wp2_with fail
  go_loopw [4, 5] (fun gv rv wr => ∃ r : Nat, r ≤ n ∧ rv = .int .i64 r ∧ Hid (wr.ownsRow w.heap.size 2 1 gv (r * (2 * h)) ((circTo n h r).map (Value.int .i64))) ∧ Hid (Below w.heap.size w wr)) (fun _ rv _ => n - (intOf rv).toNat)
  case atStart => exact ⟨0, Nat.zero_le _, rfl, Lib.hid (by rw [Nat.zero_mul]; exact empty_row w _), Lib.hid (below_alloc (Below.refl _ _) _)⟩
  case round =>
    obtain ⟨r, hr, rfl, hO, hB⟩ := hrel
    by_cases hlt : r < n
    · have hCl := Lib.hid (hLen.out r hr)
      by_cases hp : r % 2 = 1
      · have d1 : ((r : Int) % 2 == 1) = true := by rw [beq_iff_eq]; omega
        have hg := Lib.hid (gameL_odd (f := (r : Int)) (l := (n : Int)) hp)
        clear hp
        go_wp2_with (at_builtin; refine wpList_append_own _ rfl _ _ _ rfl w.heap.size 2 i0 (.int .i64 0) 1 8 Try.underlying22 hi hz0 hz1 hz2 rfl (by decide) _ (r * (2 * h)) _ rfl (hO.out.alloc _) ⟨wr.heap.size, 0, none⟩ 2 2 [.int .i64 (r : Int), .int .i64 (n : Int)] rfl rfl (newsI wr _ _ _) (intsI _ _) (by unfold maxLen; have := hCl.out; omega) (by have := hCl.out; omega) (grow_le hB.out.size _) ?_; intro v6 w6 hown6 hgrow6 hnil6; have hB6 := Lib.hid (below_app hB.out hO.out hgrow6 hB.out.size (Nat.le_refl _)); have hO6 := Lib.hid hown6; clear hown6 hgrow6 hnil6)
        have hO5 := Lib.hid (show w6.ownsRow w.heap.size 2 1 v6 (r * (2 * h) + 2 * 0 + 2) ((circTo n h r ++ partTo n r 0).map (Value.int .i64)) by rw [hP0.out, hg.out, List.map_append]; exact hO6.out)
        clear hO hB hO6 hCl
        go_loopw [4, 6] (fun gv kv wr => ∃ k : Nat, k + 1 ≤ h ∧ kv = .int .i64 ((k + 1 : Nat) : Int) ∧ Hid (wr.ownsRow w.heap.size 2 1 gv (r * (2 * h) + 2 * k + 2) ((circTo n h r ++ partTo n r k).map (Value.int .i64))) ∧ Hid (Below w.heap.size w wr)) (fun _ kv _ => h - (intOf kv).toNat)
        case atStart => exact ⟨0, hh1, rfl, hO5, hB6⟩
        case round =>
          clear hO5 hB6
          obtain ⟨k, hk, rfl, hO, hB⟩ := hrel
          by_cases hlk : k + 1 < h
          · obtain ⟨K, hKk⟩ : ∃ K, K = k + 1 := ⟨_, rfl⟩
            rw [← hKk] at hlk ⊢
            obtain ⟨F, hFf⟩ : ∃ F, F = (r + K) % n := ⟨_, rfl⟩
            obtain ⟨L, hLl⟩ : ∃ L, L = (r + n - K) % n := ⟨_, rfl⟩
            have m1 : ((r : Int) + (K : Int)) % (n : Int) = (F : Int) := by rw [hFf, ← (mod_both (r + K) n).1]; rfl
            have m2 : ((r : Int) + (K : Int)).tmod (n : Int) = (F : Int) := by rw [hFf, ← (mod_both (r + K) n).2]; rfl
            have m3 : ((r : Int) + (n : Int) - (K : Int)) % (n : Int) = (L : Int) := by rw [hLl, ← (mod_both (r + n - K) n).1, show ((r + n - K : Nat) : Int) = (r : Int) + n - K by omega]
            have m4 : ((r : Int) + (n : Int) - (K : Int)).tmod (n : Int) = (L : Int) := by rw [hLl, ← (mod_both (r + n - K) n).2, show ((r + n - K : Nat) : Int) = (r : Int) + n - K by omega]
            have bF : F ≤ 15 := by have := Nat.mod_lt (r + K) (show 0 < n by omega); omega
            have bL : L ≤ 15 := by have := Nat.mod_lt (r + n - K) (show 0 < n by omega); omega
            have w1 : IntKind.i64.wrap ((r : Int) + (K : Int)) = (r : Int) + (K : Int) := IntWalk.i64_in _ (by omega)
            have w2 : IntKind.i64.wrap ((r : Int) + (n : Int)) = (r : Int) + (n : Int) := IntWalk.i64_in _ (by omega)
            have w3 : IntKind.i64.wrap ((r : Int) + (n : Int) - (K : Int)) = (r : Int) + (n : Int) - (K : Int) := IntWalk.i64_in _ (by omega)
            have w4 : IntKind.i64.wrap (F : Int) = (F : Int) := IntWalk.i64_in _ (by omega)
            have w5 : IntKind.i64.wrap (L : Int) = (L : Int) := IntWalk.i64_in _ (by omega)
            have hn0 : ((n : Int) == 0) = false := by rw [beq_eq_false_iff_ne]; omega
            have hn3 : ¬ (n : Int) = 0 := by omega
            have hn4 : ¬ n = 0 := by omega
            have hCl := Lib.hid (show r * (2 * h) + 2 * k + 2 ≤ 1000 by have := hLen.out r hr; omega)
            have hE : Hid (circTo n h r ++ partTo n r k ++ gameL (F : Int) (L : Int) K = circTo n h r ++ partTo n r (k + 1)) := Lib.hid (by rw [hPs.out, List.append_assoc, ← hKk, hFf, hLl])
            have hKh := Lib.hid hKk
            clear hFf hLl hKk
            generalize hz1 : r * (2 * h) + 2 * k + 2 = z at *
            have hZ1 := Lib.hid hz1
            clear hz1
            by_cases hp2 : K % 2 = 1
            · have d2 : ((K : Int) % 2 == 1) = true := by rw [beq_iff_eq]; omega
              have hg2 := Lib.hid (gameL_odd (f := (F : Int)) (l := (L : Int)) hp2)
              clear hp2
              go_wp2_with (at_builtin; refine wpList_append_own _ rfl _ _ _ rfl w.heap.size 2 i0 (.int .i64 0) 1 8 Try.underlying22 hi hz0 hz1 hz2 rfl (by decide) _ z _ rfl (hO.out.alloc _) ⟨wr.heap.size, 0, none⟩ 2 2 [.int .i64 (F : Int), .int .i64 (L : Int)] rfl rfl (newsI wr _ _ _) (intsI _ _) (by unfold maxLen; have := hCl.out; omega) (by have := hCl.out; omega) (grow_le hB.out.size _) ?_; intro v6 w6 hown6 hgrow6 hnil6; have hB6 := Lib.hid (below_app hB.out hO.out hgrow6 hB.out.size (Nat.le_refl _)); have hO6 := Lib.hid hown6; clear hown6 hgrow6 hnil6)
              go_roundw
              case rel => exact ⟨k + 1, by have := hKh.out; omega, by have := hKh.out; go_num, by rw [show r * (2 * h) + 2 * (k + 1) + 2 = z + 2 by have := hZ1.out; omega, ← hE.out, hg2.out, List.map_append]; exact hO6, hB6⟩
              case measure => have := hKh.out; simp [intOf]; omega
            · have d2 : ((K : Int) % 2 == 1) = false := by rw [beq_eq_false_iff_ne]; omega
              have hg2 := Lib.hid (gameL_even (f := (F : Int)) (l := (L : Int)) hp2)
              clear hp2
              go_wp2_with (at_builtin; refine wpList_append_own _ rfl _ _ _ rfl w.heap.size 2 i0 (.int .i64 0) 1 8 Try.underlying22 hi hz0 hz1 hz2 rfl (by decide) _ z _ rfl (hO.out.alloc _) ⟨wr.heap.size, 0, none⟩ 2 2 [.int .i64 (L : Int), .int .i64 (F : Int)] rfl rfl (newsI wr _ _ _) (intsI _ _) (by unfold maxLen; have := hCl.out; omega) (by have := hCl.out; omega) (grow_le hB.out.size _) ?_; intro v6 w6 hown6 hgrow6 hnil6; have hB6 := Lib.hid (below_app hB.out hO.out hgrow6 hB.out.size (Nat.le_refl _)); have hO6 := Lib.hid hown6; clear hown6 hgrow6 hnil6)
              go_roundw
              case rel => exact ⟨k + 1, by have := hKh.out; omega, by have := hKh.out; go_num, by rw [show r * (2 * h) + 2 * (k + 1) + 2 = z + 2 by have := hZ1.out; omega, ← hE.out, hg2.out, List.map_append]; exact hO6, hB6⟩
              case measure => have := hKh.out; simp [intOf]; omega
          · have hkh : k + 1 = h := by omega
            have hkk : h - 1 = k := by omega
            have hO9 := Lib.hid (show wr.ownsRow w.heap.size 2 1 _ ((r + 1) * (2 * h)) ((circTo n h (r + 1)).map (Value.int .i64)) by rw [hSu.out, hkk, hNx.out, show r * (2 * h) + 2 * h = r * (2 * h) + 2 * k + 2 by omega]; exact hO.out)
            have hge : ¬ ((k + 1 : Nat) : Int) < (h : Int) := by omega
            clear hO hkk
            go_wp2_with fail
            go_roundw
            case rel => exact ⟨r + 1, by omega, by go_num, hO9, hB⟩
            case measure => simp [intOf]; omega
      · have d1 : ((r : Int) % 2 == 1) = false := by rw [beq_eq_false_iff_ne]; omega
        have hg := Lib.hid (gameL_even (f := (r : Int)) (l := (n : Int)) hp)
        clear hp
        go_wp2_with (at_builtin; refine wpList_append_own _ rfl _ _ _ rfl w.heap.size 2 i0 (.int .i64 0) 1 8 Try.underlying22 hi hz0 hz1 hz2 rfl (by decide) _ (r * (2 * h)) _ rfl (hO.out.alloc _) ⟨wr.heap.size, 0, none⟩ 2 2 [.int .i64 (n : Int), .int .i64 (r : Int)] rfl rfl (newsI wr _ _ _) (intsI _ _) (by unfold maxLen; have := hCl.out; omega) (by have := hCl.out; omega) (grow_le hB.out.size _) ?_; intro v6 w6 hown6 hgrow6 hnil6; have hB6 := Lib.hid (below_app hB.out hO.out hgrow6 hB.out.size (Nat.le_refl _)); have hO6 := Lib.hid hown6; clear hown6 hgrow6 hnil6)
        have hO5 := Lib.hid (show w6.ownsRow w.heap.size 2 1 v6 (r * (2 * h) + 2 * 0 + 2) ((circTo n h r ++ partTo n r 0).map (Value.int .i64)) by rw [hP0.out, hg.out, List.map_append]; exact hO6.out)
        clear hO hB hO6 hCl
        go_loopw [4, 6] (fun gv kv wr => ∃ k : Nat, k + 1 ≤ h ∧ kv = .int .i64 ((k + 1 : Nat) : Int) ∧ Hid (wr.ownsRow w.heap.size 2 1 gv (r * (2 * h) + 2 * k + 2) ((circTo n h r ++ partTo n r k).map (Value.int .i64))) ∧ Hid (Below w.heap.size w wr)) (fun _ kv _ => h - (intOf kv).toNat)
        case atStart => exact ⟨0, hh1, rfl, hO5, hB6⟩
        case round =>
          clear hO5 hB6
          obtain ⟨k, hk, rfl, hO, hB⟩ := hrel
          by_cases hlk : k + 1 < h
          · obtain ⟨K, hKk⟩ : ∃ K, K = k + 1 := ⟨_, rfl⟩
            rw [← hKk] at hlk ⊢
            obtain ⟨F, hFf⟩ : ∃ F, F = (r + K) % n := ⟨_, rfl⟩
            obtain ⟨L, hLl⟩ : ∃ L, L = (r + n - K) % n := ⟨_, rfl⟩
            have m1 : ((r : Int) + (K : Int)) % (n : Int) = (F : Int) := by rw [hFf, ← (mod_both (r + K) n).1]; rfl
            have m2 : ((r : Int) + (K : Int)).tmod (n : Int) = (F : Int) := by rw [hFf, ← (mod_both (r + K) n).2]; rfl
            have m3 : ((r : Int) + (n : Int) - (K : Int)) % (n : Int) = (L : Int) := by rw [hLl, ← (mod_both (r + n - K) n).1, show ((r + n - K : Nat) : Int) = (r : Int) + n - K by omega]
            have m4 : ((r : Int) + (n : Int) - (K : Int)).tmod (n : Int) = (L : Int) := by rw [hLl, ← (mod_both (r + n - K) n).2, show ((r + n - K : Nat) : Int) = (r : Int) + n - K by omega]
            have bF : F ≤ 15 := by have := Nat.mod_lt (r + K) (show 0 < n by omega); omega
            have bL : L ≤ 15 := by have := Nat.mod_lt (r + n - K) (show 0 < n by omega); omega
            have w1 : IntKind.i64.wrap ((r : Int) + (K : Int)) = (r : Int) + (K : Int) := IntWalk.i64_in _ (by omega)
            have w2 : IntKind.i64.wrap ((r : Int) + (n : Int)) = (r : Int) + (n : Int) := IntWalk.i64_in _ (by omega)
            have w3 : IntKind.i64.wrap ((r : Int) + (n : Int) - (K : Int)) = (r : Int) + (n : Int) - (K : Int) := IntWalk.i64_in _ (by omega)
            have w4 : IntKind.i64.wrap (F : Int) = (F : Int) := IntWalk.i64_in _ (by omega)
            have w5 : IntKind.i64.wrap (L : Int) = (L : Int) := IntWalk.i64_in _ (by omega)
            have hn0 : ((n : Int) == 0) = false := by rw [beq_eq_false_iff_ne]; omega
            have hn3 : ¬ (n : Int) = 0 := by omega
            have hn4 : ¬ n = 0 := by omega
            have hCl := Lib.hid (show r * (2 * h) + 2 * k + 2 ≤ 1000 by have := hLen.out r hr; omega)
            have hE : Hid (circTo n h r ++ partTo n r k ++ gameL (F : Int) (L : Int) K = circTo n h r ++ partTo n r (k + 1)) := Lib.hid (by rw [hPs.out, List.append_assoc, ← hKk, hFf, hLl])
            have hKh := Lib.hid hKk
            clear hFf hLl hKk
            generalize hz1 : r * (2 * h) + 2 * k + 2 = z at *
            have hZ1 := Lib.hid hz1
            clear hz1
            by_cases hp2 : K % 2 = 1
            · have d2 : ((K : Int) % 2 == 1) = true := by rw [beq_iff_eq]; omega
              have hg2 := Lib.hid (gameL_odd (f := (F : Int)) (l := (L : Int)) hp2)
              clear hp2
              go_wp2_with (at_builtin; refine wpList_append_own _ rfl _ _ _ rfl w.heap.size 2 i0 (.int .i64 0) 1 8 Try.underlying22 hi hz0 hz1 hz2 rfl (by decide) _ z _ rfl (hO.out.alloc _) ⟨wr.heap.size, 0, none⟩ 2 2 [.int .i64 (F : Int), .int .i64 (L : Int)] rfl rfl (newsI wr _ _ _) (intsI _ _) (by unfold maxLen; have := hCl.out; omega) (by have := hCl.out; omega) (grow_le hB.out.size _) ?_; intro v6 w6 hown6 hgrow6 hnil6; have hB6 := Lib.hid (below_app hB.out hO.out hgrow6 hB.out.size (Nat.le_refl _)); have hO6 := Lib.hid hown6; clear hown6 hgrow6 hnil6)
              go_roundw
              case rel => exact ⟨k + 1, by have := hKh.out; omega, by have := hKh.out; go_num, by rw [show r * (2 * h) + 2 * (k + 1) + 2 = z + 2 by have := hZ1.out; omega, ← hE.out, hg2.out, List.map_append]; exact hO6, hB6⟩
              case measure => have := hKh.out; simp [intOf]; omega
            · have d2 : ((K : Int) % 2 == 1) = false := by rw [beq_eq_false_iff_ne]; omega
              have hg2 := Lib.hid (gameL_even (f := (F : Int)) (l := (L : Int)) hp2)
              clear hp2
              go_wp2_with (at_builtin; refine wpList_append_own _ rfl _ _ _ rfl w.heap.size 2 i0 (.int .i64 0) 1 8 Try.underlying22 hi hz0 hz1 hz2 rfl (by decide) _ z _ rfl (hO.out.alloc _) ⟨wr.heap.size, 0, none⟩ 2 2 [.int .i64 (L : Int), .int .i64 (F : Int)] rfl rfl (newsI wr _ _ _) (intsI _ _) (by unfold maxLen; have := hCl.out; omega) (by have := hCl.out; omega) (grow_le hB.out.size _) ?_; intro v6 w6 hown6 hgrow6 hnil6; have hB6 := Lib.hid (below_app hB.out hO.out hgrow6 hB.out.size (Nat.le_refl _)); have hO6 := Lib.hid hown6; clear hown6 hgrow6 hnil6)
              go_roundw
              case rel => exact ⟨k + 1, by have := hKh.out; omega, by have := hKh.out; go_num, by rw [show r * (2 * h) + 2 * (k + 1) + 2 = z + 2 by have := hZ1.out; omega, ← hE.out, hg2.out, List.map_append]; exact hO6, hB6⟩
              case measure => have := hKh.out; simp [intOf]; omega
          · have hkh : k + 1 = h := by omega
            have hkk : h - 1 = k := by omega
            have hO9 := Lib.hid (show wr.ownsRow w.heap.size 2 1 _ ((r + 1) * (2 * h)) ((circTo n h (r + 1)).map (Value.int .i64)) by rw [hSu.out, hkk, hNx.out, show r * (2 * h) + 2 * h = r * (2 * h) + 2 * k + 2 by omega]; exact hO.out)
            have hge : ¬ ((k + 1 : Nat) : Int) < (h : Int) := by omega
            clear hO hkk
            go_wp2_with fail
            go_roundw
            case rel => exact ⟨r + 1, by omega, by go_num, hO9, hB⟩
            case measure => simp [intOf]; omega
    · have hrn : r = n := by omega
      rw [hrn] at hO
      go_wp2_with fail
      go_ret
      exact ⟨_, rfl, hO.out, hB.out⟩
set_option maxHeartbeats 2000000 in
theorem specCircleRounds_any (T : Int) (w : World) : Calls Try.prog 15 #[.int .i64 T] w (ListPost (circL T) (teamsOk T) w) := by
  have hTe := Lib.hid (l07Teams_any T w)
  cases hq : teamsOk T
  · have hP := Lib.hid (fun hb => list_no (w := w) (w' := w) (show circL T = [] by unfold circL; rw [hq]; rfl) rfl hb)
    rw [hq] at hTe
    generalize ListPost (circL T) false w = Q at *
    go_enter Try.func15, Try.ntmps15
    go_wp2_with (go_at_call 46; (with_reducible refine hTe.out.mono ?_); rintro e' w' ⟨rfl, rfl⟩)
    exact hP.out (Below.refl _ _)
  · obtain ⟨t1, t2, t3⟩ := teams_in hq
    obtain ⟨h, rfl⟩ : ∃ h : Nat, T = 2 * (h : Int) := ⟨(T / 2).toNat, by omega⟩
    obtain ⟨n, hn⟩ : ∃ n : Nat, 2 * h = n + 1 := ⟨2 * h - 1, by omega⟩
    have hTn : (2 * (h : Int)) = (n : Int) + 1 := by omega
    rw [hTn] at hTe hq ⊢
    have hP : Hid (∀ (w' : World) (v : Value), w'.ownsRow w.heap.size 2 1 v (n * (2 * h)) ((circTo n h n).map (Value.int .i64)) → Below w.heap.size w w' → ListPost (circL ((n : Int) + 1)) true w (.returned (.tuple #[v, .bool true])) w') := Lib.hid fun w' v ho hb => by
      have e : circL ((n : Int) + 1) = circTo n h n := by
        unfold circL
        rw [hq, if_pos rfl, show ((n : Int) + 1).toNat = n + 1 by omega, show n + 1 - 1 = n by omega, show (n + 1) / 2 = h by omega]
      rw [e]
      exact list_yes rfl (Nat.le_refl _) (circTo_length n (by omega) n) ho (by have := Nat.mul_le_mul (show n ≤ 15 by omega) (show 2 * h ≤ 16 by omega); omega) hb
    rw [hq] at hTe
    generalize ListPost (circL ((n : Int) + 1)) true w = Q at *
    have hC := Lib.hid (l07Circle_any n h w hn (by omega) (by omega))
    clear hq hTn hn t1 t2 t3
    go_enter Try.func15, Try.ntmps15
    go_wp2_with (first | (go_at_call 46; (with_reducible refine hTe.out.mono ?_); rintro e' w' ⟨rfl, rfl⟩) | (go_at_call 47; (with_reducible refine hC.out.mono ?_); rintro e' w5 ⟨v5, rfl, ho5, hb5⟩; have hF := Lib.hid (hP.out w5 v5 ho5 hb5); clear ho5 hb5))
    exact hF.out
theorem circleRounds_both (x0 : Int) (_ : (Lit.int .i64 x0).wf = true) : ∃ (r0 : List Int) (r1 : Bool), r0.length ≤ 1048576 ∧
    (∀ (B : Nat) (w : World), B ≤ w.heap.size → Calls Try.prog 15 #[.int .i64 x0] w fun e w' => ∃ v', e = .returned (.tuple #[v', .bool r1]) ∧ Own w.heap.size w'.heap.size w' v' 2 1 r0.length (r0.map (Value.int .i64)) ∧ Below w.heap.size w w') ∧
    (∀ (B : Nat) (w : World), B ≤ w.heap.size → Calls Try.prog 16 #[.int .i64 x0] w fun e w' => ∃ v', e = .returned (.tuple #[v', .bool r1]) ∧ Own w.heap.size w'.heap.size w' v' 2 1 r0.length (r0.map (Value.int .i64)) ∧ Below w.heap.size w w') := by
  refine ⟨circL x0, teamsOk x0, ?_, fun _ w _ => specCircleRounds_any x0 w, fun _ w _ => implCircleRounds_any x0 w⟩
  unfold circL
  split
  · rename_i hq
    obtain ⟨t1, t2, t3⟩ := teams_in hq
    rw [circTo_length _ (by omega)]
    have := Nat.mul_le_mul (show x0.toNat - 1 ≤ 15 by omega) (show 2 * (x0.toNat / 2) ≤ 16 by omega)
    omega
  · simp
end Go.Proofs.Ytpmglmpopmppbaa
