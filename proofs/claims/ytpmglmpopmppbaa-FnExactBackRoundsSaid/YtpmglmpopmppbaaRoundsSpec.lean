/- Contracts: whether a list has a number; which games are rounds, on the model's side. -/
import Derived.Test.YtpmglmpopmppbaaCircle
namespace Go.Proofs.Ytpmglmpopmppbaa
open Go.RowKit Go.Lst Go.Plan

set_option maxHeartbeats 1000000 in
theorem l00Has_any (B : Nat) (v : Value) (xs : List Int) (x : Int) (w : World) (h : Lst B w v (xs.map (Value.int .i64))) :
    Calls Try.prog 79 #[v, .int .i64 x] w (Ret (.bool (xs.contains x)) w) := by
  obtain ⟨a, cap, rfl, hl, hc⟩ := h
  rw [List.length_map] at hl ⊢
  have hX : Hid (∀ k, k < xs.length → ∃ b o y, a = some ⟨b, o, none⟩ ∧ w.cell? ⟨b, o + k, none⟩ = some (.int .i64 y) ∧ xs[k]? = some y) := Lib.hid fun k hk => by
    obtain ⟨b, o, ha, _, hb⟩ := hc (by intro h0; simp at h0; rw [h0] at hk; simp at hk)
    have e1 : xs[k]? = some xs[k] := List.getElem?_eq_getElem _
    exact ⟨b, o, xs[k], ha, hb k _ (by rw [List.getElem?_map, e1]; rfl), e1⟩
  clear hc
  have hN : Hid (∀ k, k = xs.length → (∀ i y, i < k → xs[i]? = some y → y ≠ x) → xs.contains x = false) := Lib.hid fun k hk hp => by
    rw [List.contains_eq_mem, decide_eq_false_iff_not]
    intro hm
    obtain ⟨i, hi, he⟩ := List.mem_iff_getElem.1 hm
    exact hp i _ (by omega) (List.getElem?_eq_getElem hi) he
  have hM : Hid (∀ i : Nat, xs[i]? = some x → xs.contains x = true) := Lib.hid fun i hi => by
    rw [List.contains_eq_mem, decide_eq_true_eq]
    exact List.mem_of_getElem? hi
  generalize xs.contains x = q at *
  generalize xs.length = n at *
  unfold maxLen at hl
  go_enter Try.func79, Try.ntmps79
  go_wp2
  go_loopw [5] (fun i wr => ∃ k : Nat, k ≤ n ∧ i = .int .i64 k ∧ Hid (∀ i y, i < k → xs[i]? = some y → y ≠ x) ∧ wr = w) (fun i _ => n - (intOf i).toNat)
  case atStart => exact ⟨0, Nat.zero_le _, rfl, Lib.hid (fun i x hi _ => by omega), rfl⟩
  case round =>
    obtain ⟨k, hk, rfl, hP, rfl⟩ := hrel
    by_cases hlt : k < n
    · obtain ⟨b, o, y, rfl, hcell, hy⟩ := hX.out k hlt
      have hYy := Lib.hid hy
      clear hy
      cases hq : (y == x)
      · have hP2 : Hid (∀ i z, i < k + 1 → xs[i]? = some z → z ≠ x) := Lib.hid fun i z hi hz => by
          by_cases h1 : i < k
          · exact hP.out i z h1 hz
          · have : i = k := by omega
            subst this
            rw [hYy.out] at hz
            cases hz
            exact beq_eq_false_iff_ne.1 hq
        go_wp2
        go_roundw
        case rel => exact ⟨k + 1, by omega, by go_num, hP2, by trivial⟩
        case measure => simp [intOf]; omega
      · have hF := Lib.hid (hM.out k (by rw [← beq_iff_eq.1 hq]; exact hYy.out))
        go_wp2
        go_ret
        exact ⟨0, ret_bool (by rw [hF.out]), rfl⟩
    · have hF := Lib.hid (hN.out k (by omega) hP.out)
      go_wp2
      go_ret
      exact ⟨0, ret_bool (by rw [hF.out]), rfl⟩

theorem modB (a n : Nat) : ((a : Int) % (n : Int)) = ((a % n : Nat) : Int) ∧ ((a : Int).tmod (n : Int)) = ((a % n : Nat) : Int) := by
  refine ⟨(Int.natCast_emod a n).symm, ?_⟩
  rw [Int.tmod_eq_emod_of_nonneg (by omega)]
  exact (Int.natCast_emod a n).symm
theorem divB (a n : Nat) : ((a : Int) / (n : Int)) = ((a / n : Nat) : Int) ∧ ((a : Int).tdiv (n : Int)) = ((a / n : Nat) : Int) := by
  refine ⟨(Int.natCast_ediv a n).symm, ?_⟩
  rw [Int.tdiv_eq_ediv_of_nonneg (by omega)]
  exact (Int.natCast_ediv a n).symm
theorem pairsTo_sub {xs : List Int} {k n : Nat} (h : k ≤ n) : pairsTo xs k <+: pairsTo xs n := by
  obtain ⟨d, rfl⟩ : ∃ d, n = k + d := ⟨n - k, by omega⟩
  clear h
  induction d with
  | zero => exact List.prefix_refl _
  | succ d ih =>
    refine ih.trans ?_
    rw [← Nat.add_assoc, pairsTo_succ]
    exact List.prefix_append _ _
def gamesOk (T : Int) (xs : List Int) : Bool := teamsOk T && sizeOk T xs.length && gamesTo T.toNat xs xs.length
theorem roundsOk_eq (T : Int) (xs : List Int) : roundsOk T xs = (gamesOk T xs && onceTo xs (xs.length / 2)) := by
  unfold roundsOk gamesOk
  rw [once_iff]
  show _ = (_ && decide (pairsL xs).Nodup)
  cases hq : teamsOk T
  · rfl
  · cases hs : sizeOk T xs.length
    · rfl
    · obtain ⟨t1, t2, t3⟩ := teams_in hq
      obtain ⟨t, rfl⟩ : ∃ t : Nat, T = (t : Int) := ⟨T.toNat, by omega⟩
      rw [sizeOk_iff (by omega) (by omega)] at hs
      simp only [Bool.and_eq_true, decide_eq_true_eq] at hs
      have e1 : xs.length = xs.length / t * t := by have := Nat.div_add_mod xs.length t; rw [hs.1.2, Nat.add_zero, Nat.mul_comm] at this; exact this.symm
      rw [Int.toNat_natCast, ← rows_eq (by omega) (by omega) e1 _ (Nat.le_refl _), ← e1]
theorem l07Teams_is {q : Bool} (T : Int) (h : teamsOk T = q) (w : World) : Calls Try.prog 46 #[.int .i64 T] w fun e w' => e = .returned (.bool q) ∧ w = w' := by
  rw [← h]; exact l07Teams_any T w
set_option maxHeartbeats 4000000 in
set_option maxRecDepth 100000 in
theorem l07Games_any (B : Nat) (v : Value) (xs : List Int) (T : Int) (w : World) (h : LstI B w v xs) : Calls Try.prog 72 #[.int .i64 T, v] w (Ret (.bool (gamesOk T xs)) w) := by
  have hV : Hid (gamesOk T xs = (teamsOk T && sizeOk T xs.length && gamesTo T.toNat xs xs.length)) := Lib.hid rfl
  generalize gamesOk T xs = q at *
  cases hq : teamsOk T
  · have hF := hV.out
    rw [hq] at hF
    subst hF
    obtain ⟨a, cap, rfl, _⟩ := h
    generalize xs.length = n at *
    go_enter Try.func72, Try.ntmps72
    go_wp2_with (go_at_call 46; (with_reducible refine (l07Teams_is _ hq _).mono ?_); rintro e' w' ⟨rfl, rfl⟩)
    go_ret
    exact ⟨0, rfl, rfl⟩
  · obtain ⟨t1, t2, t3⟩ := teams_in hq
    obtain ⟨t, rfl⟩ : ∃ t : Nat, T = (t : Int) := ⟨T.toNat, by omega⟩
    have hVv : Hid (q = (sizeOk t xs.length && gamesTo t xs xs.length)) := Lib.hid (by rw [hV.out, hq, Int.toNat_natCast, Bool.true_and])
    have hTe := Lib.hid (fun w' => l07Teams_is (q := true) (t : Int) hq w')
    have hSz : Hid (sizeOk t xs.length = (decide ((t : Int) ≤ xs.length) && decide ((xs.length : Int) % t = 0) && decide ((xs.length : Int) / t ≤ 2 * (t : Int) - 2))) := Lib.hid rfl
    have hPart : Hid (∀ (b o cap k P : Nat), LstI B w (.slice (some ⟨b, o, none⟩) xs.length cap) xs → P ≤ k → k ≤ xs.length → xs.length ≤ cap → cap ≤ maxLen → LstI B w (.slice (some ⟨b, o + P, none⟩) (k - P) (cap - P)) ((xs.drop P).take (k - P))) := Lib.hid fun b o cap k P hh h1 h2 h3 h4 => lstI_part hh P (k - P) (cap - P) (by omega) (by omega) (by omega)
    have hLh := Lib.hid h
    obtain ⟨a, cap, rfl, hl, hcap, hcm, hc⟩ := h.at_
    have hX := Lib.hid hc
    have hSt := Lib.hid (fun k => gamesTo_succ t xs k)
    have hAt : Hid (∀ k y, xs[k]? = some y → gameAt t xs k = (inB y 0 ((t : Int) - 1) && !((xs.drop (k / t * t)).take (k - k / t * t)).contains y)) := Lib.hid fun k y hy => by unfold gameAt; rw [getD_of hy]
    have hM : Hid (∀ k, k ≤ xs.length → gamesTo t xs k = false → gamesTo t xs xs.length = false) := Lib.hid fun k hk hf => gamesTo_no hf hk
    have hZ : Hid (gamesTo t xs 0 = true) := Lib.hid rfl
    clear hV hc h hq
    generalize gamesTo t xs = G at *
    generalize sizeOk t xs.length = sz at *
    generalize hnl : xs.length = n at *
    have hNl := Lib.hid hnl
    clear hnl
    unfold maxLen at hl hcm
    have z1 : ((t : Int) == 0) = false := by rw [beq_eq_false_iff_ne]; omega
    have z2 : ¬ (t : Int) = 0 := by omega
    have z3 : ¬ t = 0 := by omega
    obtain ⟨R, hR⟩ : ∃ R, R = n % t := ⟨_, rfl⟩
    obtain ⟨D, hD⟩ : ∃ D, D = n / t := ⟨_, rfl⟩
    have m1 : (n : Int) % (t : Int) = (R : Int) := by rw [hR]; exact (modB n t).1
    have m2 : (n : Int).tmod (t : Int) = (R : Int) := by rw [hR]; exact (modB n t).2
    have m3 : (n : Int) / (t : Int) = (D : Int) := by rw [hD]; exact (divB n t).1
    have m4 : (n : Int).tdiv (t : Int) = (D : Int) := by rw [hD]; exact (divB n t).2
    have bR : R ≤ 15 := by have := Nat.mod_lt n (show 0 < t by omega); omega
    have bD : D ≤ n := by rw [hD]; exact Nat.div_le_self _ _
    have w1 : IntKind.i64.wrap (R : Int) = (R : Int) := IntWalk.i64_in _ (by omega)
    have w2 : IntKind.i64.wrap (D : Int) = (D : Int) := IntWalk.i64_in _ (by omega)
    have w3 : IntKind.i64.wrap (2 * (t : Int)) = 2 * (t : Int) := IntWalk.i64_in _ (by omega)
    have w4 : IntKind.i64.wrap (2 * (t : Int) - 2) = 2 * (t : Int) - 2 := IntWalk.i64_in _ (by omega)
    have w5 : IntKind.i64.wrap ((t : Int) - 1) = (t : Int) - 1 := IntWalk.i64_in _ (by omega)
    rw [m1, m3] at hSz
    clear hR hD
    by_cases c1 : n < t
    · have d1 : (n : Int) < (t : Int) := by omega
      have hF : q = false := by rw [hVv.out, hSz.out, decide_eq_false (show ¬ (t : Int) ≤ n by omega)]; rfl
      subst hF
      go_enter Try.func72, Try.ntmps72
      go_wp2_with (go_at_call 46; (with_reducible refine (hTe.out _).mono ?_); rintro e' w' ⟨rfl, rfl⟩)
      go_ret
      exact ⟨0, rfl, rfl⟩
    · have d1 : decide ((n : Int) < (t : Int)) = false := decide_eq_false (by omega)
      by_cases c2 : R = 0
      · have d2 : ((R : Int) != 0) = false := by rw [bne_eq_false_iff_eq]; omega
        by_cases c3 : 2 * (t : Int) - 2 < (D : Int)
        · have hF : q = false := by rw [hVv.out, hSz.out, decide_eq_false (show ¬ (D : Int) ≤ 2 * (t : Int) - 2 by omega), Bool.and_false]; rfl
          subst hF
          go_enter Try.func72, Try.ntmps72
          go_wp2_with (go_at_call 46; (with_reducible refine (hTe.out _).mono ?_); rintro e' w' ⟨rfl, rfl⟩)
          go_ret
          exact ⟨0, rfl, rfl⟩
        · have d3 : decide (2 * (t : Int) - 2 < (D : Int)) = false := decide_eq_false c3
          have hF := Lib.hid (show q = G n by rw [hVv.out, hSz.out, decide_eq_true (show (t : Int) ≤ n by omega), decide_eq_true (show (R : Int) = 0 by omega), decide_eq_true (show (D : Int) ≤ 2 * (t : Int) - 2 by omega)]; rfl)
          clear hVv hSz c3
          go_enter Try.func72, Try.ntmps72
          go_wp2_with (go_at_call 46; (with_reducible refine (hTe.out _).mono ?_); rintro e' w' ⟨rfl, rfl⟩)
          go_loopw [6] (fun i wr => ∃ k j : Nat, k ≤ n ∧ i = .int .i64 k ∧ Hid (G k = true) ∧ wr = w.drewN j) (fun i _ => n - (intOf i).toNat)
          case atStart => exact ⟨0, 0, Nat.zero_le _, rfl, hZ, rfl⟩
          case round =>
            obtain ⟨k, j, hk, rfl, hP, rfl⟩ := hrel
            by_cases hlt : k < n
            · obtain ⟨b, o, y, rfl, _, hy, hcell⟩ := hX.out k hlt
              have hS1 := hSt.out k
              rw [hP.out, Bool.true_and, hAt.out k y hy] at hS1
              obtain ⟨Q, hQ⟩ : ∃ Q, Q = k / t := ⟨_, rfl⟩
              obtain ⟨P, hPp⟩ : ∃ P, P = Q * t := ⟨_, rfl⟩
              have hPk : P ≤ k := by rw [hPp, hQ]; exact Nat.div_mul_le_self k t
              have hQk : Q ≤ k := by rw [hQ]; exact Nat.div_le_self k t
              rw [← hQ, ← hPp] at hS1
              have p1 : (k : Int) / (t : Int) = (Q : Int) := by rw [hQ]; exact (divB k t).1
              have p2 : (k : Int).tdiv (t : Int) = (Q : Int) := by rw [hQ]; exact (divB k t).2
              have p3 : (Q : Int) * (t : Int) = (P : Int) := by rw [hPp, Int.natCast_mul]
              have p4 : IntKind.i64.wrap (Q : Int) = (Q : Int) := IntWalk.i64_in _ (by omega)
              have p5 : IntKind.i64.wrap (P : Int) = (P : Int) := IntWalk.i64_in _ (by omega)
              have p6 : (0 : Int) ≤ (P : Int) := by omega
              have p7 : (P : Int) ≤ (k : Int) := by omega
              have p8 : (k : Int) ≤ (cap : Int) := by omega
              have hSub := Lib.hid (hPart.out b o cap k P hLh.out hPk hk hcap (by unfold maxLen; omega))
              rw [← World.cell?_drewN (n := j)] at hcell
              have hHas : Hid (∀ nn, Calls Try.prog 79 #[.slice (some ⟨b, o + P, none⟩) (k - P) (cap - P), .int .i64 y] ((w.drewN j).drewN nn) (Ret (.bool (((xs.drop P).take (k - P)).contains y)) ((w.drewN j).drewN nn))) := Lib.hid fun nn => l00Has_any _ _ _ y _ ((hSub.out.drewN j).drewN nn).lst
              clear hQ hPp hy
              generalize hwo : w.drewN j = wo at *
              have hWo := Lib.hid hwo
              clear hwo
              generalize ((xs.drop P).take (k - P)).contains y = hq2 at *
              cases hq : inB y 0 ((t : Int) - 1)
              · rw [hq, Bool.false_and] at hS1
                have hV := Lib.hid (hF.out.trans (hM.out (k + 1) (by omega) hS1))
                clear hS1
                go_wp2_with fail
                go_quiet ((go_at_call 55; with_reducible exact Ret.quiet (Ret.same (l00In_is _ _ _ hq _))))
                go_wp2
                go_ret
                exact ⟨_, ret_bool (by rw [hV.out]), by rw [← hWo.out, World.drewN_drewN]⟩
              · rw [hq, Bool.true_and] at hS1
                cases hq2
                · have hP2 := Lib.hid (show G (k + 1) = true from hS1)
                  clear hS1 hP
                  go_wp2_with fail
                  go_quiet ((first | (go_at_call 55; with_reducible exact Ret.quiet (Ret.same (l00In_is _ _ _ hq _))) | (go_at_call 79; with_reducible exact Ret.quiet (hHas.out _))))
                  go_wp2
                  go_roundw
                  case rel => exact ⟨k + 1, _, by omega, by go_num, hP2, by rw [← hWo.out, World.drewN_drewN]⟩
                  case measure => simp [intOf]; omega
                · have hV := Lib.hid (hF.out.trans (hM.out (k + 1) (by omega) hS1))
                  clear hS1
                  go_wp2_with fail
                  go_quiet ((first | (go_at_call 55; with_reducible exact Ret.quiet (Ret.same (l00In_is _ _ _ hq _))) | (go_at_call 79; with_reducible exact Ret.quiet (hHas.out _))))
                  go_wp2
                  go_ret
                  exact ⟨_, ret_bool (by rw [hV.out]), by rw [← hWo.out, World.drewN_drewN]⟩
            · have hV := Lib.hid (hF.out.trans (show G n = true by rw [show n = k by omega]; exact hP.out))
              have hge : ¬ (k : Int) < (n : Int) := by omega
              go_wp2_with fail
              go_ret
              exact ⟨_, ret_bool (by rw [hV.out]), rfl⟩
      · have d2 : ((R : Int) != 0) = true := by rw [bne_iff_ne]; omega
        have hF : q = false := by rw [hVv.out, hSz.out, decide_eq_false (show ¬ (R : Int) = 0 by omega), Bool.and_false]; rfl
        subst hF
        go_enter Try.func72, Try.ntmps72
        go_wp2_with (go_at_call 46; (with_reducible refine (hTe.out _).mono ?_); rintro e' w' ⟨rfl, rfl⟩)
        go_ret
        exact ⟨0, rfl, rfl⟩
theorem l07Games_is {q : Bool} (B : Nat) (v : Value) (xs : List Int) (T : Int) (w : World) (h : LstI B w v xs) (hq : gamesOk T xs = q) : Calls Try.prog 72 #[.int .i64 T, v] w (Ret (.bool q) w) := by
  rw [← hq]; exact l07Games_any B v xs T w h
set_option maxHeartbeats 4000000 in
set_option maxRecDepth 100000 in
theorem l07Rounds_any (B : Nat) (v : Value) (xs : List Int) (T : Int) (w : World) (h : LstI B w v xs) : Calls Try.prog 50 #[.int .i64 T, v] w (Ret (.bool (roundsOk T xs)) w) := by
  have hV := Lib.hid (roundsOk_eq T xs)
  have hC := Lib.hid (fun q hq => l07Games_is (q := q) B v xs T w h hq)
  cases hq : gamesOk T xs
  · have hF := Lib.hid (show roundsOk T xs = false by rw [hV.out, hq]; rfl)
    obtain ⟨a, cap, rfl, _⟩ := h
    generalize xs.length = n at *
    go_enter Try.func50, Try.ntmps50
    go_wp2_with fail
    with_reducible refine (hC.out _ hq).mono ?_
    rintro e' w' ⟨m, rfl, rfl⟩
    go_wp2_with fail
    go_ret
    exact ⟨_, ret_bool (by rw [hF.out]), rfl⟩
  · have hEv : Hid (xs.length % 2 = 0) := Lib.hid (by
      unfold gamesOk at hq
      simp only [Bool.and_eq_true] at hq
      obtain ⟨t1, t2, t3⟩ := teams_in hq.1.1
      have hs := hq.1.2
      obtain ⟨t, rfl⟩ : ∃ t : Nat, T = (t : Int) := ⟨T.toNat, by omega⟩
      rw [sizeOk_iff (by omega) (by omega)] at hs
      simp only [Bool.and_eq_true, decide_eq_true_eq] at hs
      have e1 := Nat.div_add_mod xs.length t
      rw [hs.1.2, Nat.add_zero] at e1
      obtain ⟨u, hu⟩ : ∃ u, t = 2 * u := ⟨t / 2, by omega⟩
      rw [← e1, hu, Nat.mul_assoc, Nat.mul_mod_right])
    have hVv : Hid (roundsOk T xs = onceTo xs (xs.length / 2)) := Lib.hid (by rw [hV.out, hq, Bool.true_and])
    generalize roundsOk T xs = q at *
    have hM : Hid (∀ k, k ≤ xs.length / 2 → onceTo xs k = false → onceTo xs (xs.length / 2) = false) := Lib.hid fun k hk hf => onceTo_no hf hk
    have hSt := Lib.hid (onceTo_succ xs)
    have hIn : Hid (∀ (k j : Nat), (pairsTo xs (j + 1)).contains (pairAt xs k) = ((pairsTo xs j).contains (pairAt xs k) || (pairAt xs k == pairAt xs j))) := Lib.hid fun k j => by rw [pairsTo_succ, List.contains_append, List.contains_cons]; simp [List.contains_nil]
    have hI0 : Hid (∀ k, (pairsTo xs 0).contains (pairAt xs k) = false) := Lib.hid fun k => by simp [pairsTo]
    have hMo : Hid (∀ k j, j ≤ k → (pairsTo xs j).contains (pairAt xs k) = true → (pairsTo xs k).contains (pairAt xs k) = true) := Lib.hid fun k j hj hh => by
      rw [List.contains_iff_mem] at hh ⊢
      exact (pairsTo_sub hj).subset hh
    have hG : Hid (∀ (k : Nat) (y : Int), xs[k]? = some y → xs.getD k 0 = y) := Lib.hid fun k y hy => getD_of hy
    have hPa : Hid (∀ k j, (pairAt xs k == pairAt xs j) = ((xs.getD (2 * k) 0 == xs.getD (2 * j) 0) && (xs.getD (2 * k + 1) 0 == xs.getD (2 * j + 1) 0))) := Lib.hid fun k j => rfl
    have hZ : Hid (onceTo xs 0 = true) := Lib.hid rfl
    obtain ⟨a, cap, rfl, hl, hcap, hcm, hc⟩ := h.at_
    have hX := Lib.hid hc
    have hQ := Lib.hid (hC.out _ hq)
    clear hc h hV hC hq
    obtain ⟨M, hM0⟩ : ∃ M, xs.length = 2 * M := ⟨xs.length / 2, by have := hEv.out; omega⟩
    have hM2 : xs.length / 2 = M := by omega
    rw [hM2] at hM hVv
    generalize xs.length = n at *
    have hMm := Lib.hid hM0
    clear hM0 hM2
    unfold maxLen at hl hcm
    go_enter Try.func50, Try.ntmps50
    go_wp2_with fail
    with_reducible refine hQ.out.mono ?_
    rintro e' w' ⟨m0, rfl, rfl⟩
    go_wp2_with fail
    go_loopw [5] (fun i wr => ∃ t s j : Nat, t ≤ M ∧ i = .int .i64 (s : Int) ∧ Hid (s = 2 * t) ∧ Hid (onceTo xs t = true) ∧ wr = w.drewN j) (fun i _ => n - (intOf i).toNat)
    case atStart => exact ⟨0, 0, m0, Nat.zero_le _, rfl, Lib.hid rfl, hZ, rfl⟩
    case round =>
      obtain ⟨t, s, j, ht, rfl, hS, hP, rfl⟩ := hrel
      by_cases hlt : t < M
      · have hs1 : (s : Int) < (n : Int) := by have := hS.out; have := hMm.out; omega
        have hTt := Lib.hid hlt
        go_wp2_with fail
        go_loopw [6] (fun i wr => ∃ u r j : Nat, u ≤ t ∧ i = .int .i64 (r : Int) ∧ Hid (r = 2 * u) ∧ Hid ((pairsTo xs u).contains (pairAt xs t) = false) ∧ wr = w.drewN j) (fun i _ => s - (intOf i).toNat)
        case atStart => exact ⟨0, 0, j, Nat.zero_le _, rfl, Lib.hid rfl, Lib.hid (hI0.out t), rfl⟩
        case round =>
          obtain ⟨u, r, j, hu, rfl, hR, hC2, rfl⟩ := hrel
          by_cases hlu : u < t
          · obtain ⟨b, o, x1, rfl, _, hx1, cx1⟩ := hX.out s (by have := hTt.out; have := hS.out; have := hMm.out; omega)
            obtain ⟨b2, o2, x2, he, _, hx2, cx2⟩ := hX.out (s + 1) (by have := hTt.out; have := hS.out; have := hMm.out; omega)
            injection he with he
            injection he with e1 e2 _
            subst e1 e2
            obtain ⟨b2, o2, y1, he, _, hy1, cy1⟩ := hX.out r (by have := hTt.out; have := hR.out; have := hMm.out; omega)
            injection he with he
            injection he with e1 e2 _
            subst e1 e2
            obtain ⟨b2, o2, y2, he, _, hy2, cy2⟩ := hX.out (r + 1) (by have := hTt.out; have := hR.out; have := hMm.out; omega)
            injection he with he
            injection he with e1 e2 _
            subst e1 e2
            have hNe := hIn.out t u
            rw [hC2.out, Bool.false_or, hPa.out, ← hS.out, ← hR.out, hG.out _ _ hx1, hG.out _ _ hx2, hG.out _ _ hy1, hG.out _ _ hy2] at hNe
            rw [← World.cell?_drewN (n := j)] at cx1 cx2 cy1 cy2
            have j1 : (r : Int) < (n : Int) := by have := hTt.out; have := hR.out; have := hMm.out; omega
            have j2 : (s : Int) + 1 < (n : Int) := by have := hTt.out; have := hS.out; have := hMm.out; omega
            have j3 : (r : Int) + 1 < (n : Int) := by have := hTt.out; have := hR.out; have := hMm.out; omega
            have j4 : (0 : Int) ≤ (s : Int) + 1 := by omega
            have j5 : (0 : Int) ≤ (r : Int) + 1 := by omega
            have j6 : ((s : Int) + 1).toNat = s + 1 := by omega
            have j7 : ((r : Int) + 1).toNat = r + 1 := by omega
            have j8 : IntKind.i64.wrap ((s : Int) + 1) = (s : Int) + 1 := IntWalk.i64_in _ (by omega)
            have j9 : IntKind.i64.wrap ((r : Int) + 1) = (r : Int) + 1 := IntWalk.i64_in _ (by omega)
            have jr : (r : Int) < (s : Int) := by have := hS.out; have := hR.out; omega
            have hUu := Lib.hid hlu
            clear hx1 hx2 hy1 hy2 hlu
            generalize hwo : w.drewN j = wo at *
            have hWo := Lib.hid hwo
            clear hwo
            cases q1 : (x1 == y1)
            · rw [q1, Bool.false_and] at hNe
              have hC3 := Lib.hid hNe
              clear hNe hC2
              go_wp2_with fail
              go_quiet (fail)
              go_wp2
              go_roundw
              case rel => exact ⟨u + 1, r + 2, _, by have := hUu.out; omega, by first | rfl | go_num, Lib.hid (by have := hR.out; omega), hC3, by rw [← hWo.out, World.drewN_drewN]⟩
              case measure => have := hUu.out; have := hS.out; have := hR.out; simp [intOf]; omega
            · rw [q1, Bool.true_and] at hNe
              cases q2 : (x2 == y2)
              · rw [q2] at hNe
                have hC3 := Lib.hid hNe
                clear hNe hC2
                go_wp2_with fail
                go_quiet (fail)
                go_wp2
                go_roundw
                case rel => exact ⟨u + 1, r + 2, _, by have := hUu.out; omega, by first | rfl | go_num, Lib.hid (by have := hR.out; omega), hC3, by rw [← hWo.out, World.drewN_drewN]⟩
                case measure => have := hUu.out; have := hS.out; have := hR.out; simp [intOf]; omega
              · rw [q2] at hNe
                have hV := Lib.hid (hVv.out.trans (hM.out (t + 1) (by have := hTt.out; omega) (by rw [hSt.out, hMo.out t (u + 1) (by have := hUu.out; omega) hNe, Bool.not_true, Bool.and_false])))
                clear hNe hC2
                go_wp2_with fail
                go_quiet (fail)
                go_wp2
                go_ret
                exact ⟨_, ret_bool (by rw [hV.out]), by rw [← hWo.out, World.drewN_drewN]⟩
          · have hut : u = t := by omega
            have hP2 := Lib.hid (show onceTo xs (t + 1) = true by rw [hSt.out, hP.out, ← hut, hut, show (pairsTo xs t).contains (pairAt xs t) = false by rw [← hut]; rw [hut]; have := hC2.out; rw [hut] at this; exact this]; rfl)
            have hge : ¬ (r : Int) < (s : Int) := by have := hS.out; have := hR.out; omega
            have hs3 : (s : Int) + 2 ≤ (n : Int) := by have := hTt.out; have := hS.out; have := hMm.out; omega
            go_wp2_with fail
            go_roundw
            case rel => exact ⟨t + 1, s + 2, j, by have := hTt.out; omega, by first | rfl | go_num, Lib.hid (by have := hS.out; omega), hP2, by trivial⟩
            case measure => have := hTt.out; have := hS.out; have := hMm.out; simp [intOf]; omega
      · have hV := Lib.hid (hVv.out.trans (show onceTo xs M = true by rw [show M = t by omega]; exact hP.out))
        have hge : ¬ (s : Int) < (n : Int) := by have := hS.out; have := hMm.out; omega
        go_wp2_with fail
        go_ret
        exact ⟨_, ret_bool (by rw [hV.out]), rfl⟩
set_option maxHeartbeats 1000000 in
theorem specAreRounds_any (B : Nat) (v : Value) (xs : List Int) (T : Int) (w : World) (h : LstI B w v xs) : Calls Try.prog 20 #[.int .i64 T, v] w (Ret (.bool (roundsOk T xs)) w) := by
  have hC := Lib.hid (l07Rounds_any B v xs T w h)
  obtain ⟨a, cap, rfl, _⟩ := h
  generalize roundsOk T xs = q at *
  go_enter Try.func20, Try.ntmps20
  go_wp2_with fail
  refine hC.out.mono ?_
  rintro e' w' ⟨m, rfl, rfl⟩
  go_wp2_with fail
  go_ret
  exact Ret.later _ _ _
end Go.Proofs.Ytpmglmpopmppbaa
