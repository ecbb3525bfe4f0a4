/- Contracts: the least minute for all zones; the model's side. -/
import Derived.Test.YtncbohecppdfnaaMeet
namespace Go.Proofs.Ytncbohecppdfnaa
open Go.RowKit Go.Lst

theorem rem_more (x : Int) : (x + 1440) % 1440 = remG x 1440 := by unfold remG; omega
theorem rem_more2 (x : Int) (h : 0 ≤ x + 1440) : (x + 1440).tmod 1440 = remG x 1440 := by rw [Int.tmod_eq_emod_of_nonneg h, rem_more]
theorem l07Zone_is {q : Bool} (z : Int) (h : inB z (-720) 840 = q) (w : World) : Calls Try.prog 44 #[.int .i64 z] w fun e w' => e = .returned (.bool q) ∧ w = w' := by
  rw [← h]; exact l07Zone_any z w
set_option maxHeartbeats 8000000 in
set_option maxRecDepth 100000 in
theorem specMeetingTime_any (B : Nat) (v : Value) (zs : List Int) (o c l : Int) (w : World) (h : LstI B w v zs) :
    Calls Try.prog 12 #[v, .int .i64 o, .int .i64 c, .int .i64 l] w (MeetIs zs o c l w) := by
  have hNo : Hid (meetOk zs o c l = false → MeetIs zs o c l w (.returned (.tuple #[.int .i64 0, .bool false])) w) := Lib.hid fun hh => meet_no hh (Below.refl _ _)
  have hNone : Hid (meetOk zs o c l = true → (∀ t, t < 1440 → anyClosed zs o c l t = true) → MeetIs zs o c l w (.returned (.tuple #[.int .i64 0, .bool false])) w) := Lib.hid fun hh hn => meet_none hh hn (Below.refl _ _)
  have hSome : Hid (∀ (t : Nat), meetOk zs o c l = true → t < 1440 → (∀ i, i < t → anyClosed zs o c l i = true) → anyClosed zs o c l t = false → MeetIs zs o c l w (.returned (.tuple #[.int .i64 t, .bool true])) w) := Lib.hid fun t hh ht hn hf => meet_some hh ht hn hf (Below.refl _ _)
  have hOk : Hid (meetOk zs o c l = (decide (1 ≤ zs.length) && decide (zs.length ≤ 8) && allIn zs (-720) 840 && inB o 0 1439 && inB c o 1440 && inB l 1 1440)) := Lib.hid rfl
  generalize MeetIs zs o c l w = Q at *
  obtain ⟨a, cap, rfl, hl, hcap, hcm, hc⟩ := h.at_
  have hX := Lib.hid hc
  have hAn : Hid (∀ k z, zs[k]? = some z → inB z (-720) 840 = false → allIn zs (-720) 840 = false) := Lib.hid fun k z hz hi => all_not hz hi
  have hAy : Hid ((∀ i z, i < zs.length → zs[i]? = some z → inB z (-720) 840 = true) → allIn zs (-720) 840 = true) := Lib.hid fun hp => all_upto hp
  have hTk : Hid (∀ (k : Nat) (z t : Int), zs[k]? = some z → (zs.take (k + 1)).any (closedAt o c l t) = ((zs.take k).any (closedAt o c l t) || closedAt o c l t z)) := Lib.hid fun k z t hz => by
    rw [List.take_add_one, hz, List.any_append]; simp
  have hTn : Hid (∀ (t : Nat), (zs.take zs.length).any (closedAt o c l t) = anyClosed zs o c l t) := Lib.hid fun t => by rw [List.take_length]; rfl
  clear h hc
  generalize zs.length = n at *
  unfold maxLen at hl hcm
  by_cases h1 : n < 1
  · have d1 : (n : Int) < 1 := by omega
    have hF := Lib.hid (hNo.out (by rw [hOk.out, decide_eq_false (show ¬ 1 ≤ n by omega)]; rfl))
    clear hNo hNone hSome
    go_enter Try.func12, Try.ntmps12
    go_wp2_with fail
    exact hF.out
  · have d1 : decide ((n : Int) < 1) = false := decide_eq_false (by omega)
    by_cases h2 : 8 < n
    · have d2 : (8 : Int) < (n : Int) := by omega
      have hF := Lib.hid (hNo.out (by rw [hOk.out, decide_eq_false (show ¬ n ≤ 8 by omega)]; simp))
      clear hNo hNone hSome
      go_enter Try.func12, Try.ntmps12
      go_wp2_with fail
      exact hF.out
    · have d2 : decide ((8 : Int) < (n : Int)) = false := decide_eq_false (by omega)
      cases h4 : inB o 0 1439
      · have hF := Lib.hid (hNo.out (by rw [hOk.out, h4]; simp))
        clear hNo hNone hSome
        go_enter Try.func12, Try.ntmps12
        go_wp2_with (go_at_call 43; (with_reducible refine (l00In_any _ _ _ _).mono ?_); rintro e' w' ⟨rfl, rfl⟩; rw [h4])
        exact hF.out
      · cases h5 : inB c o 1440
        · have hF := Lib.hid (hNo.out (by rw [hOk.out, h5]; simp))
          clear hNo hNone hSome
          go_enter Try.func12, Try.ntmps12
          go_wp2_with (go_at_call 43; (with_reducible refine (l00In_any _ _ _ _).mono ?_); rintro e' w' ⟨rfl, rfl⟩; first | rw [h4] | rw [h5])
          exact hF.out
        · cases h6 : inB l 1 1440
          · have hF := Lib.hid (hNo.out (by rw [hOk.out, h6]; simp))
            clear hNo hNone hSome
            go_enter Try.func12, Try.ntmps12
            go_wp2_with (go_at_call 43; (with_reducible refine (l00In_any _ _ _ _).mono ?_); rintro e' w' ⟨rfl, rfl⟩; first | rw [h4] | rw [h5] | rw [h6])
            exact hF.out
          · have hlb := inB_true h6
            go_enter Try.func12, Try.ntmps12
            go_wp2_with (go_at_call 43; (with_reducible refine (l00In_any _ _ _ _).mono ?_); rintro e' w' ⟨rfl, rfl⟩; first | rw [h4] | rw [h5] | rw [h6])
            go_loopw [41] (fun i wr => ∃ k : Nat, k ≤ n ∧ i = .int .i64 k ∧ Hid (∀ i z, i < k → zs[i]? = some z → inB z (-720) 840 = true) ∧ w = wr) (fun i _ => n - (intOf i).toNat)
            case atStart => exact ⟨0, Nat.zero_le _, rfl, Lib.hid (fun i z hi _ => by omega), rfl⟩
            case round =>
              obtain ⟨k, hk, rfl, hP, rfl⟩ := hrel
              by_cases hlt : k < n
              · obtain ⟨b, o2, z, rfl, _, hz, hcell⟩ := hX.out k hlt
                have hZz := Lib.hid hz
                clear hz
                cases hq : inB z (-720) 840
                · have hF := Lib.hid (hNo.out (by rw [hOk.out, hAn.out k z hZz.out hq]; simp))
                  clear hNo hNone hSome hP
                  go_wp2_with (go_at_call 44; (with_reducible refine (l07Zone_is _ hq _).mono ?_); rintro e' w' ⟨rfl, rfl⟩)
                  exact hF.out
                · have hP2 : Hid (∀ i z, i < k + 1 → zs[i]? = some z → inB z (-720) 840 = true) := Lib.hid fun i y hi hy => by
                    by_cases h1 : i < k
                    · exact hP.out i y h1 hy
                    · have : i = k := by omega
                      subst this
                      rw [hZz.out] at hy
                      cases hy
                      exact hq
                  clear hP
                  go_wp2_with (go_at_call 44; (with_reducible refine (l07Zone_is _ hq _).mono ?_); rintro e' w' ⟨rfl, rfl⟩)
                  go_roundw
                  case rel => exact ⟨k + 1, by omega, by go_num, hP2, by trivial⟩
                  case measure => simp [intOf]; omega
              · have hAl : Hid (∀ i z, zs[i]? = some z → i < n → inB z (-720) 840 = true) := Lib.hid fun i z hz hi => hP.out i z (by omega) hz
                have hK := hOk.out
                rw [decide_eq_true (show 1 ≤ n by omega), decide_eq_true (show n ≤ 8 by omega), hAy.out (fun i z hi hz => hAl.out i z hz hi), h4, h5, h6] at hK
                have hNone2 := Lib.hid (fun hn => hNone.out hK hn)
                have hSome2 := Lib.hid (fun t ht hn hf => hSome.out t hK ht hn hf)
                clear hNo hNone hSome hK hOk hP hAn hAy h4 h5 h6
                go_wp2_with fail
                go_loopw [11] (fun tv wr => ∃ t : Nat, t ≤ 1440 ∧ tv = .int .i64 t ∧ Hid (∀ i, i < t → anyClosed zs o c l i = true) ∧ w = wr) (fun tv _ => 1440 - (intOf tv).toNat)
                case atStart => exact ⟨0, Nat.zero_le _, rfl, Lib.hid (fun i hi => by omega), rfl⟩
                case round =>
                  obtain ⟨t, ht, rfl, hP, rfl⟩ := hrel
                  by_cases htt : t < 1440
                  · go_wp2_with fail
                    go_loopw [12, 57] (fun fv iv wr => ∃ j : Nat, j ≤ n ∧ iv = .int .i64 j ∧ fv = .bool (!(zs.take j).any (closedAt o c l t)) ∧ w = wr) (fun _ iv _ => n - (intOf iv).toNat)
                    case atStart => exact ⟨0, Nat.zero_le _, rfl, by simp, rfl⟩
                    case round =>
                      obtain ⟨j, hj, rfl, rfl, rfl⟩ := hrel
                      by_cases hlj : j < n
                      · obtain ⟨b, o2, z, rfl, _, hz, hcell⟩ := hX.out j hlj
                        have hzi := inB_true (hAl.out j z hz hlj)
                        have hTk1 := Lib.hid (hTk.out j z t hz)
                        have hw1 : IntKind.i64.wrap ((t : Int) + z) = (t : Int) + z := IntWalk.i64_in _ (by omega)
                        have hw2 : IntKind.i64.wrap ((t : Int) + z + 1440) = (t : Int) + z + 1440 := IntWalk.i64_in _ (by omega)
                        have t1 := rem_more ((t : Int) + z)
                        have t2 := rem_more2 ((t : Int) + z) (by omega)
                        have hr := remG_in (x := (t : Int) + z) (show (1 : Int) ≤ 1440 by omega)
                        have hV := Lib.hid (show closedAt o c l t z = (decide (remG ((t : Int) + z) 1440 < o) || decide (c < remG ((t : Int) + z) 1440 + l)) from rfl)
                        generalize remG ((t : Int) + z) 1440 = r at *
                        have hw3 : IntKind.i64.wrap r = r := IntWalk.i64_in _ (by omega)
                        have hw4 : IntKind.i64.wrap (r + l) = r + l := IntWalk.i64_in _ (by omega)
                        clear hz hzi
                        generalize closedAt o c l t z = q at *
                        generalize (zs.take j).any (closedAt o c l t) = fq at *
                        by_cases u1 : r < o
                        · have hq := hV.out
                          rw [decide_eq_true u1, Bool.true_or] at hq
                          subst hq
                          go_wp2_with fail
                          go_roundw
                          case rel => exact ⟨j + 1, by omega, by go_num, by rw [hTk1.out, Bool.or_true]; rfl, by trivial⟩
                          case measure => simp [intOf]; omega
                        · have d1 : decide (r < o) = false := decide_eq_false u1
                          have hq := hV.out
                          rw [d1, Bool.false_or] at hq
                          by_cases u2 : c < r + l
                          · rw [decide_eq_true u2] at hq
                            subst hq
                            clear u1
                            go_wp2_with fail
                            go_roundw
                            case rel => exact ⟨j + 1, by omega, by go_num, by rw [hTk1.out, Bool.or_true]; rfl, by trivial⟩
                            case measure => simp [intOf]; omega
                          · have d2 : decide (c < r + l) = false := decide_eq_false u2
                            rw [d2] at hq
                            subst hq
                            clear u1 u2
                            go_wp2_with fail
                            go_roundw
                            case rel => exact ⟨j + 1, by omega, by go_num, by rw [hTk1.out, Bool.or_false], by trivial⟩
                            case measure => simp [intOf]; omega
                      · have hjn : j = n := by omega
                        have hTn1 := hTn.out t
                        rw [← hjn] at hTn1
                        have hSt := Lib.hid (fun (ht : t < 1440) (hf : anyClosed zs o c l t = false) => hSome2.out t ht hP.out hf)
                        have hP2 : Hid (anyClosed zs o c l t = true → ∀ i, i < t + 1 → anyClosed zs o c l i = true) := Lib.hid fun hq i hi => by
                          by_cases e : i = t
                          · subst e; exact hq
                          · exact hP.out i (by omega)
                        rw [hTn1]
                        generalize anyClosed zs o c l t = q at *
                        clear hTn1 hTn
                        cases q
                        · have hF := Lib.hid (hSt.out htt rfl)
                          go_wp2_with fail
                          exact hF.out
                        · have hP3 := Lib.hid (hP2.out rfl)
                          go_wp2_with fail
                          go_roundw
                          case rel => exact ⟨t + 1, by omega, by go_num, hP3, by trivial⟩
                          case measure => simp [intOf]; omega
                  · have hF := Lib.hid (hNone2.out (fun i hi => hP.out i (by omega)))
                    go_wp2_with fail
                    exact hF.out
end Go.Proofs.Ytncbohecppdfnaa
