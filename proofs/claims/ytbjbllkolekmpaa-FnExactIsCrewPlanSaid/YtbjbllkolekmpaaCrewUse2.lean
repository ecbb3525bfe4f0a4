/- Contracts: CrewUse, in the model and in the program. -/
import Derived.Test.YtbjbllkolekmpaaCrewUse
namespace Go.Proofs.Ytbjbllkolekmpaa
open Go.RowKit Go.Lst

def UsePost (xs : List TaskD) (st : List Int) (w : World) (e : Ending) (w' : World) : Prop :=
  ∃ v', e = .returned (.tuple #[v', .bool (useOk xs st)]) ∧ Own w.heap.size w'.heap.size w' v' 2 1 (useRes xs st).length ((useRes xs st).map (Value.int .i64)) ∧ Below w.heap.size w w'
theorem use_no {xs : List TaskD} {st : List Int} {w w' : World} (h : useOk xs st = false) (hb : Below w.heap.size w w') : UsePost xs st w (.returned (.tuple #[.slice none 0 0, .bool false])) w' := by
  have hr : useRes xs st = [] := by unfold useRes; rw [if_neg (by rw [h]; simp)]
  refine ⟨.slice none 0 0, by rw [h], ?_, hb⟩
  rw [hr]
  exact own_nil
theorem use_yes {xs : List TaskD} {st : List Int} {w w1 w' : World} {v' : Value} (h : useOk xs st = true) (hb : Below w.heap.size w w1) (hO : Own w1.heap.size w'.heap.size w' v' 2 1 (useRes xs st).length ((useRes xs st).map (Value.int .i64))) (hb' : Below w1.heap.size w1 w') :
    UsePost xs st w (.returned (.tuple #[v', .bool true])) w' := ⟨v', by rw [h], hO.mono hb.size (Nat.le_refl _), below_on hb (Nat.le_refl _) hb'⟩

set_option maxHeartbeats 2000000 in
theorem specCrewUse_any (B : Nat) (v1 v2 : Value) (xs : List TaskD) (st : List Int) (w : World) (h1 : LstTask B w v1 xs) (h2 : LstI B w v2 st) (hB : B ≤ w.heap.size) : Calls Try.prog 14 #[v1, v2] w (UsePost xs st w) := by
  have hA := Lib.hid (l03Starts_any B v1 v2 xs st w h1 h2)
  have hNo : Hid (useOk xs st = false → ∀ w', Below w.heap.size w w' → UsePost xs st w (.returned (.tuple #[.slice none 0 0, .bool false])) w') := Lib.hid fun h w' hb => use_no h hb
  have hU : Hid (useOk xs st = true → ∀ w1, Below w.heap.size w w1 → Calls Try.prog 39 #[v1, v2] w1 fun e w' => ∃ v', e = .returned v' ∧ UsePost xs st w (.returned (.tuple #[v', .bool true])) w') := Lib.hid fun h w1 hb =>
    (l03Use_any B v1 v2 xs st w1 (h1.below hb hB) (h2.below hb hB) (Nat.le_trans hB hb.size) h).mono fun e w' ⟨v', he, hO, hb'⟩ => ⟨v', he, use_yes h hb hO hb'⟩
  have hEn : Hid (startsOk xs st = true → ∀ w1, Below w.heap.size w w1 → Calls Try.prog 38 #[v1, v2] w1 (Ret (.int .i64 (endOf xs st)) w1)) := Lib.hid fun h w1 hb => by
    obtain ⟨a, b, c⟩ := startsOk_of h
    exact l03End_any B v1 v2 xs st w1 (h1.below hb hB) (h2.below hb hB) (areTasks_iff.1 a).fit (by omega) ((starts_bnd c).mono (by omega) (by omega))
  have hk : Hid (useOk xs st = (startsOk xs st && decide (endOf xs st ≤ 400))) := Lib.hid rfl
  obtain ⟨a, cap, rfl, _⟩ := h1
  obtain ⟨a2, cap2, rfl, _⟩ := h2
  generalize UsePost xs st w = Q at *
  generalize useOk xs st = ok at *
  cases hq : startsOk xs st
  · rw [hq] at hA
    have hF := Lib.hid (hNo.out (by rw [hk.out, hq]; rfl))
    clear hq hU hEn hk hNo
    go_enter Try.func14, Try.ntmps14
    go_wp2_with fail
    refine (hA.out).mono ?_
    rintro e w1 ⟨m, rfl, rfl⟩
    have hR := Lib.hid (hF.out _ (below_drawn w m))
    go_wp2_with fail
    first | exact hR.out | (go_ret2; exact hR.out)
  · rw [hq] at hA
    have hE2 := Lib.hid (hEn.out hq)
    by_cases h400 : 400 < endOf xs st
    · have hF := Lib.hid (hNo.out (by rw [hk.out, hq, decide_eq_false (by omega)]; rfl))
      clear hq hU hEn hk hNo
      generalize endOf xs st = en at *
      go_enter Try.func14, Try.ntmps14
      go_wp2_with fail
      refine (hA.out).mono ?_
      rintro e w1 ⟨m, rfl, rfl⟩
      have hb1 := below_drawn w m
      have hE3 := Lib.hid (hE2.out _ hb1)
      generalize w.drewN m = w1 at *
      go_wp2_with fail
      refine (hE3.out).mono ?_
      rintro e w2 ⟨m2, rfl, rfl⟩
      have hR := Lib.hid (hF.out _ (Lst.Below.drewN hb1 m2))
      go_wp2_with fail
      first | exact hR.out | (go_ret2; exact hR.out)
    · have hU2 := Lib.hid (hU.out (by rw [hk.out, hq, decide_eq_true (by omega)]; rfl))
      clear hq hU hEn hk hNo
      have hnd : decide (400 < endOf xs st) = false := decide_eq_false h400
      generalize endOf xs st = en at *
      go_enter Try.func14, Try.ntmps14
      go_wp2_with fail
      refine (hA.out).mono ?_
      rintro e w1 ⟨m, rfl, rfl⟩
      have hb1 := below_drawn w m
      have hE3 := Lib.hid (hE2.out _ hb1)
      generalize w.drewN m = w1 at *
      go_wp2_with fail
      refine (hE3.out).mono ?_
      rintro e w2 ⟨m2, rfl, rfl⟩
      have hR := Lib.hid (hU2.out _ (Lst.Below.drewN hb1 m2))
      go_wp2_with fail
      refine (hR.out).mono ?_
      rintro e w3 ⟨v', rfl, hQ⟩
      have hQ3 := Lib.hid hQ
      clear hQ
      go_wp2_with fail
      first | exact hQ3.out | (go_ret2; exact hQ3.out)

set_option maxHeartbeats 2000000 in
theorem implCrewUse_any (B : Nat) (v1 v2 : Value) (xs : List TaskD) (st : List Int) (w : World) (h1 : LstTask B w v1 xs) (h2 : LstI B w v2 st) (hB : B ≤ w.heap.size) : Calls Try.prog 16 #[v1, v2] w (UsePost xs st w) := by
  have hA := Lib.hid (areTasks_any B v1 xs w h1 hB)
  have hNo : Hid (useOk xs st = false → ∀ w', Below w.heap.size w w' → UsePost xs st w (.returned (.tuple #[.slice none 0 0, .bool false])) w') := Lib.hid fun h w' hb => use_no h hb
  have hU : Hid (useOk xs st = true → ∀ w1, Below w.heap.size w w1 → Calls Try.prog 43 #[v1, v2, .int .i64 (endOf xs st)] w1 fun e w' => ∃ v', e = .returned v' ∧ UsePost xs st w (.returned (.tuple #[v', .bool true])) w') := Lib.hid fun h w1 hb =>
    (useOf_any B v1 v2 xs st w1 (h1.below hb hB) (h2.below hb hB) (Nat.le_trans hB hb.size) h).mono fun e w' ⟨v', he, hO, hb'⟩ => ⟨v', he, use_yes h hb hO hb'⟩
  have hEn : Hid (startsOk xs st = true → ∀ w1, Below w.heap.size w w1 → Calls Try.prog 42 #[v1, v2] w1 fun e w' => e = .returned (.int .i64 (endOf xs st)) ∧ Below w.heap.size w w') := Lib.hid fun h w1 hb => by
    obtain ⟨a, b, c⟩ := startsOk_of h
    exact (lastEnd_any B v1 v2 xs st w1 (h1.below hb hB) (h2.below hb hB) (Nat.le_trans hB hb.size) (areTasks_iff.1 a).fit (by omega) ((starts_bnd c).mono (by omega) (by omega))).mono fun e w' hr => ⟨hr.1, below_on hb (Nat.le_refl _) hr.2⟩
  have hS : Hid (∀ a n cap, v1 = .slice a n cap → n ≤ maxLen → ∀ w1, Below w.heap.size w w1 → Calls Try.prog 41 #[.slice a n cap, v2] w1 (Ret (.bool (decide (st.length = n) && allIn st 0 100000)) w1)) := Lib.hid fun a n cap _ hn w1 hb => areStarts_any B a n cap v2 st w1 (h2.below hb hB) hn
  have hk : Hid (useOk xs st = (startsOk xs st && decide (endOf xs st ≤ 400))) := Lib.hid rfl
  have hk2 : Hid (startsOk xs st = (areTasks xs && (decide (st.length = xs.length) && allIn st 0 100000))) := Lib.hid (by unfold startsOk; rw [Bool.and_assoc])
  obtain ⟨a, cap, rfl, hl, _⟩ := h1
  obtain ⟨a2, cap2, rfl, _⟩ := h2
  have hS2 := Lib.hid (hS.out _ _ _ rfl hl)
  clear hS
  generalize UsePost xs st w = Q at *
  generalize useOk xs st = ok at *
  cases hq : areTasks xs
  · rw [hq] at hA
    have hF := Lib.hid (hNo.out (by rw [hk.out, hk2.out, hq]; rfl))
    clear hq hU hEn hk hNo hk2 hS2
    go_enter Try.func16, Try.ntmps16
    go_wp2_with fail
    refine (hA.out).mono ?_
    rintro e w1 ⟨rfl, hb1⟩
    have hR := Lib.hid (hF.out _ hb1)
    clear hb1
    go_wp2_with fail
    first | exact hR.out | (go_ret2; exact hR.out)
  · rw [hq] at hA
    cases hq2 : (decide (st.length = xs.length) && allIn st 0 100000)
    · rw [hq2] at hS2
      have hF := Lib.hid (hNo.out (by rw [hk.out, hk2.out, hq, hq2]; rfl))
      clear hq hU hEn hk hNo hk2 hq2
      go_enter Try.func16, Try.ntmps16
      go_wp2_with fail
      refine (hA.out).mono ?_
      rintro e w1 ⟨rfl, hb1⟩
      have hS3 := Lib.hid (hS2.out _ hb1)
      have hB1 := Lib.hid hb1
      clear hb1
      go_wp2_with fail
      refine (hS3.out).mono ?_
      rintro e w2 ⟨m, rfl, rfl⟩
      have hR := Lib.hid (hF.out _ (Lst.Below.drewN hB1.out m))
      go_wp2_with fail
      first | exact hR.out | (go_ret2; exact hR.out)
    · rw [hq2] at hS2
      have hs1 : startsOk xs st = true := by rw [hk2.out, hq, hq2]; rfl
      have hE2 := Lib.hid (hEn.out hs1)
      by_cases h400 : 400 < endOf xs st
      · have hF := Lib.hid (hNo.out (by rw [hk.out, hs1, decide_eq_false (by omega)]; rfl))
        clear hq hU hEn hk hNo hk2 hq2 hs1
        generalize endOf xs st = en at *
        go_enter Try.func16, Try.ntmps16
        go_wp2_with fail
        refine (hA.out).mono ?_
        rintro e w1 ⟨rfl, hb1⟩
        have hS3 := Lib.hid (hS2.out _ hb1)
        have hB1 := Lib.hid hb1
        clear hb1
        go_wp2_with fail
        refine (hS3.out).mono ?_
        rintro e w2 ⟨m, rfl, rfl⟩
        have hE3 := Lib.hid (hE2.out _ (Lst.Below.drewN hB1.out m))
        generalize w1.drewN m = w2 at *
        go_wp2_with fail
        refine (hE3.out).mono ?_
        rintro e w3 ⟨rfl, hb3⟩
        have hR := Lib.hid (hF.out _ hb3)
        clear hb3
        go_wp2_with fail
        first | exact hR.out | (go_ret2; exact hR.out)
      · have hU2 := Lib.hid (hU.out (by rw [hk.out, hs1, decide_eq_true (by omega)]; rfl))
        clear hq hU hEn hk hNo hk2 hq2 hs1
        have hnd : decide (400 < endOf xs st) = false := decide_eq_false h400
        generalize endOf xs st = en at *
        go_enter Try.func16, Try.ntmps16
        go_wp2_with fail
        refine (hA.out).mono ?_
        rintro e w1 ⟨rfl, hb1⟩
        have hS3 := Lib.hid (hS2.out _ hb1)
        have hB1 := Lib.hid hb1
        clear hb1
        go_wp2_with fail
        refine (hS3.out).mono ?_
        rintro e w2 ⟨m, rfl, rfl⟩
        have hE3 := Lib.hid (hE2.out _ (Lst.Below.drewN hB1.out m))
        generalize w1.drewN m = w2 at *
        go_wp2_with fail
        refine (hE3.out).mono ?_
        rintro e w3 ⟨rfl, hb3⟩
        have hE4 := Lib.hid (hE2.out _ hb3)
        clear hb3
        go_wp2_with fail
        refine (hE4.out).mono ?_
        rintro e w4 ⟨rfl, hb4⟩
        have hU3 := Lib.hid (hU2.out _ hb4)
        clear hb4
        go_wp2_with fail
        refine (hU3.out).mono ?_
        rintro e w5 ⟨v', rfl, hQ⟩
        have hQ3 := Lib.hid hQ
        clear hQ
        go_wp2_with fail
        first | exact hQ3.out | (go_ret2; exact hQ3.out)
theorem crewUse_both (xs : List TaskD) (st : List Int) (_ : ∀ y ∈ xs, y.wf) (_ : ∀ x ∈ st, (Lit.int .i64 x).wf = true) : ∃ (r0 : List Int) (r1 : Bool), r0.length ≤ 1048576 ∧
    (∀ (B : Nat) (v1 v2 : Value) (w : World), LstTask B w v1 xs → LstI B w v2 st → B ≤ w.heap.size → Calls Try.prog 14 #[v1, v2] w fun e w' => ∃ v', e = .returned (.tuple #[v', .bool r1]) ∧ Own w.heap.size w'.heap.size w' v' 2 1 r0.length (r0.map (Value.int .i64)) ∧ Below w.heap.size w w') ∧
    (∀ (B : Nat) (v1 v2 : Value) (w : World), LstTask B w v1 xs → LstI B w v2 st → B ≤ w.heap.size → Calls Try.prog 16 #[v1, v2] w fun e w' => ∃ v', e = .returned (.tuple #[v', .bool r1]) ∧ Own w.heap.size w'.heap.size w' v' 2 1 r0.length (r0.map (Value.int .i64)) ∧ Below w.heap.size w w') :=
  ⟨useRes xs st, useOk xs st, useRes_length xs st, fun B v1 v2 w h1 h2 hB => specCrewUse_any B v1 v2 xs st w h1 h2 hB, fun B v1 v2 w h1 h2 hB => implCrewUse_any B v1 v2 xs st w h1 h2 hB⟩
end Go.Proofs.Ytbjbllkolekmpaa
