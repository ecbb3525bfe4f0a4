/- Contracts: colours without clashes; the model's side. -/
import Derived.Test.YtpmglmpopmppbaaColour
import Derived.Test.YtpmglmpopmppbaaClashSpec
namespace Go.Proofs.Ytpmglmpopmppbaa
open Go.RowKit Go.Lst

theorem l07Clashes_is {q : Bool} (B : Nat) (v : Value) (xs : List Int) (e : Int) (w : World) (h : LstI B w v xs) (hq : clashOk e xs = q) : Calls Try.prog 61 #[.int .i64 e, v] w (Ret (.bool q) w) := by
  rw [← hq]; exact l07Clashes_any B v xs e w h
set_option maxHeartbeats 4000000 in
theorem specIsColour_any (B : Nat) (v1 v2 : Value) (xs cs : List Int) (e : Int) (w : World) (h1 : LstI B w v1 xs) (h2 : LstI B w v2 cs) :
    Calls Try.prog 38 #[.int .i64 e, v1, v2] w (Ret (.tuple #[.bool (colOk e xs cs && colGood cs (pairsL xs)), .bool (colOk e xs cs)]) w) := by
  have hNo : Hid (∀ k, colOk e xs cs = false → Ret (.tuple #[.bool (colOk e xs cs && colGood cs (pairsL xs)), .bool (colOk e xs cs)]) w (.returned (.tuple #[.bool false, .bool false])) (w.drewN k)) := Lib.hid fun k hk => by rw [hk]; exact Ret.later _ _ _
  have hYes : Hid (∀ k q, colOk e xs cs = true → colGood cs (pairsL xs) = q → Ret (.tuple #[.bool (colOk e xs cs && colGood cs (pairsL xs)), .bool (colOk e xs cs)]) w (.returned (.tuple #[.bool q, .bool true])) (w.drewN k)) := Lib.hid fun k q hk hg => by rw [hk, hg]; exact Ret.later _ _ _
  have hOk : Hid (colOk e xs cs = (clashOk e xs && decide ((cs.length : Int) = e) && allIn cs 0 11)) := Lib.hid rfl
  generalize Ret (.tuple #[.bool (colOk e xs cs && colGood cs (pairsL xs)), .bool (colOk e xs cs)]) w = R at *
  have hQ := Lib.hid (fun q hq => l07Clashes_is (q := q) B v1 xs e w h1 hq)
  have hPs : Hid (clashOk e xs = true → ∃ E : Nat, e = (E : Int) ∧ E ≤ 12 ∧ xs.length ≤ 64 ∧ xs.length % 2 = 0 ∧ ∀ p ∈ pairsL xs, 0 ≤ p.1 ∧ p.1 < e ∧ 0 ≤ p.2 ∧ p.2 < e) := Lib.hid fun hq => by
    obtain ⟨r1, _⟩ := clashOk_in hq
    obtain ⟨r2, r3, r4, r5, _⟩ := clashNo_in r1
    obtain ⟨E, rfl⟩ : ∃ E : Nat, e = (E : Int) := ⟨e.toNat, by omega⟩
    exact ⟨E, rfl, by omega, r4, r5, fun p hp => by have := clash_pairs hq p hp; omega⟩
  obtain ⟨a1, cap1, rfl, hl1, hcap1, hcm1, hc1⟩ := h1.at_
  obtain ⟨a2, cap2, rfl, hl2, hcap2, hcm2, hc2⟩ := h2.at_
  clear h1 h2
  generalize hcq : clashOk e xs = cq at *
  clear hcq
  cases cq
  · have hF := Lib.hid (fun k => hNo.out k (by rw [hOk.out]; rfl))
    clear hNo hYes hPs hc1 hc2 hOk
    generalize xs.length = n1 at *
    generalize cs.length = n2 at *
    go_enter Try.func38, Try.ntmps38
    go_wp2_with fail
    with_reducible refine ((hQ.out _ rfl)).mono ?_
    rintro e' w' ⟨m, rfl, rfl⟩
    go_wp2_with fail
    exact hF.out _
  · obtain ⟨E, rfl, he12, hx64, hxe, hpr⟩ := hPs.out rfl
    have hX1 := Lib.hid hc1
    have hX2 := Lib.hid hc2
    have hPr := Lib.hid hpr
    clear hc1 hc2 hPs hpr
    by_cases hlen : (cs.length : Int) = (E : Int)
    · have hcl : cs.length = E := by omega
      have hAi : Hid (∀ k x, cs[k]? = some x → inB x 0 11 = false → colOk E xs cs = false) := Lib.hid fun k x hx hi => by
        rw [hOk.out, show allIn cs 0 11 = false from all_not hx hi, Bool.and_false]
      have hAll : Hid ((∀ i x, i < E → cs[i]? = some x → inB x 0 11 = true) → colOk E xs cs = true) := Lib.hid fun hp => by
        rw [hOk.out, decide_eq_true hlen, show allIn cs 0 11 = true from all_upto fun i x hi hx => hp i x (by omega) hx]; rfl
      have hSn : Hid (∀ k, k < xs.length / 2 → colGood cs (pairsTo xs (k + 1)) = (colGood cs (pairsTo xs k) && goodPair cs (pairAt xs k))) := Lib.hid fun k _ => by rw [pairsTo_succ, colGood_snoc]
      have hPre : Hid (∀ k, k ≤ xs.length / 2 → colGood cs (pairsTo xs k) = false → colGood cs (pairsL xs) = false) := Lib.hid fun k hk hf => colGood_of (pairsTo_prefix hk) hf
      have hMem : Hid (∀ k, k < xs.length / 2 → pairAt xs k ∈ pairsL xs) := Lib.hid fun k hk => by
        unfold pairsL pairsTo
        exact List.mem_map.2 ⟨k, List.mem_range.2 hk, rfl⟩
      have hEndAll : Hid (∀ k, k = xs.length / 2 → colGood cs (pairsTo xs k) = true → colGood cs (pairsL xs) = true) := Lib.hid fun k hk hp => by rw [hk] at hp; exact hp
      have hG1 : Hid (∀ (k : Nat) (y : Int), xs[k]? = some y → xs.getD k 0 = y) := Lib.hid fun k y hy => getD_of hy
      have hG2 : Hid (∀ (k : Nat) (y : Int), cs[k]? = some y → cs.getD k 0 = y) := Lib.hid fun k y hy => getD_of hy
      have d2 : ((E : Int) != (E : Int)) = false := by simp
      clear hOk hlen
      obtain ⟨M, hM⟩ : ∃ M, xs.length = 2 * M := ⟨xs.length / 2, by omega⟩
      have hM2 : xs.length / 2 = M := by omega
      rw [hM2] at hSn hPre hMem hEndAll
      rw [hcl] at hX2 hcap2 hl2 ⊢
      rw [hM] at hX1 hcap1 hl1 hQ ⊢
      clear hcl hM hM2 hx64 hxe
      generalize hNn : 2 * M = N2 at *
      have hN2 := Lib.hid hNn
      clear hNn
      unfold maxLen at hl1 hl2 hcm1 hcm2
      go_enter Try.func38, Try.ntmps38
      go_wp2_with fail
      with_reducible refine ((hQ.out _ rfl)).mono ?_
      rintro e' w' ⟨m0, rfl, rfl⟩
      go_wp2_with fail
      go_loopw [22] (fun i wr => ∃ k j : Nat, k ≤ E ∧ i = .int .i64 k ∧ Hid (∀ i x, i < k → cs[i]? = some x → inB x 0 11 = true) ∧ wr = w.drewN j) (fun i _ => E - (intOf i).toNat)
      case atStart => exact ⟨0, m0, Nat.zero_le _, rfl, Lib.hid (fun i x hi _ => by omega), rfl⟩
      case round =>
        obtain ⟨k, j, hk, rfl, hP, rfl⟩ := hrel
        by_cases hlt : k < E
        · obtain ⟨b, o, y, rfl, _, hy, hcell⟩ := hX2.out k hlt
          rw [← World.cell?_drewN (n := j)] at hcell
          have hYy := Lib.hid hy
          clear hy
          cases hq : inB y 0 11
          · have hF := Lib.hid (fun n => hNo.out n (hAi.out k y hYy.out hq))
            clear hP
            go_wp2_with (go_at_call 55; (with_reducible refine (l00In_is _ _ _ hq _).mono ?_); rintro e' w' ⟨rfl, rfl⟩)
            exact hF.out _
          · have hP2 : Hid (∀ i x, i < k + 1 → cs[i]? = some x → inB x 0 11 = true) := Lib.hid fun i z hi hz => by
              by_cases h1 : i < k
              · exact hP.out i z h1 hz
              · have : i = k := by omega
                subst this
                rw [hYy.out] at hz
                cases hz
                exact hq
            clear hP
            go_wp2_with (go_at_call 55; (with_reducible refine (l00In_is _ _ _ hq _).mono ?_); rintro e' w' ⟨rfl, rfl⟩)
            go_roundw
            case rel => exact ⟨k + 1, j, by omega, by go_num, hP2, by trivial⟩
            case measure => simp [intOf]; omega
        · have hCo := hAll.out (fun i x hi => hP.out i x (by omega))
          clear hAll hAi hNo hP hk
          have hY2 := Lib.hid (fun n q hg => hYes.out n q hCo hg)
          clear hYes hCo
          go_wp2_with fail
          go_loopw [9] (fun i wr => ∃ t s j : Nat, t ≤ M ∧ i = .int .i64 (s : Int) ∧ Hid (s = 2 * t) ∧ Hid (colGood cs (pairsTo xs t) = true) ∧ wr = w.drewN j) (fun i _ => N2 - (intOf i).toNat)
          case atStart => exact ⟨0, 0, j, Nat.zero_le _, rfl, Lib.hid rfl, Lib.hid rfl, rfl⟩
          case round =>
            obtain ⟨t, s, j, ht, rfl, hS, hP, rfl⟩ := hrel
            by_cases hlt : t < M
            · obtain ⟨b, o, x, rfl, _, hx, hcx⟩ := hX1.out s (by have := hS.out; have := hN2.out; omega)
              obtain ⟨b', o', y, he, _, hy, hcy⟩ := hX1.out (s + 1) (by have := hS.out; have := hN2.out; omega)
              injection he with he
              injection he with e1 e2 _
              subst e1 e2
              have hpm := hPr.out _ (hMem.out t hlt)
              have hSt := hSn.out t hlt
              rw [hP.out, Bool.true_and] at hSt
              have hpa : pairAt xs t = (x, y) := by unfold pairAt; rw [← hS.out, hG1.out _ _ hx, hG1.out _ _ hy]
              rw [hpa] at hpm hSt
              dsimp only at hpm
              obtain ⟨ka, rfl⟩ : ∃ k : Nat, x = (k : Int) := ⟨x.toNat, by omega⟩
              obtain ⟨kb, rfl⟩ : ∃ k : Nat, y = (k : Int) := ⟨y.toNat, by omega⟩
              obtain ⟨b2, o2, u, rfl, _, hu, hcu⟩ := hX2.out ka (by omega)
              obtain ⟨b2', o2', v, he, _, hv, hcv⟩ := hX2.out kb (by omega)
              injection he with he
              injection he with e1 e2 _
              subst e1 e2
              rw [show goodPair cs ((ka : Int), (kb : Int)) = !(cs.getD ka 0 == cs.getD kb 0) from rfl, hG2.out _ _ hu, hG2.out _ _ hv] at hSt
              rw [← World.cell?_drewN (n := j)] at hcx hcy hcu hcv
              have i1 : (ka : Int) < (E : Int) := by omega
              have i2 : (kb : Int) < (E : Int) := by omega
              have j1 : (s : Int) < (N2 : Int) := by have := hS.out; have := hN2.out; omega
              have j2 : (s : Int) + 1 < (N2 : Int) := by have := hS.out; have := hN2.out; omega
              have j3 : (0 : Int) ≤ (s : Int) + 1 := by omega
              have j4 : ((s : Int) + 1).toNat = s + 1 := by omega
              have j5 : IntKind.i64.wrap ((s : Int) + 1) = (s : Int) + 1 := IntWalk.i64_in _ (by omega)
              have hTt := Lib.hid hlt
              clear hx hy hu hv hpa hpm hlt
              generalize hwo : w.drewN j = wo at *
              have hWo := Lib.hid hwo
              clear hwo
              cases hq : (u == v)
              · rw [hq] at hSt
                have hP2 := Lib.hid (show colGood cs (pairsTo xs (t + 1)) = true from hSt)
                clear hSt hP
                go_wp2_with fail
                go_quiet (fail)
                go_wp2
                go_roundw
                case rel => exact ⟨t + 1, s + 2, _, by have := hTt.out; omega, by go_num, Lib.hid (by have := hS.out; omega), hP2, by rw [← hWo.out, World.drewN_drewN]⟩
                case measure => have := hTt.out; have := hS.out; have := hN2.out; simp [intOf]; omega
              · rw [hq] at hSt
                have hF := Lib.hid (fun n => hY2.out n false (hPre.out (t + 1) (by have := hTt.out; omega) hSt))
                clear hSt hP hY2
                go_wp2_with fail
                go_quiet (fail)
                go_wp2
                rw [← hWo.out, World.drewN_drewN]
                exact hF.out _
            · have hF := Lib.hid (hY2.out j true (hEndAll.out t (by omega) hP.out))
              have hge : ¬ (s : Int) < (N2 : Int) := by have := hS.out; have := hN2.out; omega
              clear hP hY2
              go_wp2_with fail
              exact hF.out
    · have hF := Lib.hid (fun k => hNo.out k (by rw [hOk.out, decide_eq_false hlen]; rfl))
      have d2 : ((cs.length : Int) != (E : Int)) = true := by rw [bne_iff_ne]; exact hlen
      clear hNo hYes hOk hX1 hX2 hPr
      generalize xs.length = n1 at *
      generalize cs.length = n2 at *
      clear hlen
      go_enter Try.func38, Try.ntmps38
      go_wp2_with fail
      with_reducible refine ((hQ.out _ rfl)).mono ?_
      rintro e' w' ⟨m, rfl, rfl⟩
      go_wp2_with fail
      exact hF.out _
theorem isColour_both (x0 : Int) (x1 x2 : List Int) (_ : (Lit.int .i64 x0).wf = true) (_ : ∀ y ∈ x1, (Lit.int .i64 y).wf = true) (_ : ∀ y ∈ x2, (Lit.int .i64 y).wf = true) : ∃ r0 r1 : Bool,
    (∀ (B : Nat) (v1 v2 : Value) (w : World), LstI B w v1 x1 → LstI B w v2 x2 → B ≤ w.heap.size → Calls Try.prog 38 #[.int .i64 x0, v1, v2] w fun e w' => e = .returned (.tuple #[.bool r0, .bool r1]) ∧ Below w.heap.size w w') ∧
    (∀ (B : Nat) (v1 v2 : Value) (w : World), LstI B w v1 x1 → LstI B w v2 x2 → B ≤ w.heap.size → Calls Try.prog 39 #[.int .i64 x0, v1, v2] w fun e w' => e = .returned (.tuple #[.bool r0, .bool r1]) ∧ Below w.heap.size w w') :=
  ⟨_, _, fun B v1 v2 w h1 h2 _ => (specIsColour_any B v1 v2 x1 x2 x0 w h1 h2).mono fun _ _ hr => hr.below, fun B v1 v2 w h1 h2 hB => implIsColour_any B v1 v2 x1 x2 x0 w h1 h2 hB⟩
end Go.Proofs.Ytpmglmpopmppbaa
