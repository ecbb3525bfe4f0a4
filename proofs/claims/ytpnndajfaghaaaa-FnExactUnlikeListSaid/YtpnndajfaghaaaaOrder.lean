/- Contracts: when a list is an order; the model's loop, and the program's set of numbers that are missing. -/
import Derived.Test.YtpnndajfaghaaaaAreJobs
import Derived.Test.YtpnndajfaghaaaaOrdPure
import Derived.Maps.OwnSet
namespace Go.Proofs.Ytpnndajfaghaaaa
open Go.RowKit Go.Lst Go.Plan Go.Maps

set_option maxHeartbeats 1000000 in
theorem l02Has_any (B : Nat) (v : Value) (xs : List Int) (x : Int) (w : World) (h : Lst B w v (xs.map (Value.int .i64))) :
    Calls Try.prog 217 #[v, .int .i64 x] w (Ret (.bool (xs.contains x)) w) := by
  obtain ⟨a, cap, rfl, hl, hc⟩ := h
  rw [List.length_map] at hl ⊢
  have hX : Hid (∀ k, k < xs.length → ∃ b o y, a = some ⟨b, o, none⟩ ∧ w.cell? ⟨b, o + k, none⟩ = some (.int .i64 y) ∧ xs[k]? = some y) := Lib.hid fun k hk => by
    obtain ⟨b, o, ha, _, hb⟩ := hc (by intro h0; simp at h0; rw [h0] at hk; simp at hk)
    have e1 : xs[k]? = some xs[k] := List.getElem?_eq_getElem _
    exact ⟨b, o, xs[k], ha, hb k _ (by rw [List.getElem?_map, e1]; rfl), e1⟩
  clear hc
  have hN : Hid (∀ k, k = xs.length → (∀ i y, i < k → xs[i]? = some y → y ≠ x) → xs.contains x = false) := Lib.hid fun k hk hp => by
    rw [List.contains_eq_mem, decide_eq_false_iff_not]
    intro hm
    obtain ⟨i, hi, he⟩ := List.mem_iff_getElem.1 hm
    exact hp i _ (by omega) (List.getElem?_eq_getElem hi) he
  have hM : Hid (∀ i : Nat, xs[i]? = some x → xs.contains x = true) := Lib.hid fun i hi => by
    rw [List.contains_eq_mem, decide_eq_true_eq]
    exact List.mem_of_getElem? hi
  generalize xs.contains x = q at *
  generalize xs.length = n at *
  unfold maxLen at hl
  go_enter Try.func217, Try.ntmps217
  go_wp2
  go_loopw [5] (fun i wr => ∃ k : Nat, k ≤ n ∧ i = .int .i64 k ∧ Hid (∀ i y, i < k → xs[i]? = some y → y ≠ x) ∧ wr = w) (fun i _ => n - (intOf i).toNat)
  case atStart => exact ⟨0, Nat.zero_le _, rfl, Lib.hid (fun i x hi _ => by omega), rfl⟩
  case round =>
    obtain ⟨k, hk, rfl, hP, rfl⟩ := hrel
    by_cases hlt : k < n
    · obtain ⟨b, o, y, rfl, hcell, hy⟩ := hX.out k hlt
      have hYy := Lib.hid hy
      clear hy
      cases hq : (y == x)
      · have hP2 : Hid (∀ i z, i < k + 1 → xs[i]? = some z → z ≠ x) := Lib.hid fun i z hi hz => by
          by_cases h1 : i < k
          · exact hP.out i z h1 hz
          · have : i = k := by omega
            subst this
            rw [hYy.out] at hz
            cases hz
            exact beq_eq_false_iff_ne.1 hq
        go_wp2
        go_roundw
        case rel => exact ⟨k + 1, by omega, by go_num, hP2, by trivial⟩
        case measure => simp [intOf]; omega
      · have hF := Lib.hid (hM.out k (by rw [← beq_iff_eq.1 hq]; exact hYy.out))
        go_wp2
        go_ret
        exact ⟨0, ret_bool (by rw [hF.out]), rfl⟩
    · have hF := Lib.hid (hN.out k (by omega) hP.out)
      go_wp2
      go_ret
      exact ⟨0, ret_bool (by rw [hF.out]), rfl⟩
set_option maxHeartbeats 2000000 in
theorem l02Orders_any (B : Nat) (v : Value) (xs : List Int) (n : Int) (w : World) (h : LstI B w v xs) (h0 : 0 ≤ n) (h1 : n ≤ 9223372036854775807) :
    Calls Try.prog 200 #[v, .int .i64 n] w (Ret (.bool (isOrd xs n)) w) := by
  obtain ⟨a, cap, hv, hl, hcap, hcm, hc⟩ := h.at_
  subst hv
  have hX := Lib.hid hc
  clear hc
  have hM : Hid (∀ (k : Nat), k ≤ xs.length → ordUpTo xs n k = false → isOrd xs n = false) := Lib.hid fun k hk hf => by
    unfold isOrd; rw [ordUpTo_false hf hk, Bool.and_false]
  have hN : Hid (∀ (k : Nat), k = xs.length → ordUpTo xs n k = true → isOrd xs n = decide ((xs.length : Int) = n)) := Lib.hid fun k hk hf => by
    unfold isOrd; rw [← hk, hf, Bool.and_true]
  have hT : Hid (∀ k, k ≤ xs.length → LstI B w (.slice a k cap) (xs.take k)) := Lib.hid fun k hk => h.take hk
  clear h
  generalize hL : xs.length = m at *
  have HL := Lib.hid hL
  clear hL
  unfold maxLen at hl hcm
  have hw1 : IntKind.i64.wrap (n - 1) = n - 1 := IntWalk.i64_in _ (by omega)
  go_enter Try.func200, Try.ntmps200
  go_wp2_with fail
  go_loopw [5] (fun i wr => ∃ k j : Nat, k ≤ m ∧ i = .int .i64 k ∧ Hid (ordUpTo xs n k = true) ∧ wr = w.drewN j) (fun i _ => m - (intOf i).toNat)
  case atStart => exact ⟨0, 0, Nat.zero_le _, rfl, Lib.hid rfl, rfl⟩
  case round =>
    obtain ⟨k, j, hk, rfl, hP, rfl⟩ := hrel
    by_cases hlt : k < m
    · obtain ⟨b, o, y, rfl, _, hy, hcell⟩ := hX.out k hlt
      have hY := Lib.hid (ordUpTo_step (n := n) hy)
      have hSub := Lib.hid (hT.out k hk)
      have hkc : (k : Int) ≤ (cap : Int) := by omega
      have hk0 : (0 : Int) ≤ (k : Int) := by omega
      clear hy
      rw [← World.cell?_drewN (n := j)] at hcell
      have hSub2 := Lib.hid (hSub.out.drewN j)
      clear hSub
      generalize hwo : w.drewN j = wo at *
      have hWo := Lib.hid hwo
      clear hwo
      cases hq : inB y 0 (n - 1)
      · have hF := Lib.hid (hM.out (k + 1) (by omega) (by rw [hY.out, show decide (0 ≤ y ∧ y ≤ n - 1) = false from hq, Bool.false_and, Bool.and_false]))
        go_wp2_with fail
        go_quiet ((go_at_call 90; exact Ret.quiet (Ret.same (l00In_any _ _ _ _))))
        go_wp2
        go_ret
        exact ⟨_, ret_bool (by rw [hF.out]), by rw [← hWo.out, World.drewN_drewN]⟩
      · cases hq2 : (xs.take k).contains y
        · have hP2 := Lib.hid (show ordUpTo xs n (k + 1) = true by rw [hY.out, hP.out, show decide (0 ≤ y ∧ y ≤ n - 1) = true from hq, hq2]; rfl)
          have hC : Hid (∀ nn, Calls Try.prog 217 #[.slice (some ⟨b, o, none⟩) k cap, .int .i64 y] (wo.drewN nn) (Ret (.bool false) (wo.drewN nn))) := Lib.hid fun nn => by
            have h9 := l02Has_any _ _ _ y _ (hSub2.out.drewN nn).lst
            rw [hq2] at h9; exact h9
          clear hq2
          go_wp2_with fail
          go_quiet ((first | (go_at_call 90; exact Ret.quiet (Ret.same (l00In_any _ _ _ _))) | (go_at_call 217; exact Ret.quiet (hC.out _))))
          go_wp2
          go_roundw
          case rel => exact ⟨k + 1, _, by omega, by go_num, hP2, by rw [← hWo.out, World.drewN_drewN]⟩
          case measure => simp [intOf]; omega
        · have hF := Lib.hid (hM.out (k + 1) (by omega) (by rw [hY.out, hq2]; simp))
          have hC : Hid (∀ nn, Calls Try.prog 217 #[.slice (some ⟨b, o, none⟩) k cap, .int .i64 y] (wo.drewN nn) (Ret (.bool true) (wo.drewN nn))) := Lib.hid fun nn => by
            have h9 := l02Has_any _ _ _ y _ (hSub2.out.drewN nn).lst
            rw [hq2] at h9; exact h9
          clear hq2
          go_wp2_with fail
          go_quiet ((first | (go_at_call 90; exact Ret.quiet (Ret.same (l00In_any _ _ _ _))) | (go_at_call 217; exact Ret.quiet (hC.out _))))
          go_wp2
          go_ret
          exact ⟨_, ret_bool (by rw [hF.out]), by rw [← hWo.out, World.drewN_drewN]⟩
    · have hkm : k = m := by omega
      have hF := Lib.hid (hN.out k (by rw [hkm]) hP.out)
      by_cases he : (m : Int) = n
      · have hV := Lib.hid (show isOrd xs n = true by rw [hF.out, decide_eq_true he])
        have hb : ((m : Int) == n) = true := by rw [beq_iff_eq]; exact he
        clear he
        go_wp2
        go_ret
        exact ⟨_, ret_bool (by rw [hV.out]), rfl⟩
      · have hV := Lib.hid (show isOrd xs n = false by rw [hF.out, decide_eq_false he])
        have hb : ((m : Int) == n) = false := by rw [beq_eq_false_iff_ne]; exact he
        clear he
        go_wp2
        go_ret
        exact ⟨_, ret_bool (by rw [hV.out]), rfl⟩

def isOrder (xs : List Int) (n : Int) : Bool := inB n 1 24 && isOrd xs n
theorem lawI64 : Keyed Try.prog 2 := int_keyed Try.underlying2
/-- What is known of the set: which numbers it has, and how many. -/
structure SetOf (D : DataW Unit) (p : Int → Bool) (n : Nat) : Prop where
  has : ∀ x : Int, (Lit.int .i64 x).wf = true → Maps.has D (.int .i64 x) = p x
  size : Maps.size D = n
  tidy : Tidy D
theorem isKey_int (x : Int) : WideAt.IsKeyLit (.int .i64 x) := by trivial
theorem SetOf.put {D : DataW Unit} {p : Int → Bool} {n : Nat} (h : SetOf D p n) {x : Int} (hx : (Lit.int .i64 x).wf = true) (hp : p x = false) (d : DataW Unit) : SetOf (D.put (.int .i64 x) d) (fun y => p y || y == x) (n + 1) := by
  refine ⟨fun y hy => ?_, ?_, h.tidy.put (isKey_int x) d⟩
  · by_cases e : y = x
    · subst e
      rw [has_put_same h.tidy.isMap (isKey_int y) d]
      simp
    · rw [has_put_other (fun he => e (by injection he)) d, h.has y hy]
      simp [e]
  · rw [size_put h.tidy d, h.has x hx, hp, h.size]; rfl
theorem SetOf.del {D : DataW Unit} {p : Int → Bool} {n : Nat} (h : SetOf D p n) {x : Int} (hx : (Lit.int .i64 x).wf = true) : SetOf (D.del (.int .i64 x)) (fun y => p y && !(y == x)) (n - (if p x then 1 else 0)) := by
  refine ⟨fun y hy => ?_, ?_, h.tidy.del _⟩
  · by_cases e : y = x
    · subst e
      rw [has_del_same]
      simp
    · rw [has_del_other (fun he => e (by injection he)), h.has y hy]
      simp [e]
  · have := size_del (k := .int .i64 x) h.tidy
    rw [h.has x hx, h.size] at this
    omega
theorem SetOf.congr {D : DataW Unit} {p q : Int → Bool} {n m : Nat} (h : SetOf D p n) (hp : ∀ x, p x = q x) (hn : n = m) : SetOf D q m := ⟨fun x hx => (h.has x hx).trans (hp x), h.size.trans hn, h.tidy⟩
theorem setOf_none : SetOf (.map []) (fun x => decide (0 ≤ x ∧ x < ((0 : Nat) : Int))) 0 := by
  refine ⟨fun x _ => ?_, rfl, tidy_empty⟩
  rw [show decide (0 ≤ x ∧ x < ((0 : Nat) : Int)) = false by rw [decide_eq_false_iff_not]; omega]
  rfl

set_option maxHeartbeats 4000000 in
theorem implIsOrder_any (B : Nat) (v : Value) (xs : List Int) (n : Int) (w : World) (h : LstI B w v xs) (hB : B ≤ w.heap.size) (hwf : ∀ x ∈ xs, (Lit.int .i64 x).wf = true) :
    Calls Try.prog 79 #[v, .int .i64 n] w fun e w' => e = .returned (.bool (isOrder xs n)) ∧ Below w.heap.size w w' := by
  obtain ⟨a, cap, hv, hl, hcap, hcm, hc⟩ := h.at_
  subst hv
  clear h
  cases hq : inB n 1 24
  · have hV := Lib.hid (show isOrder xs n = false by unfold isOrder; rw [hq]; rfl)
    generalize xs.length = m at *
    go_enter Try.func79, Try.ntmps79
    go_wp2_with fail
    refine (isWithin_any _ _ _ _).mono ?_
    rintro e w' ⟨rfl, rfl⟩
    go_wp2_with fail
    go_ret
    exact ⟨ret_bool (by rw [hV.out]), Below.refl _ _⟩
  · by_cases he : (xs.length : Int) = n
    · obtain ⟨hn1, hn2⟩ := inB_true hq
      have hmm := @run_makeMap Try.prog
      obtain ⟨N, rfl⟩ : ∃ N : Nat, n = N := ⟨n.toNat, by omega⟩
      have hN : xs.length = N := by omega
      have hV : Hid (isOrder xs N = decide (cntMiss xs N N = 0)) := Lib.hid (by unfold isOrder; rw [hq, Bool.true_and, cntMiss_all xs N hN])
      have hS : Hid (∀ (k : Nat) (x : Int), xs[k]? = some x → cntMiss xs N (k + 1) + (if 0 ≤ x ∧ x < N ∧ (xs.take k).contains x = false then 1 else 0) = cntMiss xs N k) := Lib.hid fun k x hx => cntMiss_step hx
      have hT : Hid (∀ (k : Nat) (x : Int), xs[k]? = some x → xs.take (k + 1) = xs.take k ++ [x]) := Lib.hid fun k x hx => by rw [List.take_add_one, hx]; rfl
      have hW : Hid (∀ (k : Nat) (x : Int), xs[k]? = some x → (Lit.int .i64 x).wf = true) := Lib.hid fun k x hx => hwf x (List.mem_of_getElem? hx)
      have hZ := Lib.hid (cntMiss_zero xs N)
      rw [hN] at hc hl hcap ⊢
      have hC := Lib.hid hc
      have hne : ((N : Int) != (N : Int)) = false := by simp
      clear hc hwf he hN
      go_enter Try.func79, Try.ntmps79
      go_wp2_with fail
      refine (isWithin_any _ _ _ _).mono ?_
      rintro e w' ⟨rfl, rfl⟩
      go_wp2_with fail
      go_loopw [20] (fun i wr => ∃ (k : Nat) (D : DataW Unit), k ≤ N ∧ i = .int .i64 k ∧ Hid (SetOf D (fun x => decide (0 ≤ x ∧ x < (k : Int))) k) ∧ Hid (wr.ownsMap Try.prog 2 (plainElem Try.prog 4) w.heap.size k D) ∧ Hid (Below w.heap.size w wr)) (fun i _ => N - (intOf i).toNat)
      case atStart => exact ⟨0, .map [], Nat.zero_le _, rfl, Lib.hid setOf_none, Lib.hid (World.ownsMap_made _ _ _ _), Lib.hid ((Below.refl _ _).alloc (Nat.le_refl _) _)⟩
      case round =>
        obtain ⟨k, D, hk, rfl, hD, hO, hB1⟩ := hrel
        by_cases hlt : k < N
        · have hwk : (Lit.int .i64 (k : Int)).wf = true := by exact WalkArith.wf_i64 (by omega)
          have hkey := Lib.hid (keyOf_int_mk Try.underlying2 hwk)
          have hD2 := Lib.hid (((hD.out.put hwk (by rw [decide_eq_false_iff_not]; omega) (.lit (.bool true))).congr (q := fun x => decide (0 ≤ x ∧ x < ((k + 1 : Nat) : Int))) (fun x => by rw [Bool.eq_iff_iff]; simp; omega) rfl))
          clear hwk
          go_wp2_with (at_mapUpdate; refine wpList_mapUpdate_own _ rfl _ _ _ 174 rfl 2 4 lawI64 Try.underlying174 (plainElem Try.prog 4) w.heap.size k D rfl hO.out (by unfold maxLen; omega) _ _ _ rfl rfl hkey.out _ [] (plainElem_bool Try.underlying4 _) ?_; intro w1 hown1 hgrow1; have hO2 := Lib.hid hown1; have hG2 := Lib.hid hgrow1; clear hown1 hgrow1)
          have hB2 := Lib.hid (hB1.out.grown hG2.out hB1.out.size (fun j hj => by cases hj; exact Nat.le_refl _))
          go_roundw
          case rel => exact ⟨k + 1, _, by omega, by go_num, hD2, hO2, hB2⟩
          case measure => simp [intOf]; omega
        · have hkN := Lib.hid (show k = N by omega)
          have hD2 := Lib.hid (hD.out.congr (q := fun x => decide (0 ≤ x ∧ x < (N : Int)) && !(xs.take 0).contains x) (fun x => by rw [hkN.out]; simp) (show k = cntMiss xs N 0 by rw [hZ.out, hkN.out]))
          have hO2 := Lib.hid (hO.out.mono (show k ≤ N by omega))
          clear hD hO
          go_wp2_with fail
          go_loopw [28] (fun i wr => ∃ (k : Nat) (D : DataW Unit), k ≤ N ∧ i = .int .i64 k ∧ Hid (SetOf D (fun x => decide (0 ≤ x ∧ x < (N : Int)) && !(xs.take k).contains x) (cntMiss xs N k)) ∧ Hid (wr.ownsMap Try.prog 2 (plainElem Try.prog 4) w.heap.size N D) ∧ Hid (Below w.heap.size w wr)) (fun i _ => N - (intOf i).toNat)
          case atStart => exact ⟨0, D, Nat.zero_le _, rfl, hD2, hO2, hB1⟩
          case round =>
            clear hB1 hD2 hO2 hkN
            obtain ⟨j, D, hj, rfl, hD, hO, hB1⟩ := hrel
            by_cases hlt : j < N
            · obtain ⟨b, o, x, rfl, hb, hx, hcell⟩ := hC.out j hlt
              rw [← hB1.out.cell (p := ⟨b, o + j, none⟩) (show b < w.heap.size by omega)] at hcell
              have hkey := Lib.hid (keyOf_int_mk Try.underlying2 (hW.out j x hx))
              have hD2 := Lib.hid ((hD.out.del (hW.out j x hx)).congr (m := cntMiss xs N (j + 1)) (q := fun y => decide (0 ≤ y ∧ y < (N : Int)) && !(xs.take (j + 1)).contains y) (fun y => by
                rw [hT.out j x hx, Bool.eq_iff_iff]; simp [and_assoc]) (by
                have := hS.out j x hx
                by_cases hc : 0 ≤ x ∧ x < (N : Int) ∧ (xs.take j).contains x = false
                · rw [if_pos hc] at this
                  rw [if_pos (by simp only [Bool.and_eq_true, decide_eq_true_eq, Bool.not_eq_true']; exact ⟨⟨hc.1, hc.2.1⟩, hc.2.2⟩)]; omega
                · rw [if_neg hc] at this
                  rw [if_neg (by simp only [Bool.and_eq_true, decide_eq_true_eq, Bool.not_eq_true']; rintro ⟨⟨h1, h2⟩, h3⟩; exact hc ⟨h1, h2, h3⟩)]; omega))
              clear hx hb
              go_wp2_with (at_delete; refine wpList_delete_own _ rfl _ _ 174 2 rfl 4 lawI64 Try.underlying174 (plainElem Try.prog 4) w.heap.size N D rfl hO.out _ _ rfl hkey.out ?_; intro w1 hown1 hturn1; have hO2 := Lib.hid hown1; have hG2 := Lib.hid hturn1.grown; clear hown1 hturn1)
              have hB2 := Lib.hid (hB1.out.grown hG2.out hB1.out.size (fun j hj => by cases hj; exact Nat.le_refl _))
              go_roundw
              case rel => exact ⟨j + 1, _, by omega, by go_num, hD2, hO2, hB2⟩
              case measure => simp [intOf]; omega
            · have hjN := Lib.hid (show j = N by omega)
              have hsz := Lib.hid (show Maps.size D = cntMiss xs N N by have := hD.out.size; rw [hjN.out] at this; exact this)
              clear hD
              go_wp2_with (at_len; refine wpList_len_own _ rfl _ 174 rfl 2 4 Try.underlying174 (plainElem Try.prog 4) w.heap.size N D rfl hO.out ?_)
              go_ret
              exact ⟨ret_bool (by first | (rw [hV.out, ← hsz.out, Bool.eq_iff_iff]; simp; done) | (rw [hV.out, ← hsz.out, Bool.eq_iff_iff]; simp; omega)), hB1.out⟩
    · have hV := Lib.hid (show isOrder xs n = false by unfold isOrder isOrd; rw [decide_eq_false he, Bool.false_and, Bool.and_false])
      have hne : ((xs.length : Int) != n) = true := by rw [bne_iff_ne]; exact he
      clear he hc
      generalize xs.length = m at *
      unfold maxLen at hl
      go_enter Try.func79, Try.ntmps79
      go_wp2_with fail
      refine (isWithin_any _ _ _ _).mono ?_
      rintro e w' ⟨rfl, rfl⟩
      go_wp2_with fail
      go_ret
      exact ⟨ret_bool (by rw [hV.out]), Below.refl _ _⟩

end Go.Proofs.Ytpnndajfaghaaaa
