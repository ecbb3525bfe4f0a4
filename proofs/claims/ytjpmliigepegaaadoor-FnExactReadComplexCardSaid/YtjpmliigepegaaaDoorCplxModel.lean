/- Contract: the list of complex numbers that a text spells, read by the model's loops. No condition. -/
import Derived.Test.YtjpmliigepegaaaDoorCplxRead
import Derived.Test.YtjpmliigepegaaaDoorNumModel
namespace Go.Proofs.YtjpmliigepegaaaDoor
open Go.RowKit Go.Lst Go FloatKit

set_option maxHeartbeats 4000000 in
set_option maxRecDepth 100000 in
theorem l01Digits_any (x : ByteArray) (h8 : x.size = 8) (w : World) :
    Calls Tryd.prog 14 #[.string x] w fun e w' => ∃ m, e = .returned (.tuple #[.float .f32 (hexR x), .bool (okHex x)]) ∧ w' = w.drewN m := by
  have hXb := Lib.hid (fun i (hi : i < 8) (h : hexB (byteN x i) = false) => okHex_bad (x := x) h hi)
  have hXe : Hid (hexAll x 8 = true → okHex x = (bitsOf (hexTo x 8) == (hexTo x 8 : Int))) := Lib.hid fun h => okHex_all h8 h
  have hLt : Hid (∀ k, hexAll x k = true → k ≤ 8 → hexTo x k < 4294967296) := Lib.hid fun k h hk => hexTo_small h hk
  have hS1 : Hid (∀ k, hexTo x (k + 1) = 16 * hexTo x k + hexV (byteN x k)) := Lib.hid fun k => rfl
  have hS2 : Hid (∀ k, hexAll x (k + 1) = (hexAll x k && hexB (byteN x k))) := Lib.hid fun k => rfl
  have h01 : Hid (hexTo x 0 = 0) := Lib.hid rfl
  have h02 : Hid (hexAll x 0 = true) := Lib.hid rfl
  have hRy := Lib.hid (fun (h : okHex x = true) => hexR_yes h)
  have hRn := Lib.hid (fun (h : okHex x = false) => hexR_no h)
  generalize okHex x = Q at *
  generalize hexR x = R at *
  generalize hexTo x = HT at *
  generalize hexAll x = HA at *
  go_enter Tryd.func14, Tryd.ntmps14
  go_wp2_with fail
  go_loopw [4, 5] (fun nv jv w' => ∃ j : Nat, j ≤ 8 ∧ jv = .int .i64 j ∧ nv = .int .i64 (HT j : Int) ∧ Hid (HA j = true) ∧ w' = w) (fun _ jv _ => 8 - (intOf jv).toNat)
  case atStart => exact ⟨0, Nat.zero_le _, rfl, by rw [h01.out]; rfl, h02, rfl⟩
  case round =>
    obtain ⟨j, hj8, rfl, rfl, hA, rfl⟩ := hrel
    have hlk := hLt.out j hA.out hj8
    by_cases hj : j < 8
    · have hjx : j < x.size := by omega
      have hbn : byteN x j = (x[j]'hjx).toNat := by unfold byteN; rw [byte_getD x j hjx]
      have hz1 := hS1.out j
      have hz2 := hS2.out j
      rw [hbn] at hz1 hz2
      have hbl : (x[j]'hjx).toNat < 256 := (x[j]'hjx).toNat_lt
      have hjj : (j : Int) < 8 := by omega
      cases hq : hexB (x[j]'hjx).toNat
      · have hR := Lib.hid (hXb.out j hj (by rw [hbn]; exact hq))
        unfold hexB at hq
        rw [Bool.or_eq_false_iff, decide_eq_false_iff_not, decide_eq_false_iff_not] at hq
        clear hz1 hz2 hbn
        by_cases c1 : 48 ≤ (x[j]'hjx).toNat
        · have d1 : decide ((48 : Int) ≤ ((x[j]'hjx).toNat : Int)) = true := decide_eq_true (by omega)
          have d1b : decide (48 ≤ (x[j]'hjx).toNat) = true := decide_eq_true c1
          have d2 : decide (((x[j]'hjx).toNat : Int) ≤ 57) = false := decide_eq_false (by omega)
          have d2b : decide ((x[j]'hjx).toNat ≤ 57) = false := decide_eq_false (by omega)
          by_cases c2 : 97 ≤ (x[j]'hjx).toNat
          · have d3 : decide ((97 : Int) ≤ ((x[j]'hjx).toNat : Int)) = true := decide_eq_true (by omega)
            have d3b : decide (97 ≤ (x[j]'hjx).toNat) = true := decide_eq_true c2
            have d4 : decide (((x[j]'hjx).toNat : Int) ≤ 102) = false := decide_eq_false (by omega)
            have d4b : decide ((x[j]'hjx).toNat ≤ 102) = false := decide_eq_false (by omega)
            clear hq
            go_wp2_with fail
            first | exact ⟨0, by rw [hR.out.1, hR.out.2]; rfl, rfl⟩ | (go_ret2; exact ⟨0, by rw [hR.out.1, hR.out.2]; rfl, rfl⟩)
          · have d3 : decide ((97 : Int) ≤ ((x[j]'hjx).toNat : Int)) = false := decide_eq_false (by omega)
            have d3b : decide (97 ≤ (x[j]'hjx).toNat) = false := decide_eq_false c2
            clear hq
            go_wp2_with fail
            first | exact ⟨0, by rw [hR.out.1, hR.out.2]; rfl, rfl⟩ | (go_ret2; exact ⟨0, by rw [hR.out.1, hR.out.2]; rfl, rfl⟩)
        · have d1 : decide ((48 : Int) ≤ ((x[j]'hjx).toNat : Int)) = false := decide_eq_false (by omega)
          have d1b : decide (48 ≤ (x[j]'hjx).toNat) = false := decide_eq_false c1
          have d3 : decide ((97 : Int) ≤ ((x[j]'hjx).toNat : Int)) = false := decide_eq_false (by omega)
          have d3b : decide (97 ≤ (x[j]'hjx).toNat) = false := decide_eq_false (by omega)
          clear hq
          go_wp2_with fail
          first | exact ⟨0, by rw [hR.out.1, hR.out.2]; rfl, rfl⟩ | (go_ret2; exact ⟨0, by rw [hR.out.1, hR.out.2]; rfl, rfl⟩)
      · have hv16 := hexV_lt hq
        have hA2 : Hid (HA (j + 1) = true) := Lib.hid (by rw [hz2, hA.out, hq]; rfl)
        clear hz2 hbn
        by_cases c1 : (x[j]'hjx).toNat ≤ 57
        · have hq2 : 48 ≤ (x[j]'hjx).toNat := by
            unfold hexB at hq
            simp only [Bool.or_eq_true, decide_eq_true_eq] at hq
            omega
          have hv : hexV (x[j]'hjx).toNat = (x[j]'hjx).toNat - 48 := by unfold hexV; rw [if_pos c1]
          rw [hv] at hz1 hv16
          have d1 : decide ((48 : Int) ≤ ((x[j]'hjx).toNat : Int)) = true := decide_eq_true (by omega)
          have d1b : decide (48 ≤ (x[j]'hjx).toNat) = true := decide_eq_true hq2
          have d2 : decide (((x[j]'hjx).toNat : Int) ≤ 57) = true := decide_eq_true (by omega)
          have d2b : decide ((x[j]'hjx).toNat ≤ 57) = true := decide_eq_true c1
          have d3 : decide ((97 : Int) ≤ ((x[j]'hjx).toNat : Int)) = false := decide_eq_false (by omega)
          have d3b : decide (97 ≤ (x[j]'hjx).toNat) = false := decide_eq_false (by omega)
          have w1 : IntKind.u8.wrap (((x[j]'hjx).toNat : Int) - 48) = ((x[j]'hjx).toNat : Int) - 48 := by rw [IntKind.wrap_u8]; omega
          have w2 : IntKind.i64.wrap (((x[j]'hjx).toNat : Int) - 48) = ((x[j]'hjx).toNat : Int) - 48 := IntWalk.i64_in _ (by omega)
          have d5 : decide (((x[j]'hjx).toNat : Int) - 48 < 0) = false := decide_eq_false (by omega)
          have w3 : IntKind.i64.wrap (16 * (HT j : Int)) = 16 * (HT j : Int) := IntWalk.i64_in _ (by omega)
          have w4 : IntKind.i64.wrap (16 * (HT j : Int) + (((x[j]'hjx).toNat : Int) - 48)) = ((HT (j + 1) : Nat) : Int) := by rw [IntWalk.i64_in _ (by omega), hz1]; omega
          clear hq hv hz1
          go_wp2_with fail
          go_roundw
          case rel => exact ⟨j + 1, by omega, by go_num, rfl, hA2, by trivial⟩
          case measure => simp [intOf]; omega
        · have hq2 : 97 ≤ (x[j]'hjx).toNat ∧ (x[j]'hjx).toNat ≤ 102 := by
            unfold hexB at hq
            simp only [Bool.or_eq_true, decide_eq_true_eq] at hq
            omega
          have hv : hexV (x[j]'hjx).toNat = (x[j]'hjx).toNat - 87 := by unfold hexV; rw [if_neg c1]
          rw [hv] at hz1 hv16
          have d1 : decide ((48 : Int) ≤ ((x[j]'hjx).toNat : Int)) = true := decide_eq_true (by omega)
          have d1b : decide (48 ≤ (x[j]'hjx).toNat) = true := decide_eq_true (by omega)
          have d2 : decide (((x[j]'hjx).toNat : Int) ≤ 57) = false := decide_eq_false (by omega)
          have d2b : decide ((x[j]'hjx).toNat ≤ 57) = false := decide_eq_false c1
          have d3 : decide ((97 : Int) ≤ ((x[j]'hjx).toNat : Int)) = true := decide_eq_true (by omega)
          have d3b : decide (97 ≤ (x[j]'hjx).toNat) = true := decide_eq_true hq2.1
          have d4 : decide (((x[j]'hjx).toNat : Int) ≤ 102) = true := decide_eq_true (by omega)
          have d4b : decide ((x[j]'hjx).toNat ≤ 102) = true := decide_eq_true hq2.2
          have w1 : IntKind.u8.wrap (((x[j]'hjx).toNat : Int) - 97) = ((x[j]'hjx).toNat : Int) - 97 := by rw [IntKind.wrap_u8]; omega
          have w2 : IntKind.i64.wrap (((x[j]'hjx).toNat : Int) - 97) = ((x[j]'hjx).toNat : Int) - 97 := IntWalk.i64_in _ (by omega)
          have w2b : IntKind.i64.wrap (((x[j]'hjx).toNat : Int) - 97 + 10) = ((x[j]'hjx).toNat : Int) - 97 + 10 := IntWalk.i64_in _ (by omega)
          have d5 : decide (((x[j]'hjx).toNat : Int) - 97 + 10 < 0) = false := decide_eq_false (by omega)
          have w3 : IntKind.i64.wrap (16 * (HT j : Int)) = 16 * (HT j : Int) := IntWalk.i64_in _ (by omega)
          have w4 : IntKind.i64.wrap (16 * (HT j : Int) + (((x[j]'hjx).toNat : Int) - 97 + 10)) = ((HT (j + 1) : Nat) : Int) := by rw [IntWalk.i64_in _ (by omega), hz1]; omega
          clear hq hv hz1
          go_wp2_with fail
          go_roundw
          case rel => exact ⟨j + 1, by omega, by go_num, rfl, hA2, by trivial⟩
          case measure => simp [intOf]; omega
    · obtain rfl : j = 8 := by omega
      have hok := Lib.hid (hXe.out hA.out)
      have hFm := Lib.hid (fun w' => l01From_any (HT 8 : Int) (by omega) (by omega) w')
      rw [show ((HT 8 : Nat) : Int).toNat = HT 8 by omega] at hFm
      have hBb := Lib.hid (fun w' => l01Bits_any (HT 8) hlk w')
      generalize HT 8 = z at *
      generalize bitsOf z = bz at *
      cases hq : (bz == (z : Int))
      · have hq2 : (bz != (z : Int)) = true := by rw [bne, hq]; rfl
        have hok2 := Lib.hid (hok.out.trans hq)
        have hR0 := Lib.hid (hRn.out hok2.out)
        clear hq
        go_wp2_with (first | (go_at_call 18; (with_reducible refine (hFm.out _).mono ?_); rintro e w' ⟨m, rfl, rfl⟩) | (go_at_call 19; (with_reducible refine (hBb.out _).mono ?_); rintro e w' ⟨m2, rfl, rfl⟩))
        first | exact ⟨_, by rw [hR0.out, hok2.out]; rfl, rfl⟩ | (go_ret2; exact ⟨_, by rw [hR0.out, hok2.out]; rfl, rfl⟩)
      · have hq2 : (bz != (z : Int)) = false := by rw [bne, hq]; rfl
        have hok2 := Lib.hid (hok.out.trans hq)
        have hR0 := Lib.hid (hRy.out hok2.out)
        clear hq
        go_wp2_with (first | (go_at_call 18; (with_reducible refine (hFm.out _).mono ?_); rintro e w' ⟨m, rfl, rfl⟩) | (go_at_call 19; (with_reducible refine (hBb.out _).mono ?_); rintro e w' ⟨m2, rfl, rfl⟩))
        first | exact ⟨_, by rw [hR0.out, hok2.out]; rfl, rfl⟩ | (go_ret2; exact ⟨_, by rw [hR0.out, hok2.out]; rfl, rfl⟩)
set_option maxHeartbeats 4000000 in
set_option maxRecDepth 100000 in
theorem l01CRead_any (s : ByteArray) (hs : s.size ≤ 1048576) (w : World) :
    Calls Tryd.prog 9 #[.string s] w fun e w' => ReadPostC (valCx s) (okReadC s) w e w' := by
  have hO0 := Lib.hid (show (w.alloc (Obj.cells #[] 29)).ownsRow w.heap.size 29 1 (.slice (some ⟨w.heap.size, 0, none⟩) 0 0) 0 (([] : List (Nat × Nat)).map cvV) from World.ownsRow_lit w #[] 0 (Nat.le_refl _) (Nat.zero_le _) rfl)
  have hB0 := Lib.hid (below_alloc (Below.refl w.heap.size w) (.cells #[] 29))
  cases hno : isNone s
  · have hno2 : (s.toList == [110, 111, 110, 101]) = false := hno
    have hC := Lib.hid (fun w' => l01Cut_any 44 s w' hs)
    have hcl : (cutS 44 s).length ≤ 1048577 := by have := cutS_le 44 s; omega
    have hpos : 0 < (cutS 44 s).length := by rw [cutS_len]; omega
    have hPs := Lib.hid (fun (i : Nat) x (hx : (cutS 44 s)[i]? = some x) => cutS_size hx)
    have hBig := Lib.hid (fun h => readC_big hno h)
    have hBad := Lib.hid (fun (k : Nat) x (hx : (cutS 44 s)[k]? = some x) hn => readC_bad hno hx hn)
    have hAll := Lib.hid (fun hl ha => readC_all hno hl ha)
    clear hno
    generalize hP : cutS 44 s = P at *
    generalize okReadC s = Q at *
    generalize valCx s = R at *
    clear hP
    generalize hn : P.length = n at *
    have hLn := Lib.hid hn
    clear hn
    by_cases hbig : 256 < n
    · have hR := Lib.hid (hBig.out hbig)
      have hd : decide ((256 : Int) < (n : Int)) = true := decide_eq_true (by omega)
      clear hBig hBad hAll hO0
      go_enter Tryd.func9, Tryd.ntmps9
      go_wp2_with fail
      generalize w.alloc (Obj.cells #[] 29) = w1 at *
      refine (hC.out w1).mono ?_
      rintro e w2 ⟨v, rfl, ho, hb⟩
      obtain ⟨g, c, rfl, _, hc1, hc2⟩ := row_openS7 ho.1 hpos
      have hB := Lib.hid (below_on hB0.out (Nat.le_refl _) hb)
      unfold maxLen at hc2
      clear hb hC ho
      go_wp2_with fail
      first | exact readC_nil hR.out hB.out | (go_ret2; exact readC_nil hR.out hB.out)
    obtain ⟨i0, hi, hz0, hz1, hz2⟩ := info_parts infoC8
    have hd : decide ((256 : Int) < (n : Int)) = false := decide_eq_false (by omega)
    have hGet : Hid (∀ k, k < n → ∃ x, P[k]? = some x) := Lib.hid fun k hk => ⟨_, List.getElem?_eq_getElem (by rw [hLn.out]; exact hk)⟩
    have hTk : Hid (∀ k x, P[k]? = some x → (P.take (k + 1)).map oneC = (P.take k).map oneC ++ [oneC x]) := Lib.hid fun k x hk => by rw [List.take_add_one, hk, List.map_append]; rfl
    have hTl : Hid (∀ k, k ≤ n → ((P.take k).map oneC).length = k) := Lib.hid fun k hk => by rw [List.length_map, List.length_take, hLn.out]; omega
    clear hBig
    go_enter Tryd.func9, Tryd.ntmps9
    go_wp2_with fail
    generalize w.alloc (Obj.cells #[] 29) = w1 at *
    refine (hC.out w1).mono ?_
    rintro e w2 ⟨v, rfl, ho, hb⟩
    obtain ⟨g, c, rfl, hg0, hc1, hc2⟩ := row_openS7 ho.1 hpos
    have hPr := Lib.hid ho.1
    have hB2 := Lib.hid (below_on hB0.out (Nat.le_refl _) hb)
    have hO2 := Lib.hid (ownsRow_kept hO0.out hb)
    unfold maxLen at hc2
    clear hb hC ho hO0 hB0
    go_wp2_with fail
    go_loopw [4, 6] (fun ov iv wr => ∃ (k : Nat), k ≤ n ∧ iv = .int .i64 k ∧ Hid (∀ i x, i < k → P[i]? = some x → okC x = true) ∧ Hid (wr.ownsRow w.heap.size 29 1 ov k (((P.take k).map oneC).map cvV)) ∧ Hid (wr.ownsRow w1.heap.size 9 1 (.slice (some ⟨g, 0, none⟩) n c) n (P.map Value.string)) ∧ Hid (Below w.heap.size w wr)) (fun _ iv _ => n - (intOf iv).toNat)
    case atStart => exact ⟨0, Nat.zero_le _, rfl, Lib.hid (fun i x hi => absurd hi (Nat.not_lt_zero _)), hO2, hPr, hB2⟩
    case round =>
      clear hO2 hB2 hPr hg0
      obtain ⟨k, hk, rfl, hAl, hO, hPw, hBw⟩ := hrel
      by_cases hlt : k < n
      · obtain ⟨x, hx⟩ := hGet.out k hlt
        have hcx : wr.cell? ⟨g, k, none⟩ = some (.string x) := by
          have := hPw.out.cellAt k (by omega)
          rw [this, List.getElem?_map, hx]; rfl
        have hxx := Lib.hid hx
        have hxs := hPs.out k x hx
        have hSt := Lib.hid (hTk.out k x hx)
        clear hx
        have hStop := Lib.hid (hBad.out k x hxx.out)
        by_cases h8 : x.size = 16
        · have e8 : ((x.size : Int) != 16) = false := by rw [bne_eq_false_iff_eq]; omega
          have e8b : (x.size != 16) = false := by rw [bne_eq_false_iff_eq]; exact h8
          have hsl1 : ∀ W, (Instr.slice 9 (.string x) none (some (.int .i64 8)) none).run Tryd.prog W = .ok (.string (x.extract 0 8)) W := fun W => run_slice_string_h (w := W) (t := 9) (s := x) Tryd.underlying9 .i64 8 (by omega) (by omega)
          have hsl2 : ∀ W, (Instr.slice 9 (.string x) (some (.int .i64 8)) none none).run Tryd.prog W = .ok (.string (x.extract 8 16)) W := fun W => by
            have h := run_slice_string_l (P := Tryd.prog) (w := W) (t := 9) (s := x) Tryd.underlying9 .i64 8 (by omega) (by omega)
            rw [h8] at h; exact h
          obtain ⟨z1, z2⟩ := half_size h8
          have hR1 := Lib.hid (fun w' => l01Digits_any (x.extract 0 8) z1 w')
          have hR2 := Lib.hid (fun w' => l01Digits_any (x.extract 8 16) z2 w')
          have hTwo := Lib.hid (okC_two h8 rfl rfl)
          have hYes := Lib.hid (fun h => oneC_yes (x := x) h)
          obtain ⟨Qx, hXq⟩ : ∃ q, okC x = q := ⟨_, rfl⟩
          have hXok : Hid (Qx = true → okC x = true) := Lib.hid fun h => hXq.trans h
          rw [hXq] at hTwo hYes hStop
          clear hXq z1 z2 h8
          generalize oneC x = V at *
          generalize x.extract 0 8 = s1 at *
          generalize x.extract 8 16 = s2 at *
          generalize okHex s1 = p at *
          generalize okHex s2 = q at *
          generalize hexR s1 = u at *
          generalize hexR s2 = y at *
          have hBl : Hid (∀ m, Below w.heap.size w (wr.drewN m)) := Lib.hid fun m => below_drewN hBw.out m
          cases hpq : (p && q)
          · have hQ : Hid (Qx = false) := Lib.hid (hTwo.out.trans hpq)
            have hR := Lib.hid (hStop.out hQ.out)
            have hpq2 : (!p || !q) = true := by revert hpq; cases p <;> cases q <;> simp
            cases p
            · clear hpq hpq2
              go_wp2_with (first | (go_at_call 14; (with_reducible refine (hR1.out _).mono ?_); rintro e w' ⟨m, rfl, rfl⟩) | (go_at_call 14; (with_reducible refine (hR2.out _).mono ?_); rintro e w' ⟨m2, rfl, rfl⟩))
              first | exact readC_nil hR.out (hBl.out _) | (go_ret2; exact readC_nil hR.out (hBl.out _))
            · obtain rfl : q = false := by revert hpq; cases q <;> simp
              clear hpq hpq2
              go_wp2_with (first | (go_at_call 14; (with_reducible refine (hR1.out _).mono ?_); rintro e w' ⟨m, rfl, rfl⟩) | (go_at_call 14; (with_reducible refine (hR2.out _).mono ?_); rintro e w' ⟨m2, rfl, rfl⟩))
              first | exact readC_nil hR.out (hBl.out _) | (go_ret2; exact readC_nil hR.out (hBl.out _))
          · rw [Bool.and_eq_true] at hpq
            obtain ⟨rfl, rfl⟩ := hpq
            have hqt : Qx = true := hTwo.out
            subst hqt
            have hyz := Lib.hid (hYes.out rfl)
            have hAll2 : Hid (∀ i u, i < k + 1 → P[i]? = some u → okC u = true) := Lib.hid fun i u hi hu => by
              by_cases h1 : i < k
              · exact hAl.out i u h1 hu
              · obtain rfl : i = k := by omega
                rw [hxx.out] at hu
                rw [← Option.some.inj hu]; exact hXok.out rfl
            rw [hyz.out] at hSt
            have hSt2 := hSt
            clear hSt
            go_wp2_with (first | (go_at_call 14; (with_reducible refine (hR1.out _).mono ?_); rintro e w' ⟨m, rfl, rfl⟩) | (go_at_call 14; (with_reducible refine (hR2.out _).mono ?_); rintro e w3 ⟨m2, rfl, hw3⟩; have hB3 : Hid (Below w.heap.size w w3) := Lib.hid (by rw [hw3]; exact below_drewN (below_drewN hBw.out m) m2); have hO3 : Hid (w3.ownsRow w.heap.size 29 1 _ k (((P.take k).map oneC).map cvV)) := Lib.hid (by rw [hw3]; exact ownsRow_drewN (ownsRow_drewN hO.out m) m2); have hP3 : Hid (w3.ownsRow w1.heap.size 9 1 (.slice (some ⟨g, 0, none⟩) n c) n (P.map Value.string)) := Lib.hid (by rw [hw3]; exact ownsRow_drewN (ownsRow_drewN hPw.out m) m2); have hs3 := Lib.hid hB3.out.size; have hNe := Lib.hid (own_ne hO3.out hP3.out (by decide)); clear hw3) | (at_builtin; refine wpList_append_own _ rfl _ _ _ rfl w.heap.size 29 i0 (.complex .f32 0 0) 1 8 Tryd.underlying22 hi hz0 hz1 hz2 rfl (by decide) _ k _ rfl (hO3.out.alloc _) ⟨w3.heap.size, 0, none⟩ 1 1 [.complex .f32 u y] rfl rfl (news_cell8 w3 _ _) (one_c8 (u, y)) (by unfold maxLen; omega) (by omega) (by rw [World.size_alloc]; have := hs3.out; omega) ?_; intro v8 w8 hown8 hgrow8 hnil8; have hB8 := Lib.hid ((hB3.out.alloc hs3.out (.cells #[.complex .f32 u y] 29)).grown hgrow8 (by rw [World.size_alloc]; have := hs3.out; omega) (fun g hg => (hO3.out.lt g hg).1)); have hP8 := Lib.hid (row_beside (hP3.out.alloc _) hgrow8 hNe.out); have hO8 := Lib.hid (show w8.ownsRow w.heap.size 29 1 v8 (k + 1) (((P.take (k + 1)).map oneC).map cvV) by rw [hSt2.out, List.map_append]; exact hown8); clear hown8 hgrow8 hnil8))
            go_roundw
            case rel => exact ⟨k + 1, by omega, by go_num, hAll2, hO8, hP8, hB8⟩
            case measure => simp [intOf]; omega
        · have e8 : ((x.size : Int) != 16) = true := by rw [bne_iff_ne]; omega
          have e8b : (x.size != 16) = true := by rw [bne_iff_ne]; exact h8
          have hR := Lib.hid (hStop.out (okC_long h8).1)
          clear hSt hStop
          go_wp2_with fail
          first | exact readC_nil hR.out hBw.out | (go_ret2; exact readC_nil hR.out hBw.out)
      · obtain rfl : k = n := by omega
        obtain ⟨hq, hr⟩ := hAll.out (by omega) (fun i x hi => hAl.out i x (by
          by_cases h3 : i < k
          · exact h3
          · rw [List.getElem?_eq_none (by rw [hLn.out]; omega)] at hi; cases hi) hi)
        have hq2 := Lib.hid hq
        have hO5 := Lib.hid (show wr.ownsRow w.heap.size 29 1 _ k (R.map cvV) by
          have := hO.out
          rw [List.take_of_length_le (by rw [hLn.out]; exact Nat.le_refl _)] at this
          rw [hr]; exact this)
        have hln : Hid (R.length = k) := Lib.hid (by rw [hr, List.length_map, hLn.out])
        clear hq hr
        go_wp2_with fail
        first | exact readC_row hq2.out (Nat.le_refl _) hln.out hO5.out (by omega) hBw.out | (go_ret2; exact readC_row hq2.out (Nat.le_refl _) hln.out hO5.out (by omega) hBw.out)
  · have hno2 : (s.toList == [110, 111, 110, 101]) = true := hno
    have hR := Lib.hid (readC_none hno)
    clear hno
    go_enter Tryd.func9, Tryd.ntmps9
    go_wp2_with fail
    first | exact readC_row (n := 0) hR.out.1 (Nat.le_refl _) (by rw [hR.out.2]; exact rfl) (by rw [hR.out.2]; exact hO0.out) (by omega) hB0.out | (go_ret2; exact readC_row (n := 0) hR.out.1 (Nat.le_refl _) (by rw [hR.out.2]; exact rfl) (by rw [hR.out.2]; exact hO0.out) (by omega) hB0.out)
end Go.Proofs.YtjpmliigepegaaaDoor
