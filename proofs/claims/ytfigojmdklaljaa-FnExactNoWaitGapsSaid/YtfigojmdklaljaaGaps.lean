/- Contracts: the gaps between jobs that may not wait. -/
import Derived.Test.YtfigojmdklaljaaGap
import Derived.Test.YtfigojmdklaljaaCount
namespace Go.Proofs.Ytfigojmdklaljaa
open Go.RowKit Go.Lst

theorem one_int (x : Int) : ∀ u ∈ [Value.int .i64 x], u.oneCell' = true := by simp [Value.oneCell']
theorem gaps_fit {n i k : Nat} (hi : i < n) (hk : k < n) (hn : n ≤ 24) : i * n + k + 1 ≤ 576 := by
  have h1 := row_fit (m := n) hi
  have h2 := Nat.mul_le_mul hn hn
  omega
set_option maxHeartbeats 4000000 in
set_option maxRecDepth 100000 in
theorem implNoWaitGaps_any (B : Nat) (v1 : Value) (ts : List Int) (M : Int) (w : World) (h1 : LstI B w v1 ts) (hB : B ≤ w.heap.size) :
    Calls Try.prog 38 #[v1, .int .i64 M] w (ListPost (gapsRes ts M) (canShop ts M) w) := by
  rcases (show canShop ts M = false ∨ canShop ts M = true by cases canShop ts M <;> simp) with hq | hq
  · have hP : Hid (∀ w', Below w.heap.size w w' → (ListPost (gapsRes ts M) (canShop ts M) w) (.returned (.tuple #[.slice none 0 0, .bool false])) w') := Lib.hid fun w' hb => list_no (by unfold gapsRes; rw [hq]; rfl) hq hb
    have hS := Lib.hid (shopOf_no B v1 ts M w h1 hB hq)
    generalize ListPost (gapsRes ts M) (canShop ts M) w = Q at *
    clear h1 hq
    go_enter Try.func38, Try.ntmps38
    go_wp2_with fail
    with_reducible refine (hS.out).mono ?_
    rintro e w5 ⟨rfl, hb5⟩
    have hB5 := Lib.hid hb5
    clear hb5
    go_wp2_with fail
    exact hP.out _ (hB5.out.alloc hB5.out.size _)
  · obtain ⟨m, n, rfl, hm1, hm8, hn1, hn24, hlen, ht⟩ := canShop_of hq
    have hL1 : 1 ≤ ts.length := by rw [hlen]; exact Nat.mul_pos hn1 hm1
    obtain ⟨a1, cap1, rfl, _⟩ := id h1
    obtain ⟨b1, o1, rfl, _⟩ := lstI_block h1 (by omega)
    rw [hlen] at h1 ⊢
    have hS := Lib.hid (shopOf_yes B b1 o1 cap1 m n ts w h1 hB hm1 hm8 hn1 hn24 hq)
    have hd : ts.length / m = n := by rw [hlen]; exact Nat.mul_div_cancel n (by omega)
    have hP : Hid (∀ (w' : World) (v : Value) (A : Nat), w.heap.size ≤ A → w'.ownsRow A 2 1 v (n * n) ((fillI (gapPl ts m n) (n * n)).map (Value.int .i64)) → Below w.heap.size w w' → ListPost (gapsRes ts m) (canShop ts m) w (.returned (.tuple #[v, .bool true])) w') := Lib.hid fun w' v A hA ho hb => by
      rw [gapsRes_yes hq hd]
      exact list_yes hq hA (fillI_length _ _) ho (by have := Nat.mul_le_mul hn24 hn24; omega) hb
    have hLt := Lib.hid hlen
    have hTt : Hid (∀ (i : Nat) (x : Int), ts[i]? = some x → 1 ≤ x ∧ x ≤ 10000) := Lib.hid ht
    generalize ListPost (gapsRes ts m) (canShop ts m) w = Q at *
    clear h1 hq hlen hd
    go_enter Try.func38, Try.ntmps38
    go_wp2_with fail
    with_reducible refine (hS.out).mono ?_
    rintro e w5 ⟨s, rfl, hs5, hb5⟩
    have hS5 := Lib.hid hs5
    have hB5 := Lib.hid hb5
    obtain ⟨b', o', cap', vr, vt, rfl, ht5, hr', ht'⟩ := hs5
    have hT5 := Lib.hid ht5
    have hR5 := Lib.hid hr'
    obtain ⟨ar, cr, rfl, _⟩ := hr'
    obtain ⟨at', ct, rfl, _⟩ := ht'
    clear hb5 ht5
    generalize hLL0 : n * m = L at *
    have hLL := Lib.hid hLL0
    clear hLL0
    go_wp2_with fail
    have hb6 := Lib.hid (below_alloc (Below.refl w5.heap.size w5) (.cells #[.int .i64 m, .slice (some ⟨b', o', none⟩) L cap', .slice ar n cr, .slice at' (sameWay m ts.length).length ct] 52))
    have hx6 := Lib.hid (Whole.made w5 52 #[.int .i64 m, .slice (some ⟨b', o', none⟩) L cap', .slice ar n cr, .slice at' (sameWay m ts.length).length ct] rfl)
    obtain ⟨_, cr', hvr, _, _, _, _, hrr⟩ := hR5.out
    injection hvr with q1 q2 q3
    subst q1 q3
    obtain ⟨b3, o3, rfl, hb3, hrc⟩ := hrr (by omega)
    have hRow : Hid (∀ j, j < n → w5.cell? ⟨b3, o3 + j, none⟩ = some (.slice (some ⟨b', o' + j * m, none⟩) m m)) := Lib.hid fun j hj => hrc j _ (rowsL_get b' o' m n j hj)
    have hPart : Hid (∀ (w7 : World) (j : Nat), Below w5.heap.size w5 w7 → j < n → LstI w5.heap.size w7 (.slice (some ⟨b', o' + j * m, none⟩) m m) (rowOf ts m j)) := Lib.hid fun w7 j hb hj =>
      lstI_part (hT5.out.below hb (Nat.le_refl _)) (j * m) m m (by rw [← hLL.out]; exact row_fit hj) (Nat.le_refl _) (by unfold maxLen; omega)
    have hGap : Hid (∀ (w7 : World) (j k : Nat), Below w5.heap.size w5 w7 → j < n → k < n → Calls Try.prog 71 #[.slice (some ⟨b', o' + j * m, none⟩) m m, .slice (some ⟨b', o' + k * m, none⟩) m m] w7 fun e w' => e = .returned (.int .i64 (gapAt ts m j k)) ∧ w7 = w') := Lib.hid fun w7 j k hb hj hk =>
      gapOf_any w5.heap.size _ _ (rowOf ts m j) (rowOf ts m k) m w7 (hPart.out w7 j hb hj) (hPart.out w7 k hb hk) (rowOf_length (hLt.out.trans hLL.out.symm) hj) (rowOf_length (hLt.out.trans hLL.out.symm) hk) hm8 (row_times hTt.out (hLt.out.trans hLL.out.symm) hj) (row_times hTt.out (hLt.out.trans hLL.out.symm) hk)
    have hc2 := hx6.out.at_ (i := 2) rfl
    have hBw := Lib.hid (hB5.out.trans (hb6.out.mono hB5.out.size))
    have hX7 := hx6.out
    generalize w5.alloc _ = w6 at *
    clear hrr hrc hPart
    obtain ⟨i0, hi, hz0, hz1, hz2⟩ := info_parts infoI
    have hFs := Lib.hid (fillI_succ (gapPl ts m n))
    have hNn : Hid (∀ i, (i + 1) * n = i * n + n) := Lib.hid fun i => by rw [Nat.add_mul, Nat.one_mul]
    have hg6 : w5.heap.size < w6.heap.size := hX7.size
    have hXX := Lib.hid hX7
    clear hX7
    go_wp2_with fail
    clear hc2
    go_loopw [8, 24] (fun gv iv wr => ∃ (i : Nat), i ≤ n ∧ iv = .int .i64 i ∧ Hid (wr.ownsRow w6.heap.size 2 1 gv (i * n) ((fillI (gapPl ts m n) (i * n)).map (Value.int .i64))) ∧ Hid (Below w6.heap.size w6 wr)) (fun _ iv _ => n - (intOf iv).toNat)
    case atStart => exact ⟨0, Nat.zero_le _, rfl, Lib.hid ⟨by rw [Nat.zero_mul]; rfl, .inl ⟨rfl, by rw [Nat.zero_mul]⟩⟩, Lib.hid (Below.refl _ _)⟩
    case round =>
      obtain ⟨i, hi0, rfl, hO, hB7⟩ := hrel
      by_cases hlt : i < n
      · have hri := hRow.out i hlt
        have hb57 := hb6.out.trans (hB7.out.mono hb6.out.size)
        rw [← hb57.cell (p := ⟨b3, o3 + i, none⟩) hb3] at hri
        have hc3 := (hXX.out.below hB7.out hg6).at_ (i := 2) rfl
        have hNx := Lib.hid (hNn.out i)
        have hGi : Hid (∀ (w7 : World) (k : Nat), Below w5.heap.size w5 w7 → k < n → _) := Lib.hid fun w7 k hb hk => hGap.out w7 i k hb hlt hk
        have hPl : Hid (∀ k, k < n → gapPl ts m n (i * n + k) = if i = k then 0 else gapAt ts m i k) := Lib.hid fun k hk => by
          by_cases e : i = k
          · subst e; rw [if_pos rfl, gapPl_same ts m hk]
          · rw [if_neg e, gapPl_other ts m hk e]
        have hFit : Hid (∀ k, k < n → i * n + k + 1 ≤ 576) := Lib.hid fun k hk => gaps_fit hlt hk hn24
        generalize hpi : i * m = pi at *
        generalize htn : i * n = tn at *
        clear hb57 hpi
        go_wp2_with fail
        clear hc3 hri
        go_loopw [8, 32] (fun gv kv wr => ∃ (k : Nat), k ≤ n ∧ kv = .int .i64 k ∧ Hid (wr.ownsRow w6.heap.size 2 1 gv (tn + k) ((fillI (gapPl ts m n) (tn + k)).map (Value.int .i64))) ∧ Hid (Below w6.heap.size w6 wr)) (fun _ kv _ => n - (intOf kv).toNat)
        case atStart => exact ⟨0, Nat.zero_le _, rfl, hO, hB7⟩
        case round =>
          clear hO hB7
          obtain ⟨k, hk0, rfl, hO, hB7⟩ := hrel
          by_cases hlk : k < n
          · have hrk := hRow.out k hlk
            have hb57 := Lib.hid (hb6.out.trans (hB7.out.mono hb6.out.size))
            rw [← hb57.out.cell (p := ⟨b3, o3 + k, none⟩) hb3] at hrk
            have hfit := hFit.out k hlk
            have hpl := Lib.hid (hPl.out k hlk)
            have hGk := Lib.hid (hGi.out wr k hb57.out hlk)
            generalize hpk : k * m = pk at *
            clear hpk
            by_cases hik : i = k
            · have hb : ((i : Int) == (k : Int)) = true := by rw [beq_iff_eq]; omega
              have hv0 := Lib.hid (show gapPl ts m n (tn + k) = 0 by rw [hpl.out, if_pos hik])
              clear hik hGk
              go_wp2_with (at_builtin; refine wpList_append_own _ rfl _ _ _ rfl w6.heap.size 2 i0 (.int .i64 0) 1 8 Try.underlying22 hi hz0 hz1 hz2 rfl (by decide) _ (tn + k) _ rfl (hO.out.alloc _) ⟨wr.heap.size, 0, none⟩ 1 1 [.int .i64 0] rfl rfl (news1 wr _ _) (one_int _) (by unfold maxLen; omega) (by omega) (grow_le hB7.out.size _) ?_; intro v8 w8 hown8 hgrow8 hnil8; have hB8 := Lib.hid (below_app hB7.out hO.out hgrow8 hB7.out.size (Nat.le_refl _)); have hO8 := Lib.hid (show w8.ownsRow w6.heap.size 2 1 v8 (tn + (k + 1)) ((fillI (gapPl ts m n) (tn + (k + 1))).map (Value.int .i64)) by rw [← Nat.add_assoc, hFs.out, List.map_append, hv0.out]; exact hown8); clear hown8 hgrow8 hnil8)
              go_roundw
              case rel => exact ⟨k + 1, by omega, by go_num, hO8, hB8⟩
              case measure => simp [intOf]; omega
            · have hb : ((i : Int) == (k : Int)) = false := by rw [beq_eq_false_iff_ne]; omega
              have hv0 := Lib.hid (show gapPl ts m n (tn + k) = gapAt ts m i k by rw [hpl.out, if_neg hik])
              generalize gapAt ts m i k = ga at *
              clear hik
              go_wp2_with (first | (go_at_call 71; (with_reducible refine (hGk.out).mono ?_); rintro e w' ⟨rfl, rfl⟩) | (at_builtin; refine wpList_append_own _ rfl _ _ _ rfl w6.heap.size 2 i0 (.int .i64 0) 1 8 Try.underlying22 hi hz0 hz1 hz2 rfl (by decide) _ (tn + k) _ rfl (hO.out.alloc _) ⟨wr.heap.size, 0, none⟩ 1 1 [.int .i64 ga] rfl rfl (news1 wr _ _) (one_int _) (by unfold maxLen; omega) (by omega) (grow_le hB7.out.size _) ?_; intro v8 w8 hown8 hgrow8 hnil8; have hB8 := Lib.hid (below_app hB7.out hO.out hgrow8 hB7.out.size (Nat.le_refl _)); have hO8 := Lib.hid (show w8.ownsRow w6.heap.size 2 1 v8 (tn + (k + 1)) ((fillI (gapPl ts m n) (tn + (k + 1))).map (Value.int .i64)) by rw [← Nat.add_assoc, hFs.out, List.map_append, hv0.out]; exact hown8); clear hown8 hgrow8 hnil8))
              go_roundw
              case rel => exact ⟨k + 1, by omega, by go_num, hO8, hB8⟩
              case measure => simp [intOf]; omega
          · obtain rfl : n = k := by omega
            have hO9 := hO.out
            rw [← hNx.out] at hO9
            have hO10 := Lib.hid hO9
            clear hO9 hO
            go_wp2_with fail
            go_roundw
            case rel => exact ⟨i + 1, by omega, by go_num, hO10, hB7⟩
            case measure => simp [intOf]; omega
      · obtain rfl : n = i := by omega
        have hR := Lib.hid (hP.out wr _ w6.heap.size (Nat.le_trans hBw.out.size (Nat.le_refl _)) hO.out (hBw.out.trans (hB7.out.mono hBw.out.size)))
        clear hO hB7
        go_wp2_with fail
        exact hR.out
set_option maxHeartbeats 8000000 in
set_option maxRecDepth 100000 in
theorem specNoWaitGaps_any (B : Nat) (v1 : Value) (ts : List Int) (M : Int) (w : World) (h1 : LstI B w v1 ts) (hB : B ≤ w.heap.size) :
    Calls Try.prog 37 #[v1, .int .i64 M] w (ListPost (gapsRes ts M) (canShop ts M) w) := by
  have hC := Lib.hid (l04Can_any B v1 ts M w h1)
  rcases (show canShop ts M = false ∨ canShop ts M = true by cases canShop ts M <;> simp) with hq | hq
  · have hP := Lib.hid (list_no (r := gapsRes ts M) (ok := canShop ts M) (w := w) (w' := w) (by unfold gapsRes; rw [hq]; rfl) hq (Below.refl _ _))
    rw [hq] at hC
    generalize ListPost (gapsRes ts M) (canShop ts M) w = Q at *
    clear h1 hq
    go_enter Try.func37, Try.ntmps37
    go_wp2_with (go_at_call 67; (with_reducible refine (hC.out).mono ?_); rintro e w' ⟨rfl, rfl⟩)
    first | exact hP.out | (go_ret2; exact hP.out)
  · obtain ⟨m, n, rfl, hm1, hm8, hn1, hn24, hlen, ht⟩ := canShop_of hq
    have hL1 : 1 ≤ ts.length := by rw [hlen]; exact Nat.mul_pos hn1 hm1
    have hd : ts.length / m = n := by rw [hlen]; exact Nat.mul_div_cancel n (by omega)
    rw [hq] at hC
    obtain ⟨a1, cap1, rfl, _⟩ := id h1
    obtain ⟨b1, o1, rfl, _⟩ := lstI_block h1 (by omega)
    rw [hlen] at h1 hC ⊢
    have hCnt := Lib.hid (fun w' => l04Count_any (some ⟨b1, o1, none⟩) m n cap1 w' hm1 (mul_le24 hn24 hm8))
    have hGap : Hid (∀ (w7 : World) (j k : Nat), Below w.heap.size w w7 → j < n → k < n → Calls Try.prog 70 #[.slice (some ⟨b1, o1, none⟩) (n * m) cap1, .int .i64 m, .int .i64 (j : Int), .int .i64 (k : Int)] w7 fun e w' => e = .returned (.int .i64 (gapAt ts m j k)) ∧ w7 = w') := Lib.hid fun w7 j k hb hj hk =>
      l04Gap_any B b1 o1 cap1 ts m n j k w7 (h1.below hb hB) hm8 hn24 hlen ht hj hk
    have hP : Hid (∀ (w' : World) (v : Value), w'.ownsRow w.heap.size 2 1 v (n * n) ((fillI (gapPl ts m n) (n * n)).map (Value.int .i64)) → Below w.heap.size w w' → ListPost (gapsRes ts m) (canShop ts m) w (.returned (.tuple #[v, .bool true])) w') := Lib.hid fun w' v ho hb => by
      rw [gapsRes_yes hq hd]
      exact list_yes hq (Nat.le_refl _) (fillI_length _ _) ho (by have := Nat.mul_le_mul hn24 hn24; omega) hb
    obtain ⟨i0, hi, hz0, hz1, hz2⟩ := info_parts infoI
    have hFs := Lib.hid (fillI_succ (gapPl ts m n))
    have hNn : Hid (∀ i, (i + 1) * n = i * n + n) := Lib.hid fun i => by rw [Nat.add_mul, Nat.one_mul]
    generalize ListPost (gapsRes ts m) (canShop ts m) w = Q at *
    clear h1 hq hlen hd ht
    generalize n * m = L at *
    go_enter Try.func37, Try.ntmps37
    go_wp2_with (first | (go_at_call 67; (with_reducible refine (hC.out).mono ?_); rintro e w' ⟨rfl, rfl⟩) | (go_at_call 68; (with_reducible refine (hCnt.out _).mono ?_); rintro e w' ⟨rfl, rfl⟩))
    have hO0 := Lib.hid (show (w.alloc (Obj.cells #[] 2)).ownsRow w.heap.size 2 1 (.slice (some ⟨w.heap.size, 0, none⟩) 0 0) (0 * n) ((fillI (gapPl ts m n) (0 * n)).map (Value.int .i64)) by rw [Nat.zero_mul]; exact World.ownsRow_lit w #[] 0 (Nat.le_refl _) (Nat.zero_le _) rfl)
    have hB0 := Lib.hid (show Below w.heap.size w (w.alloc (Obj.cells #[] 2)) from below_alloc (Below.refl _ _) _)
    generalize w.alloc (Obj.cells #[] 2) = w4 at *
    generalize hgg : w.heap.size = g at *
    have hGG := Lib.hid hgg
    clear hgg
    go_loopw [7, 8] (fun gv iv wr => ∃ (i : Nat), i ≤ n ∧ iv = .int .i64 i ∧ Hid (wr.ownsRow g 2 1 gv (i * n) ((fillI (gapPl ts m n) (i * n)).map (Value.int .i64))) ∧ Hid (Below g w wr)) (fun _ iv _ => n - (intOf iv).toNat)
    case atStart => exact ⟨0, Nat.zero_le _, rfl, hO0, hB0⟩
    case round =>
      clear hO0 hB0
      obtain ⟨i, hi0, rfl, hO, hB7⟩ := hrel
      by_cases hlt : i < n
      · have hNx := Lib.hid (hNn.out i)
        have hGi : Hid (∀ (w7 : World) (k : Nat), Below g w w7 → k < n → _) := Lib.hid fun w7 k hb hk => hGap.out w7 i k hb hlt hk
        have hPl : Hid (∀ k, k < n → gapPl ts m n (i * n + k) = if i = k then 0 else gapAt ts m i k) := Lib.hid fun k hk => by
          by_cases e : i = k
          · subst e; rw [if_pos rfl, gapPl_same ts m hk]
          · rw [if_neg e, gapPl_other ts m hk e]
        have hFit : Hid (∀ k, k < n → i * n + k + 1 ≤ 576) := Lib.hid fun k hk => gaps_fit hlt hk hn24
        generalize htn : i * n = tn at *
        go_wp2_with fail
        go_loopw [7, 9] (fun gv kv wr => ∃ (k : Nat), k ≤ n ∧ kv = .int .i64 k ∧ Hid (wr.ownsRow g 2 1 gv (tn + k) ((fillI (gapPl ts m n) (tn + k)).map (Value.int .i64))) ∧ Hid (Below g w wr)) (fun _ kv _ => n - (intOf kv).toNat)
        case atStart => exact ⟨0, Nat.zero_le _, rfl, hO, hB7⟩
        case round =>
          clear hO hB7
          obtain ⟨k, hk0, rfl, hO, hB7⟩ := hrel
          by_cases hlk : k < n
          · have hfit := hFit.out k hlk
            have hgs := Lib.hid (show g ≤ wr.heap.size by have := hB7.out.size; rw [hGG.out] at this; exact this)
            have hpl := Lib.hid (hPl.out k hlk)
            have hGk := Lib.hid (hGi.out wr k hB7.out hlk)
            by_cases hik : i = k
            · have hb : ((i : Int) == (k : Int)) = true := by rw [beq_iff_eq]; omega
              have hv0 := Lib.hid (show gapPl ts m n (tn + k) = 0 by rw [hpl.out, if_pos hik])
              clear hik hGk
              go_wp2_with (at_builtin; refine wpList_append_own _ rfl _ _ _ rfl g 2 i0 (.int .i64 0) 1 8 Try.underlying22 hi hz0 hz1 hz2 rfl (by decide) _ (tn + k) _ rfl (hO.out.alloc _) ⟨wr.heap.size, 0, none⟩ 1 1 [.int .i64 0] rfl rfl (news1 wr _ _) (one_int _) (by unfold maxLen; omega) (by omega) (grow_le hgs.out _) ?_; intro v8 w8 hown8 hgrow8 hnil8; have hB8 := Lib.hid (below_app hB7.out hO.out hgrow8 hgs.out (Nat.le_refl _)); have hO8 := Lib.hid (show w8.ownsRow g 2 1 v8 (tn + (k + 1)) ((fillI (gapPl ts m n) (tn + (k + 1))).map (Value.int .i64)) by rw [← Nat.add_assoc, hFs.out, List.map_append, hv0.out]; exact hown8); clear hown8 hgrow8 hnil8)
              go_roundw
              case rel => exact ⟨k + 1, by omega, by go_num, hO8, hB8⟩
              case measure => simp [intOf]; omega
            · have hb : ((i : Int) == (k : Int)) = false := by rw [beq_eq_false_iff_ne]; omega
              have hv0 := Lib.hid (show gapPl ts m n (tn + k) = gapAt ts m i k by rw [hpl.out, if_neg hik])
              generalize gapAt ts m i k = ga at *
              clear hik
              go_wp2_with (first | (go_at_call 70; (with_reducible refine (hGk.out).mono ?_); rintro e w' ⟨rfl, rfl⟩) | (at_builtin; refine wpList_append_own _ rfl _ _ _ rfl g 2 i0 (.int .i64 0) 1 8 Try.underlying22 hi hz0 hz1 hz2 rfl (by decide) _ (tn + k) _ rfl (hO.out.alloc _) ⟨wr.heap.size, 0, none⟩ 1 1 [.int .i64 ga] rfl rfl (news1 wr _ _) (one_int _) (by unfold maxLen; omega) (by omega) (grow_le hgs.out _) ?_; intro v8 w8 hown8 hgrow8 hnil8; have hB8 := Lib.hid (below_app hB7.out hO.out hgrow8 hgs.out (Nat.le_refl _)); have hO8 := Lib.hid (show w8.ownsRow g 2 1 v8 (tn + (k + 1)) ((fillI (gapPl ts m n) (tn + (k + 1))).map (Value.int .i64)) by rw [← Nat.add_assoc, hFs.out, List.map_append, hv0.out]; exact hown8); clear hown8 hgrow8 hnil8))
              go_roundw
              case rel => exact ⟨k + 1, by omega, by go_num, hO8, hB8⟩
              case measure => simp [intOf]; omega
          · obtain rfl : n = k := by omega
            have hO9 := hO.out
            rw [← hNx.out] at hO9
            have hO10 := Lib.hid hO9
            clear hO9 hO
            go_wp2_with fail
            go_roundw
            case rel => exact ⟨i + 1, by omega, by go_num, hO10, hB7⟩
            case measure => simp [intOf]; omega
      · obtain rfl : n = i := by omega
        have hR := Lib.hid (hP.out wr _ hO.out hB7.out)
        clear hO hB7
        go_wp2_with fail
        first | exact hR.out | (go_ret2; exact hR.out)
theorem noWaitGaps_both (ts : List Int) (M : Int) (_ : ∀ x ∈ ts, (Lit.int .i64 x).wf = true) (_ : (Lit.int .i64 M).wf = true) : ∃ (r0 : List Int) (r1 : Bool), r0.length ≤ 1048576 ∧
    (∀ (B : Nat) (v1 : Value) (w : World), LstI B w v1 ts → B ≤ w.heap.size → Calls Try.prog 37 #[v1, .int .i64 M] w fun e w' => ∃ v', e = .returned (.tuple #[v', .bool r1]) ∧ Own w.heap.size w'.heap.size w' v' 2 1 r0.length (r0.map (Value.int .i64)) ∧ Below w.heap.size w w') ∧
    (∀ (B : Nat) (v1 : Value) (w : World), LstI B w v1 ts → B ≤ w.heap.size → Calls Try.prog 38 #[v1, .int .i64 M] w fun e w' => ∃ v', e = .returned (.tuple #[v', .bool r1]) ∧ Own w.heap.size w'.heap.size w' v' 2 1 r0.length (r0.map (Value.int .i64)) ∧ Below w.heap.size w w') :=
  ⟨gapsRes ts M, canShop ts M, gapsRes_length ts M, fun B v1 w h1 hB => specNoWaitGaps_any B v1 ts M w h1 hB, fun B v1 w h1 hB => implNoWaitGaps_any B v1 ts M w h1 hB⟩
end Go.Proofs.Ytfigojmdklaljaa
