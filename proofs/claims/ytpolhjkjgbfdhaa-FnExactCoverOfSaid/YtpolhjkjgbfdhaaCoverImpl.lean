/- Contract: how many work in each slot, the program's. -/
import Derived.Test.YtpolhjkjgbfdhaaCoverSpec
import Derived.Test.YtpolhjkjgbfdhaaWrongText
import Derived.Test.YtpolhjkjgbfdhaaBlk
import Derived.Lib.OthersKept
namespace Go.Proofs.Ytpolhjkjgbfdhaa
open Go.RowKit Go.Lst

theorem row_iterAt {w : World} {A e k n c G I : Nat} {cs : List Value} (h : w.ownsRow A e k (.slice (some ⟨G, 0, none⟩) n c) n cs) (hG : G ≠ I) (s : ByteArray) (p : Nat) : (w.iterAt I s p).ownsRow A e k (.slice (some ⟨G, 0, none⟩) n c) n cs := by
  obtain ⟨hl, h⟩ := h
  refine ⟨hl, ?_⟩
  rcases h with ⟨h, _⟩ | ⟨g, cap, cur, hv, h1, h2, h3⟩
  · cases h
  · cases hv
    exact .inr ⟨G, c, cur, rfl, h1, by rw [Lib.iterAt_other _ _ _ _ _ hG]; exact h2, h3⟩
theorem whole_iter {w : World} {b k : Nat} {t : TypeId} {cs : Array Value} (h : Whole w b t cs) (hk : b ≠ k) (s : ByteArray) (p : Nat) : Whole (w.iterAt k s p) b t cs := (Lib.iterAt_other w k b s p hk).trans h
theorem slot_small {x : ByteArray} (h : lettersB slotP x 24 = true) {k : Nat} (hk : k < x.size) : (x[k]'hk).toNat < 128 := by
  have h1 := (lettersB_of h).2.2 k hk
  rw [byte_getD x k hk] at h1
  unfold slotP at h1
  simp only [Bool.or_eq_true, decide_eq_true_eq] at h1
  omega
set_option maxHeartbeats 8000000 in
set_option maxRecDepth 100000 in
theorem coverOf_any (B : Nat) (v1 v2 : Value) (xs : List ByteArray) (cs : List Int) (w : World) (h1 : LstS B w v1 xs) (h2 : LstI B w v2 cs) (hB : B ≤ w.heap.size) (hw : ∀ x ∈ xs, x.size ≤ maxLen) :
    Calls Try.prog 28 #[v1, v2] w (ListPost (covRes xs cs) (covOk xs cs) w) := by
  have hNo : Hid (covOk xs cs = false → ∀ w', Below w.heap.size w w' → ListPost (covRes xs cs) (covOk xs cs) w (.returned (.tuple #[.slice none 0 0, .bool false])) w') := Lib.hid fun h w' hb => list_no (covRes_no h) h hb
  have hWi := Lib.hid (fun w' (hb : Below w.heap.size w w') => areWithin_any B v2 cs 0 1000 w' (h2.lst.below hb hB))
  have hCt := Lib.hid (fun w' (hb : Below w.heap.size w w') g f (hg : w'.cell? ⟨g, 0, none⟩ = some v1) (hf : xs[0]? = some f) => wrongTextContains_any B g v1 xs f w' (LstK.below h1 hb hB) hw hg hf)
  have hX0 := Lib.hid (Whole.made w 47 #[v1] rfl)
  have hB1 := Lib.hid (below_alloc (Below.refl w.heap.size w) (.cells #[v1] 47))
  obtain ⟨a1, cap1, rfl, hl1, hc1⟩ := h1.lst
  obtain ⟨a2, cap2, rfl, hl2, _, _, hc2⟩ := h2.at_
  rw [List.length_map] at *
  by_cases q1 : xs.length < 1
  · have hR := Lib.hid (hNo.out (covOk_1 (by unfold textsB; rw [decide_eq_false (show ¬ 1 ≤ xs.length by omega)]; rfl)))
    generalize ListPost (covRes xs cs) (covOk xs cs) w = Q at *
    clear h1 h2 hc1 hc2 hNo hw hWi hCt
    generalize xs.length = n at *
    generalize cs.length = m at *
    unfold maxLen at hl1 hl2
    have hd : decide ((n : Int) < 1) = true := decide_eq_true (by omega)
    go_enter Try.func28, Try.ntmps28
    go_wp2_with fail
    first | exact hR.out _ hB1.out | (go_ret2; exact hR.out _ hB1.out)
  by_cases q2 : 64 < xs.length
  · have hR := Lib.hid (hNo.out (covOk_1 (by unfold textsB; rw [decide_eq_false (show ¬ xs.length ≤ 64 by omega), Bool.and_false]; rfl)))
    generalize ListPost (covRes xs cs) (covOk xs cs) w = Q at *
    clear h1 h2 hc1 hc2 hNo hw hWi hCt
    generalize xs.length = n at *
    generalize cs.length = m at *
    unfold maxLen at hl1 hl2
    have hd : decide ((n : Int) < 1) = false := decide_eq_false (by omega)
    have hd2 : decide ((64 : Int) < (n : Int)) = true := decide_eq_true (by omega)
    go_enter Try.func28, Try.ntmps28
    go_wp2_with fail
    first | exact hR.out _ hB1.out | (go_ret2; exact hR.out _ hB1.out)
  by_cases q3 : cs.length = xs.length
  case neg =>
    have hR := Lib.hid (hNo.out (covOk_2 q3))
    have hbn : ((cs.length : Int) != (xs.length : Int)) = true := by rw [bne_iff_ne]; omega
    generalize ListPost (covRes xs cs) (covOk xs cs) w = Q at *
    clear h1 h2 hc1 hc2 hNo hw hWi hCt q3
    generalize xs.length = n at *
    generalize cs.length = m at *
    unfold maxLen at hl1 hl2
    have hd : decide ((n : Int) < 1) = false := decide_eq_false (by omega)
    have hd2 : decide ((64 : Int) < (n : Int)) = false := decide_eq_false (by omega)
    go_enter Try.func28, Try.ntmps28
    go_wp2_with fail
    first | exact hR.out _ hB1.out | (go_ret2; exact hR.out _ hB1.out)
  have hbn : ((cs.length : Int) != (xs.length : Int)) = false := by rw [bne_eq_false_iff_eq, q3]
  have hd : decide ((xs.length : Int) < 1) = false := decide_eq_false (by omega)
  have hd2 : decide ((64 : Int) < (xs.length : Int)) = false := decide_eq_false (by omega)
  cases q4 : allIn cs 0 1000
  · have hR := Lib.hid (hNo.out (by unfold covOk; rw [q4, Bool.and_false]))
    rw [q4] at hWi
    generalize ListPost (covRes xs cs) (covOk xs cs) w = Q at *
    clear h1 h2 hc1 hc2 hNo hw hCt q3 q4
    generalize xs.length = n at *
    generalize cs.length = m at *
    unfold maxLen at hl1 hl2
    go_enter Try.func28, Try.ntmps28
    go_wp2_with (go_at_call 53; (with_reducible refine (hWi.out _ hB1.out).mono ?_); rintro e w' ⟨rfl, rfl⟩)
    first | exact hR.out _ hB1.out | (go_ret2; exact hR.out _ hB1.out)
  rw [q4] at hWi
  obtain ⟨f, hf⟩ : ∃ f, xs[0]? = some f := ⟨_, List.getElem?_eq_getElem (by omega)⟩
  have hCt1 := Lib.hid (fun w' hb g hg => hCt.out w' hb g f hg hf)
  clear hCt
  cases q5 : xs.any (fun x => !oneText f x)
  case true =>
    have hR := Lib.hid (hNo.out (covOk_1 (by
      rw [List.any_eq_true] at q5
      obtain ⟨x, hx, hq⟩ := q5
      obtain ⟨i, hi⟩ := List.getElem?_of_mem hx
      exact textsB_3 hf hi (by simpa using hq))))
    rw [q5] at hCt1
    have c0 : (w.alloc (.cells #[Value.slice a1 xs.length cap1] 47)).cell? ⟨w.heap.size, 0, none⟩ = some (.slice a1 xs.length cap1) := hX0.out.at_ (i := 0) rfl
    generalize ListPost (covRes xs cs) (covOk xs cs) w = Q at *
    clear h1 h2 hc1 hc2 hNo hw q3 q4 q5 hf hX0
    generalize xs.length = n at *
    generalize cs.length = m at *
    unfold maxLen at hl1 hl2
    go_enter Try.func28, Try.ntmps28
    go_wp2_with fail
    generalize w.alloc _ = w1 at *
    refine (hWi.out _ hB1.out).mono ?_
    rintro e w' ⟨rfl, rfl⟩
    go_wp2_with fail
    refine (hCt1.out _ hB1.out _ c0).mono ?_
    rintro e w2 ⟨rfl, hb⟩
    have hB2 := Lib.hid (below_on hB1.out (Nat.le_refl _) hb)
    clear hb
    go_wp2_with fail
    first | exact hR.out _ hB2.out | (go_ret2; exact hR.out _ hB2.out)
  rw [q5] at hCt1
  have hOne : ∀ (j : Nat) (x : ByteArray), xs[j]? = some x → oneText f x = true := fun j x hx => by
    rw [List.any_eq_false] at q5
    have := q5 x (List.mem_of_getElem? hx)
    simpa using this
  have q6 := textsB_4 hf (by omega) (by omega) hOne
  obtain ⟨⟨n1, n64⟩, f', hf', ⟨f1, f24⟩, hAll⟩ := textsB_of q6
  obtain rfl : f = f' := Option.some.inj (hf.symm.trans hf')
  clear hf'
  have hok : covOk xs cs = true := by unfold covOk; rw [q6, q4, decide_eq_true q3]; rfl
  have hX : Hid (∀ k, k < xs.length → ∃ b o x, a1 = some ⟨b, o, none⟩ ∧ b < B ∧ xs[k]? = some x ∧ x.size = f.size ∧ lettersB slotP x 24 = true ∧ w.cell? ⟨b, o + k, none⟩ = some (.string x)) := Lib.hid fun k hk => by
    obtain ⟨b, o, ha, hb0, hb⟩ := hc1 (by intro h0; have := congrArg List.length h0; simp at this; rw [this] at hk; simp at hk)
    have e1 : xs[k]? = some xs[k] := List.getElem?_eq_getElem _
    exact ⟨b, o, xs[k], ha, hb0, e1, (hAll k _ e1).1, (hAll k _ e1).2, hb k _ (by rw [List.getElem?_map, e1]; rfl)⟩
  have hC2 := Lib.hid hc2
  have hP : Hid (∀ (j : Nat) (c : Int), cs[j]? = some c → inB c 0 1000 = true) := Lib.hid fun j c hc => List.all_eq_true.1 (show cs.all (fun x => inB x 0 1000) = true from q4) c (List.mem_of_getElem? hc)
  have hYes : Hid (∀ (w' : World) (v : Value) (A : Nat), w.heap.size ≤ A → w'.ownsRow A 2 1 v f.size ((fillI (covAt xs cs xs.length) f.size).map (Value.int .i64)) → Below w.heap.size w w' → ListPost (covRes xs cs) (covOk xs cs) w (.returned (.tuple #[v, .bool true])) w') := Lib.hid fun w' v A hA ho hb => by
    have hr : covRes xs cs = fillI (covAt xs cs xs.length) f.size := by unfold covRes; rw [hok, List.getD_eq_getElem?_getD, hf]; rfl
    rw [hr]
    exact list_yes hok hA (fillI_length _ _) ho (by omega) hb
  have hSt := Lib.hid (cov_start xs cs)
  have hEn := Lib.hid (cov_end xs cs)
  have hSet : Hid (∀ i k L, k < L → (fillI (covMid xs cs i k) L).set k (covAt xs cs (i + 1) k) = fillI (covMid xs cs i (k + 1)) L) := Lib.hid fun i k L hk => cov_set xs cs hk
  have hSm : Hid (∀ i k L, covAt xs cs (i + 1) k = covAt xs cs i k → fillI (covMid xs cs i (k + 1)) L = fillI (covMid xs cs i k) L) := Lib.hid fun i k L h => cov_same xs cs h
  have hAtC : Hid (∀ i k L, k < L → (fillI (covMid xs cs i k) L).getD k 0 = covAt xs cs i k) := Lib.hid fun i k L hk => cov_at xs cs hk
  have hCw : Hid (∀ i k x c, xs[i]? = some x → cs[i]? = some c → (x.data.toList.getD k 0).toNat = 119 → covAt xs cs (i + 1) k = covAt xs cs i k + c) := Lib.hid fun i k x c => cov_w
  have hCn : Hid (∀ i k x, xs[i]? = some x → ¬ (x.data.toList.getD k 0).toNat = 119 → covAt xs cs (i + 1) k = covAt xs cs i k) := Lib.hid fun i k x => cov_n
  have hIn : Hid (∀ i k, 0 ≤ covAt xs cs i k ∧ covAt xs cs i k ≤ 1000 * i) := Lib.hid fun i k => cov_in (fun j x _ hx => hP.out j x hx)
  have hZ : Hid (fillI (covAt xs cs 0) f.size = List.replicate f.size 0) := Lib.hid (by have h : fillI (covAt xs cs 0) f.size = (List.range f.size).map (fun _ => (0 : Int)) := rfl; rw [h, List.map_const', List.length_range])
  have hFs : Hid (∀ F : Nat → Int, (fillI F f.size).length = f.size) := Lib.hid fun F => fillI_length F _
  obtain ⟨i0, hi, hz0, hz1, hz2⟩ := info_parts infoI
  generalize ListPost (covRes xs cs) (covOk xs cs) w = Q at *
  obtain ⟨b, o, f', rfl, hbB, hf', hfs, -, d0⟩ := hX.out 0 (by omega)
  obtain rfl : f = f' := Option.some.inj (hf.symm.trans hf')
  rw [Nat.add_zero] at d0
  have c0 : (w.alloc (.cells #[Value.slice (some ⟨b, o, none⟩) xs.length cap1] 47)).cell? ⟨w.heap.size, 0, none⟩ = some (.slice (some ⟨b, o, none⟩) xs.length cap1) := hX0.out.at_ (i := 0) rfl
  clear h1 h2 hc1 hc2 hw q5 q6 q4 hAll hf hf' hNo hOne hok
  generalize covAt xs cs = CA at *
  generalize covMid xs cs = CM at *
  rw [q3] at hWi hl2 hC2 ⊢
  rw [q3] at hbn
  clear q3
  generalize xs.length = n at *
  unfold maxLen at hl1
  go_enter Try.func28, Try.ntmps28
  go_wp2_with fail
  generalize w.alloc _ = w1 at *
  refine (hWi.out _ hB1.out).mono ?_
  rintro e w' ⟨rfl, rfl⟩
  go_wp2_with fail
  refine (hCt1.out _ hB1.out _ c0).mono ?_
  rintro e w2 ⟨rfl, hb⟩
  have hB2 := Lib.hid (below_on hB1.out (Nat.le_refl _) hb)
  have hX2 := Lib.hid (hX0.out.kept hb)
  have hgz := hX2.out.size
  have e0 : w2.cell? ⟨w.heap.size, 0, none⟩ = some (.slice (some ⟨b, o, none⟩) n cap1) := hX2.out.at_ (i := 0) rfl
  have e1 : w2.cell? ⟨b, o, none⟩ = some (.string f) := by rw [hB2.out.cell (p := ⟨b, o, none⟩) (show b < w.heap.size by omega)]; exact d0
  clear hb c0 hX0 hCt1 hWi d0
  go_wp2_with (at_make; refine wpList_make_full _ rfl _ _ _ rfl w2.heap.size _ i0 (.int .i64 0) 1 Try.underlying25 hi hz0 hz1 _ _ _ _ f.size rfl rfl rfl rfl ?c1 ?c2 ?c3 ?_)
  case c1 => rw [hz2]; omega
  case c2 => unfold maxLen; omega
  case c3 => exact Nat.le_refl _
  intro w3 hown3 hg3
  have hB3 := Lib.hid (hB2.out.grown hg3 hB2.out.size (fun k hk => by cases hk))
  have hX3 := Lib.hid (hX2.out.beside hg3 (by simp))
  have hO3 := Lib.hid (show w3.ownsRow w2.heap.size 2 1 (.slice (some ⟨w2.heap.size, 0, none⟩) f.size f.size) f.size ((fillI (CA 0) f.size).map (Value.int .i64)) by rw [hZ.out]; exact zeros_row hown3)
  have e3 : w3.cell? ⟨w.heap.size, 0, none⟩ = some (.slice (some ⟨b, o, none⟩) n cap1) := hX3.out.at_ (i := 0) rfl
  clear hown3 hg3 hZ hfs e0 e1 hX2 hB2 hB1
  generalize w2.heap.size = G at *
  go_wp2_with fail
  clear e3 hX3
  go_loopw [43] (fun iv wr => ∃ i : Nat, i ≤ n ∧ iv = .int .i64 i ∧ Hid (wr.ownsRow G 2 1 (.slice (some ⟨G, 0, none⟩) f.size f.size) f.size ((fillI (CA i) f.size).map (Value.int .i64))) ∧ Hid (Below w.heap.size w wr)) (fun iv _ => n - (intOf iv).toNat)
  case atStart => exact ⟨0, Nat.zero_le _, rfl, hO3, hB3⟩
  case round =>
    clear hO3 hB3
    obtain ⟨i, hi0, rfl, hO, hB7⟩ := hrel
    generalize wr = wo at *
    by_cases hlt : i < n
    · obtain ⟨b1, o1, x, hbo, hbx, hx, hxL, hlet, cx⟩ := hX.out i hlt
      cases hbo
      obtain ⟨b3, o3, c, rfl, hb3, hc, cc⟩ := hC2.out i hlt
      have hXx := Lib.hid hx
      have hCc := Lib.hid hc
      have hLt := Lib.hid hlet
      have hbw : b < w.heap.size := by omega
      have hb3w : b3 < w.heap.size := by omega
      have hCd := Lib.hid cc
      rw [← hB7.out.cell (p := ⟨b, o + i, none⟩) hbw] at cx
      have hcb := inB_true (hP.out i c hc)
      have hGI : G < wo.heap.size := (hO.out.lt G rfl).2
      have hO3 := Lib.hid (show (World.iter wo x 0).ownsRow G 2 1 (.slice (some ⟨G, 0, none⟩) f.size f.size) f.size ((fillI (CM i 0) f.size).map (Value.int .i64)) by rw [hSt.out]; exact hO.out.alloc _)
      have hI3 := Lib.hid (World.iter_heap wo x 0)
      have hB8 := Lib.hid (show Below w.heap.size w (World.iter wo x 0) from below_alloc hB7.out _)
      have hwI : w.heap.size ≤ wo.heap.size := hB7.out.size
      clear hx hc hlet cc hO hB7
      go_wp2_with fail
      generalize World.iter wo x 0 = WI at *
      generalize wo.heap.size = I at *
      clear cx
      go_loopw [10] (fun _ wr => ∃ k : Nat, k ≤ x.size ∧ wr.heap[I]? = some (.stringIter x k) ∧ Hid (wr.ownsRow G 2 1 (.slice (some ⟨G, 0, none⟩) f.size f.size) f.size ((fillI (CM i k) f.size).map (Value.int .i64))) ∧ Hid (Below w.heap.size w wr)) (fun _ wr => x.size - wr.iterPos I)
      case atStart => exact ⟨0, Nat.zero_le _, hI3.out, hO3, hB8⟩
      case round =>
        clear hO3 hB8 hI3
        obtain ⟨k, hk0, hI, hO, hB7⟩ := hrel
        by_cases hlk : k < x.size
        · have hgd := byte_getD x k hlk
          have h128 := slot_small hLt.out hlk
          have hnx : ∀ ty, (Instr.next (.pointer (some ⟨I, 0, none⟩)) true ty).run Try.prog wr = _ := fun ty => Lib.run_next_ascii_at wr I x k ty hI hlk h128
          have hI1 := Lib.iterAt_heap wr I x k (k + 1) hI
          have hB1 := Lib.hid (Lib.below_iterAt hB7.out (k := I) hwI x (k + 1))
          have hO1 := Lib.hid (row_iterAt hO.out (show G ≠ I by omega) x (k + 1))
          have hip : wr.iterPos I = k := by simp [World.iterPos, hI]
          clear hO hB7
          generalize hW1 : wr.iterAt I x (k + 1) = W1 at *
          have cc := hCd.out
          rw [← hB1.out.cell (p := ⟨b3, o3 + i, none⟩) hb3w] at cc
          by_cases h119 : (x[k]'hlk).toNat = 119
          · have b1 : (((x[k]'hlk).toNat : Int) == 119) = true := by rw [h119]; rfl
            have hv := hCw.out i k x c hXx.out hCc.out (by rw [hgd]; exact h119)
            have hin := hIn.out i k
            have hd : W1.cell? ⟨G, k, none⟩ = some (.int .i64 (CA i k)) := by rw [row_cell hO1.out (by rw [hFs.out]; omega), hAtC.out i k _ (by omega)]
            have hfr : W1.frozen? ⟨G, k, none⟩ = false := hO1.out.frozenAt k
            have hst := row_set hO1.out k (CA (i + 1) k)
            rw [hSet.out i k _ (by omega), hv] at hst
            have hw1 : IntKind.i64.wrap (CA i k + c) = CA i k + c := IntWalk.i64_in _ (by omega)
            have hO4 := Lib.hid hst.1
            have hB4 := Lib.hid (hB1.out.setCell (p := ⟨G, k, none⟩) (show w.heap.size ≤ G by omega) (.int .i64 (CA i k + c)))
            have hI4 : (W1.setCell ⟨G, k, none⟩ (.int .i64 (CA i k + c))).heap[I]? = some (.stringIter x (k + 1)) := by rw [Below.heap_setCell _ _ _ I (show I ≠ G by omega)]; exact hI1
            clear hst hv hgd h119 hI1 hI hO1 hB1
            generalize CA i k = z at *
            go_wp2_with fail
            go_region
            go_wp2_with fail
            go_roundw
            case rel => exact ⟨k + 1, by omega, hI4, hO4, Lib.hid (Below.drew hB4.out)⟩
            case measure =>
              have e5 : (W1.setCell ⟨G, k, none⟩ (.int .i64 (z + c))).drew.iterPos I = k + 1 := by
                show World.iterPos (W1.setCell ⟨G, k, none⟩ (.int .i64 (z + c))) I = k + 1
                simp [World.iterPos, hI4]
              first | (rw [hip, e5]; omega) | (simp only [hip, e5]; omega) | (simp [hip, World.iterPos, hI4]; omega)
          · have b1 : (((x[k]'hlk).toNat : Int) == 119) = false := by rw [beq_eq_false_iff_ne]; omega
            have hO4 := Lib.hid (show W1.ownsRow G 2 1 (.slice (some ⟨G, 0, none⟩) f.size f.size) f.size ((fillI (CM i (k + 1)) f.size).map (Value.int .i64)) by rw [hSm.out i k _ (hCn.out i k x hXx.out (by rw [hgd]; exact h119))]; exact hO1.out)
            clear hO1 hgd h119
            go_wp2_with fail
            go_roundw
            case rel => exact ⟨k + 1, by omega, hI1, hO4, hB1⟩
            case measure =>
              have e5 : W1.iterPos I = k + 1 := by simp [World.iterPos, hI1]
              rw [hip, e5]; omega
        · have hke : k = f.size := by omega
          have hnx : ∀ ty, (Instr.next (.pointer (some ⟨I, 0, none⟩)) true ty).run Try.prog wr = _ := fun ty => Lib.run_next_end_at wr I x k ty hI hlk
          have hO5 := Lib.hid (show wr.ownsRow G 2 1 (.slice (some ⟨G, 0, none⟩) f.size f.size) f.size ((fillI (CA (i + 1)) f.size).map (Value.int .i64)) by rw [← hEn.out i f.size, ← hke]; have := hO.out; rw [← hke] at this; exact this)
          clear hO
          go_wp2_with fail
          go_roundw
          case rel => exact ⟨i + 1, by omega, by go_num, hO5, hB7⟩
          case measure => simp [intOf]; omega
    · obtain rfl : n = i := by omega
      have hR := Lib.hid (hYes.out wo _ G (by omega) hO.out hB7.out)
      clear hO hB7
      go_wp2_with fail
      first | exact hR.out | (go_ret2; exact hR.out)
end Go.Proofs.Ytpolhjkjgbfdhaa
