/- Contracts: a roster that is rotated, the model's; both builds together. -/
import Derived.Test.YtcpfiledegnlpabRoster
import Derived.Laws.Strings2
namespace Go.Proofs.Ytcpfiledegnlpab
open Go.RowKit Go.Lst

theorem strOf_snoc (xs : List Int) (c : Int) : strOfNums (xs ++ [c]) = strOfNums xs ++ strOfNums [c] := by
  apply ByteArray.ext
  simp [strOfNums, ByteArray.data_append]
theorem extract_one (s : ByteArray) (m : Nat) (h : m < s.size) : s.extract m (m + 1) = strOfNums [((s[m]'h).toNat : Int)] := by
  apply ByteArray.ext
  have hs : m < s.data.size := h
  have e : (s[m]'h) = s.data[m]'hs := rfl
  rw [ByteArray.data_extract, e]
  apply Array.ext_getElem?
  intro i
  rw [Array.getElem?_extract]
  by_cases hi : i = 0
  · subst hi
    rw [if_pos (by omega), Nat.add_zero, Array.getElem?_eq_getElem hs]
    simp [strOfNums]
  · rw [if_neg (by omega)]
    simp [strOfNums]
    omega
theorem one_string (x : ByteArray) : ∀ u ∈ [Value.string x], u.oneCell' = true := by simp [Value.oneCell']
theorem news_string (w : World) (t : TypeId) (u : Value) : ∀ (j : Nat) (x : Value), [u][j]? = some x → (w.alloc (.cells #[u] t)).cell? ((⟨w.heap.size, 0, none⟩ : Addr).add j) = some x := fun j x hj => by
  match j, hj with
  | 0, hj =>
    obtain rfl : u = x := by simpa using hj
    exact (Whole.made w t #[u] rfl).at_ rfl
  | j + 1, hj => simp at hj
theorem growS_le {B : Nat} {w : World} (h : B ≤ w.heap.size) (o : Obj) : B ≤ (w.alloc o).heap.size := by simp; omega
theorem belowS_app {B C n k : Nat} {w wr w6 : World} {o : Obj} {v : Value} {cs : List Value} {e : TypeId} (hb : Below B w wr) (hO : wr.ownsRow C e k v n cs) (hg : (wr.alloc o).grownBy w6 v.ownBlock) (hB : B ≤ wr.heap.size) (hC : B ≤ C) : Below B w w6 :=
  (hb.alloc hB o).grown hg (growS_le hB o) fun k hk => Nat.le_trans hC (hO.lt k hk).1
set_option maxHeartbeats 4000000 in
set_option maxRecDepth 100000 in
theorem specRoster_any (s : ByteArray) (p d st : Int) (hs : s.size ≤ maxLen) (w : World) :
    Calls Try.prog 50 #[.string s, .int .i64 p, .int .i64 d, .int .i64 st] w (StrsPost (rosRes s p d st) (okRoster s p d st) w) := by
  have hD : Hid (Calls Try.prog 94 #[.string s, .int .i64 64] w fun e w' => e = .returned (.bool (lettersB dayP s 64)) ∧ w = w') := Lib.hid (l06Days_any s 64 hs (by omega) w)
  have hNo : Hid (okRoster s p d st = false → ∀ w', Below w.heap.size w w' → StrsPost (rosRes s p d st) (okRoster s p d st) w (.returned (.tuple #[.slice none 0 0, .bool false])) w') := Lib.hid fun h w' hb => strs_no (rosRes_no h) h hb
  unfold maxLen at hs
  cases e1 : lettersB dayP s 64
  · rw [e1] at hD
    have hR := Lib.hid (hNo.out (by simp [okRoster, e1]) w (Below.refl _ _))
    generalize StrsPost (rosRes s p d st) (okRoster s p d st) w = Q at *
    go_enter Try.func50, Try.ntmps50
    go_wp2_with (first | (go_at_call 94; (with_reducible refine (hD.out).mono ?_); rintro e w1 ⟨rfl, rfl⟩) | (go_at_call 60; refine (l00In_any _ _ _ _).mono ?_; rintro e w' ⟨rfl, rfl⟩))
    first | exact hR.out | (go_ret2; exact hR.out)
  rw [e1] at hD
  cases e2 : inB p 1 12
  · have hR := Lib.hid (hNo.out (by simp [okRoster, e2]) w (Below.refl _ _))
    generalize StrsPost (rosRes s p d st) (okRoster s p d st) w = Q at *
    go_enter Try.func50, Try.ntmps50
    go_wp2_with (first | (go_at_call 94; (with_reducible refine (hD.out).mono ?_); rintro e w1 ⟨rfl, rfl⟩) | (go_at_call 60; refine (l00In_any _ _ _ _).mono ?_; rintro e w' ⟨rfl, rfl⟩))
    first | exact hR.out | (go_ret2; exact hR.out)
  cases e3 : inB d 1 128
  · have hR := Lib.hid (hNo.out (by simp [okRoster, e3]) w (Below.refl _ _))
    generalize StrsPost (rosRes s p d st) (okRoster s p d st) w = Q at *
    go_enter Try.func50, Try.ntmps50
    go_wp2_with (first | (go_at_call 94; (with_reducible refine (hD.out).mono ?_); rintro e w1 ⟨rfl, rfl⟩) | (go_at_call 60; refine (l00In_any _ _ _ _).mono ?_; rintro e w' ⟨rfl, rfl⟩))
    first | exact hR.out | (go_ret2; exact hR.out)
  cases e4 : inB st 0 64
  · have hR := Lib.hid (hNo.out (by simp [okRoster, e4]) w (Below.refl _ _))
    generalize StrsPost (rosRes s p d st) (okRoster s p d st) w = Q at *
    go_enter Try.func50, Try.ntmps50
    go_wp2_with (first | (go_at_call 94; (with_reducible refine (hD.out).mono ?_); rintro e w1 ⟨rfl, rfl⟩) | (go_at_call 60; refine (l00In_any _ _ _ _).mono ?_; rintro e w' ⟨rfl, rfl⟩))
    first | exact hR.out | (go_ret2; exact hR.out)
  have hok : okRoster s p d st = true := by simp [okRoster, e1, e2, e3, e4]
  obtain ⟨⟨s1, s64⟩, ⟨p1, p12⟩, ⟨d1, d128⟩, st0, st64⟩ := okRoster_of hok
  obtain ⟨P, rfl⟩ := Int.eq_ofNat_of_zero_le (show 0 ≤ p by omega)
  obtain ⟨D, rfl⟩ := Int.eq_ofNat_of_zero_le (show 0 ≤ d by omega)
  obtain ⟨T, rfl⟩ := Int.eq_ofNat_of_zero_le st0
  have hYes : Hid (∀ (w' : World) (v : Value) (A : Nat), w.heap.size ≤ A → w'.ownsRow A 9 1 v P ((List.range P).map fun i => Value.string (txtR s T i D)) → Below w.heap.size w w' → StrsPost (rosRes s P D T) (okRoster s P D T) w (.returned (.tuple #[v, .bool true])) w') := Lib.hid fun w' v A hA ho hb => by
    have hr : rosRes s P D T = (List.range P).map fun i => txtR s T i D := by unfold rosRes; rw [hok]; rfl
    refine strs_yes (n := P) hok hA (by rw [hr]; simp) ?_ (by omega) hb
    rw [hr, List.map_map]
    exact ho
  generalize StrsPost (rosRes s P D T) (okRoster s P D T) w = Q at *
  have hLet : Hid (∀ i k (h : (k + i * T) % s.size < s.size), letR s T i k = ((s[(k + i * T) % s.size]'h).toNat : Int)) := Lib.hid fun i k h => by unfold letR; rw [byte_getD s _ h]
  have hTx0 : Hid (∀ i, txtR s T i 0 = ⟨#[]⟩) := Lib.hid fun i => rfl
  have hTxS : Hid (∀ i k, txtR s T i (k + 1) = txtR s T i k ++ strOfNums [letR s T i k]) := Lib.hid fun i k => by unfold txtR; rw [fillI_succ, strOf_snoc]
  have hTxL : Hid (∀ i k, (txtR s T i k).size = k) := Lib.hid fun i k => by unfold txtR; rw [strOfNums_size, fillI_length]
  have hRs : Hid (∀ i, (List.range (i + 1)).map (fun i => Value.string (txtR s T i D)) = (List.range i).map (fun i => Value.string (txtR s T i D)) ++ [Value.string (txtR s T i D)]) := Lib.hid fun i => by rw [List.range_succ, List.map_append]; rfl
  obtain ⟨i0, hi, hz0, hz1, hz2⟩ := info_parts infoS
  generalize txtR s T = TX at *
  generalize letR s T = LT at *
  clear hNo hok e1
  go_enter Try.func50, Try.ntmps50
  go_wp2_with (first | (go_at_call 94; (with_reducible refine (hD.out).mono ?_); rintro e w1 ⟨rfl, rfl⟩) | (go_at_call 60; refine (l00In_any _ _ _ _).mono ?_; rintro e w' ⟨rfl, rfl⟩))
  have hO0 := Lib.hid (show (w.alloc (Obj.cells #[] 9)).ownsRow w.heap.size 9 1 (.slice (some ⟨w.heap.size, 0, none⟩) 0 0) 0 ((List.range 0).map (fun i => Value.string (TX i D))) from World.ownsRow_lit w #[] 0 (Nat.le_refl _) (Nat.zero_le _) rfl)
  have hB0 := Lib.hid (show Below w.heap.size w (w.alloc (Obj.cells #[] 9)) from below_alloc (Below.refl _ _) _)
  generalize w.alloc (Obj.cells #[] 9) = w4 at *
  go_loopw [10, 12] (fun gv iv wr => ∃ (i : Nat), i ≤ P ∧ iv = .int .i64 i ∧ Hid (wr.ownsRow w.heap.size 9 1 gv i ((List.range i).map (fun i => Value.string (TX i D)))) ∧ Hid (Below w.heap.size w wr)) (fun _ iv _ => P - (intOf iv).toNat)
  case atStart => exact ⟨0, Nat.zero_le _, rfl, hO0, hB0⟩
  case round =>
    clear hO0 hB0
    obtain ⟨i, hi0, rfl, hO, hB7⟩ := hrel
    generalize wr = wo at *
    by_cases hlt : i < P
    · obtain ⟨q, hq⟩ : ∃ q, q = i * T := ⟨_, rfl⟩
      have hq1 : q ≤ 768 := by rw [hq]; exact Nat.le_trans (Nat.mul_le_mul (show i ≤ 12 by omega) (show T ≤ 64 by omega)) (by decide)
      have hw1 : IntKind.i64.wrap ((i : Int) * (T : Int)) = (q : Int) := by rw [show (i : Int) * (T : Int) = (q : Int) by rw [hq]; exact (Int.natCast_mul i T).symm]; exact IntWalk.i64_in _ (by omega)
      have hLi : Hid (∀ k (h : (k + q) % s.size < s.size), LT i k = ((s[(k + q) % s.size]'h).toNat : Int)) := Lib.hid (by rw [hq]; exact hLet.out i)
      have hT0 := Lib.hid (hTx0.out i)
      have hTS := Lib.hid (hTxS.out i)
      have hTL := Lib.hid (hTxL.out i)
      have hRi := Lib.hid (hRs.out i)
      have hTi := Lib.hid (rfl : TX i = TX i)
      generalize hTX : TX i = tx at *
      have hTX2 := Lib.hid hTX
      clear hTX hTi
      generalize LT i = L at *
      clear hq
      have hge := Lib.hid (show w.heap.size ≤ wo.heap.size from hB7.out.size)
      go_wp2_with fail
      go_loopw [13, 14] (fun tv kv wr => ∃ (k : Nat), k ≤ D ∧ kv = .int .i64 k ∧ tv = .string (tx k) ∧ wr = wo) (fun _ kv _ => D - (intOf kv).toNat)
      case atStart => exact ⟨0, Nat.zero_le _, rfl, by rw [hT0.out], rfl⟩
      case round =>
        obtain ⟨k, hk0, rfl, rfl, rfl⟩ := hrel
        by_cases hlk : k < D
        · obtain ⟨m, hm⟩ : ∃ m, m = (k + q) % s.size := ⟨_, rfl⟩
          have hms : m < s.size := by rw [hm]; exact Nat.mod_lt _ (by omega)
          have hmI : ((k : Int) + (q : Int)) % (s.size : Int) = (m : Int) := by rw [hm]; exact (by push_cast; rfl)
          have hw3 : IntKind.i64.wrap ((m : Int) + 1) = (m : Int) + 1 := IntWalk.i64_in _ (by omega)
          have hv : Hid (L k = ((s[m]'hms).toNat : Int)) := Lib.hid (by subst hm; exact hLi.out k hms)
          have hne : ((s.size : Int) == 0) = false := by rw [beq_eq_false_iff_ne]; omega
          have hsl : ∀ W, (Instr.slice 9 (.string s) (some (.int .i64 (m : Int))) (some (.int .i64 ((m : Int) + 1))) none).run Try.prog W = .ok (.string (strOfNums [L k])) W := fun W => by
            have h1 := run_slice_string (P := Try.prog) W 9 s .i64 .i64 (m : Int) ((m : Int) + 1) Try.underlying9 (by omega) (by omega) (by omega)
            rw [show ((m : Int)).toNat = m by omega, show ((m : Int) + 1).toNat = m + 1 by omega, extract_one s m hms, ← hv.out] at h1
            exact h1
          have hsz : (tx k).size = k := hTL.out k
          have hs1 : (strOfNums [L k]).size = 1 := strOf_one _
          have hnew := Lib.hid (hTS.out k)
          generalize strOfNums [L k] = ch at *
          generalize tx k = t0 at *
          clear hm hv
          go_wp2_with fail
          go_roundw
          case rel => exact ⟨k + 1, by omega, by go_num, by rw [hnew.out], by trivial⟩
          case measure => simp [intOf]; omega
        · obtain rfl : D = k := by omega
          generalize tx D = t0 at *
          go_wp2_with (at_builtin; refine wpList_append_own _ rfl _ _ _ rfl w.heap.size 9 i0 (.string ⟨#[]⟩) 1 16 Try.underlying53 hi hz0 hz1 hz2 rfl (by decide) _ i _ rfl (hO.out.alloc _) ⟨wr.heap.size, 0, none⟩ 1 1 [.string t0] rfl rfl (news_string wr _ _) (one_string _) (by unfold maxLen; omega) (by omega) (growS_le hge.out _) ?_; intro v8 w8 hown8 hgrow8 hnil8; have hB8 := Lib.hid (belowS_app hB7.out hO.out hgrow8 hge.out (Nat.le_refl _)); have hO8 := Lib.hid (show w8.ownsRow w.heap.size 9 1 v8 (i + 1) ((List.range (i + 1)).map (fun i => Value.string (TX i D))) by rw [hRi.out]; exact hown8); clear hown8 hgrow8 hnil8)
          go_roundw
          case rel => exact ⟨i + 1, by omega, by go_num, hO8, hB8⟩
          case measure => simp [intOf]; omega
    · obtain rfl : P = i := by omega
      have hR := Lib.hid (hYes.out wo _ w.heap.size (Nat.le_refl _) hO.out hB7.out)
      clear hO hB7
      go_wp2_with fail
      first | exact hR.out | (go_ret2; exact hR.out)
theorem rosRes_length (s : ByteArray) (p d st : Int) : (rosRes s p d st).length ≤ 1048576 := by
  unfold rosRes
  split
  · rename_i h
    have := (okRoster_of h).2.1
    simp
    omega
  · simp
theorem rotateRoster_both (s : ByteArray) (p d st : Int) (hs : s.size ≤ maxLen) (_ : (Lit.int .i64 p).wf = true) (_ : (Lit.int .i64 d).wf = true) (_ : (Lit.int .i64 st).wf = true) : ∃ (r0 : List ByteArray) (r1 : Bool), r0.length ≤ 1048576 ∧
    (∀ (B : Nat) (w : World), B ≤ w.heap.size → Calls Try.prog 50 #[.string s, .int .i64 p, .int .i64 d, .int .i64 st] w fun e w' => ∃ v', e = .returned (.tuple #[v', .bool r1]) ∧ Own w.heap.size w'.heap.size w' v' 9 1 r0.length (r0.map Value.string) ∧ Below w.heap.size w w') ∧
    (∀ (B : Nat) (w : World), B ≤ w.heap.size → Calls Try.prog 51 #[.string s, .int .i64 p, .int .i64 d, .int .i64 st] w fun e w' => ∃ v', e = .returned (.tuple #[v', .bool r1]) ∧ Own w.heap.size w'.heap.size w' v' 9 1 r0.length (r0.map Value.string) ∧ Below w.heap.size w w') :=
  ⟨rosRes s p d st, okRoster s p d st, rosRes_length s p d st, fun _ w _ => specRoster_any s p d st hs w, fun _ w _ => implRoster_any s p d st hs w⟩
end Go.Proofs.Ytcpfiledegnlpab
