/- Contracts: a roster that is rotated, the program's. -/
import Derived.Test.YtcpfiledegnlpabStrs
import Derived.Test.YtcpfiledegnlpabDays
import Derived.Test.YtcpfiledegnlpabFillI
import Derived.OwnWalk
namespace Go.Proofs.Ytcpfiledegnlpab
open Go.RowKit Go.Lst

/-- Places 0 to k - 1 are told, the others are still as they were made. -/
def pz (f : Nat → Value) (z : Value) (k n : Nat) : List Value := (List.range k).map f ++ List.replicate (n - k) z
theorem pz_zero (f : Nat → Value) (z : Value) (n : Nat) : pz f z 0 n = List.replicate n z := by simp [pz]
theorem pz_full (f : Nat → Value) (z : Value) (n : Nat) : pz f z n n = (List.range n).map f := by simp [pz]
theorem pz_length (f : Nat → Value) (z : Value) {k n : Nat} (h : k ≤ n) : (pz f z k n).length = n := by simp [pz]; omega
theorem pz_at (f : Nat → Value) (z : Value) {k n : Nat} (h : k < n) : (pz f z k n)[k]? = some z := by
  unfold pz
  rw [List.getElem?_append_right (by simp), List.length_map, List.length_range, Nat.sub_self, List.getElem?_replicate, if_pos (by omega)]
theorem pz_set (f : Nat → Value) (z : Value) {k n : Nat} (h : k < n) : (pz f z k n).set k (f k) = pz f z (k + 1) n := by
  unfold pz
  obtain ⟨q, hq⟩ : ∃ q, n - k = q + 1 := ⟨n - k - 1, by omega⟩
  rw [hq, show n - (k + 1) = q by omega, List.replicate_succ, List.set_append_right _ _ (by simp), List.length_map, List.length_range, Nat.sub_self, List.set_cons_zero, List.range_succ, List.map_append, List.append_assoc]
  rfl
def letR (s : ByteArray) (st i d : Nat) : Int := ((s.data.toList.getD ((d + i * st) % s.size) 0).toNat : Int)
def txtR (s : ByteArray) (st i n : Nat) : ByteArray := strOfNums (fillI (letR s st i) n)
def okRoster (s : ByteArray) (p d st : Int) : Bool := lettersB dayP s 64 && inB p 1 12 && inB d 1 128 && inB st 0 64
def rosRes (s : ByteArray) (p d st : Int) : List ByteArray := if okRoster s p d st then (List.range p.toNat).map fun i => txtR s st.toNat i d.toNat else []
theorem okRoster_of {s : ByteArray} {p d st : Int} (h : okRoster s p d st = true) : (1 ≤ s.size ∧ s.size ≤ 64) ∧ (1 ≤ p ∧ p ≤ 12) ∧ (1 ≤ d ∧ d ≤ 128) ∧ (0 ≤ st ∧ st ≤ 64) := by
  simp only [okRoster, Bool.and_eq_true] at h
  have h1 := lettersB_of h.1.1.1
  exact ⟨⟨h1.1, h1.2.1⟩, inB_true h.1.1.2, inB_true h.1.2, inB_true h.2⟩
def StrsPost (r : List ByteArray) (ok : Bool) (w : World) (e : Ending) (w' : World) : Prop :=
  ∃ v', e = .returned (.tuple #[v', .bool ok]) ∧ Own w.heap.size w'.heap.size w' v' 9 1 r.length (r.map Value.string) ∧ Below w.heap.size w w'
theorem strs_no {r : List ByteArray} {ok : Bool} {w w' : World} (h1 : r = []) (h2 : ok = false) (hb : Below w.heap.size w w') : StrsPost r ok w (.returned (.tuple #[.slice none 0 0, .bool false])) w' := by
  subst h1 h2
  exact ⟨_, rfl, own_nil, hb⟩
theorem strs_yes {r : List ByteArray} {ok : Bool} {v : Value} {w w' : World} {A n : Nat} (h2 : ok = true) (hA : w.heap.size ≤ A) (hn : r.length = n) (ho : w'.ownsRow A 9 1 v n (r.map Value.string)) (hm : n ≤ 1048576) (hb : Below w.heap.size w w') : StrsPost r ok w (.returned (.tuple #[v, .bool true])) w' := by
  subst h2 hn
  exact ⟨_, rfl, (Own.new ho (by unfold maxLen; omega)).mono hA (Nat.le_refl _), hb⟩
theorem rosRes_no {s : ByteArray} {p d st : Int} (h : okRoster s p d st = false) : rosRes s p d st = [] := by unfold rosRes; rw [h]; rfl
theorem infoS : (Try.prog.info? 9).map (fun i => (i.zero, i.size, i.bytes)) = some (some (.string ⟨#[]⟩), 1, 16) := by kernel_rfl
theorem infoU : (Try.prog.info? 5).map (fun i => (i.zero, i.size, i.bytes)) = some (some (.int .u8 0), 1, 1) := by kernel_rfl
set_option maxHeartbeats 4000000 in
set_option maxRecDepth 100000 in
theorem implRoster_any (s : ByteArray) (p d st : Int) (hs : s.size ≤ maxLen) (w : World) :
    Calls Try.prog 51 #[.string s, .int .i64 p, .int .i64 d, .int .i64 st] w (StrsPost (rosRes s p d st) (okRoster s p d st) w) := by
  have hD : Hid (Calls Try.prog 95 #[.string s, .int .i64 64] w fun e w' => e = .returned (.bool (lettersB dayP s 64)) ∧ Below w.heap.size w w') := Lib.hid (areRosterDays_any s 64 hs (by omega) w)
  have hNo : Hid (okRoster s p d st = false → ∀ w', Below w.heap.size w w' → StrsPost (rosRes s p d st) (okRoster s p d st) w (.returned (.tuple #[.slice none 0 0, .bool false])) w') := Lib.hid fun h w' hb => strs_no (rosRes_no h) h hb
  unfold maxLen at hs
  cases e1 : lettersB dayP s 64
  · rw [e1] at hD
    have hR := Lib.hid (hNo.out (by simp [okRoster, e1]))
    generalize StrsPost (rosRes s p d st) (okRoster s p d st) w = Q at *
    go_enter Try.func51, Try.ntmps51
    go_wp2_with (first | (go_at_call 95; (with_reducible refine (hD.out).mono ?_); rintro e w1 ⟨rfl, hb1⟩; have hB1 := Lib.hid hb1; clear hb1) | (go_at_call 56; refine (isWithin_any _ _ _ _).mono ?_; rintro e w' ⟨rfl, rfl⟩))
    first | exact hR.out _ hB1.out | (go_ret2; exact hR.out _ hB1.out)
  rw [e1] at hD
  cases e2 : inB p 1 12
  · have hR := Lib.hid (hNo.out (by simp [okRoster, e2]))
    generalize StrsPost (rosRes s p d st) (okRoster s p d st) w = Q at *
    go_enter Try.func51, Try.ntmps51
    go_wp2_with (first | (go_at_call 95; (with_reducible refine (hD.out).mono ?_); rintro e w1 ⟨rfl, hb1⟩; have hB1 := Lib.hid hb1; clear hb1) | (go_at_call 56; refine (isWithin_any _ _ _ _).mono ?_; rintro e w' ⟨rfl, rfl⟩))
    first | exact hR.out _ hB1.out | (go_ret2; exact hR.out _ hB1.out)
  cases e3 : inB d 1 128
  · have hR := Lib.hid (hNo.out (by simp [okRoster, e3]))
    generalize StrsPost (rosRes s p d st) (okRoster s p d st) w = Q at *
    go_enter Try.func51, Try.ntmps51
    go_wp2_with (first | (go_at_call 95; (with_reducible refine (hD.out).mono ?_); rintro e w1 ⟨rfl, hb1⟩; have hB1 := Lib.hid hb1; clear hb1) | (go_at_call 56; refine (isWithin_any _ _ _ _).mono ?_; rintro e w' ⟨rfl, rfl⟩))
    first | exact hR.out _ hB1.out | (go_ret2; exact hR.out _ hB1.out)
  cases e4 : inB st 0 64
  · have hR := Lib.hid (hNo.out (by simp [okRoster, e4]))
    generalize StrsPost (rosRes s p d st) (okRoster s p d st) w = Q at *
    go_enter Try.func51, Try.ntmps51
    go_wp2_with (first | (go_at_call 95; (with_reducible refine (hD.out).mono ?_); rintro e w1 ⟨rfl, hb1⟩; have hB1 := Lib.hid hb1; clear hb1) | (go_at_call 56; refine (isWithin_any _ _ _ _).mono ?_; rintro e w' ⟨rfl, rfl⟩))
    first | exact hR.out _ hB1.out | (go_ret2; exact hR.out _ hB1.out)
  have hok : okRoster s p d st = true := by simp [okRoster, e1, e2, e3, e4]
  obtain ⟨⟨s1, s64⟩, ⟨p1, p12⟩, ⟨d1, d128⟩, st0, st64⟩ := okRoster_of hok
  obtain ⟨P, rfl⟩ := Int.eq_ofNat_of_zero_le (show 0 ≤ p by omega)
  obtain ⟨D, rfl⟩ := Int.eq_ofNat_of_zero_le (show 0 ≤ d by omega)
  obtain ⟨T, rfl⟩ := Int.eq_ofNat_of_zero_le st0
  have hYes : Hid (∀ (w' : World) (v : Value) (A : Nat), w.heap.size ≤ A → w'.ownsRow A 9 1 v P ((List.range P).map fun i => Value.string (txtR s T i D)) → Below w.heap.size w w' → StrsPost (rosRes s P D T) (okRoster s P D T) w (.returned (.tuple #[v, .bool true])) w') := Lib.hid fun w' v A hA ho hb => by
    have hr : rosRes s P D T = (List.range P).map fun i => txtR s T i D := by unfold rosRes; rw [hok]; rfl
    refine strs_yes (n := P) hok hA (by rw [hr]; simp) ?_ (by omega) hb
    rw [hr, List.map_map]
    exact ho
  generalize StrsPost (rosRes s P D T) (okRoster s P D T) w = Q at *
  have hLet : Hid (∀ i k (h : (k + i * T) % s.size < s.size), letR s T i k = ((s[(k + i * T) % s.size]'h).toNat : Int)) := Lib.hid fun i k h => by unfold letR; rw [byte_getD s _ h]
  have hTxt : Hid (∀ i, txtR s T i D = strOfNums (fillI (letR s T i) D)) := Lib.hid fun i => rfl
  have hMap : Hid (∀ i, (List.range D).map (fun k => Value.int .u8 (letR s T i k)) = (fillI (letR s T i) D).map (Value.int .u8)) := Lib.hid fun i => by unfold fillI; rw [List.map_map]; rfl
  obtain ⟨i0, hi, hz0, hz1, hz2⟩ := info_parts infoS
  obtain ⟨i1, hj, hj0, hj1, hj2⟩ := info_parts infoU
  generalize txtR s T = TX at *
  generalize letR s T = LT at *
  clear hNo hok e1
  go_enter Try.func51, Try.ntmps51
  go_wp2_with (first | (go_at_call 95; (with_reducible refine (hD.out).mono ?_); rintro e w1 ⟨rfl, hb1⟩; have hB1 := Lib.hid hb1; clear hb1) | (go_at_call 56; refine (isWithin_any _ _ _ _).mono ?_; rintro e w' ⟨rfl, rfl⟩) | (at_make; refine wpList_make_full _ rfl _ _ _ rfl w1.heap.size _ i0 (.string ⟨#[]⟩) 1 Try.underlying53 hi hz0 hz1 _ _ _ _ P rfl rfl rfl rfl ?c1 ?c2 ?c3 ?_))
  case c1 => rw [hz2]; omega
  case c2 => unfold maxLen; omega
  case c3 => exact Nat.le_refl _
  intro w2 hown2 hg2
  rw [toList_madeCells_one] at hown2
  have hO2 := Lib.hid (show w2.ownsRow w1.heap.size 9 1 (.slice (some ⟨w1.heap.size, 0, none⟩) P P) P (pz (fun i => Value.string (TX i D)) (.string ⟨#[]⟩) 0 P) by rw [pz_zero]; exact hown2)
  have hB2 := Lib.hid ((Below.refl w1.heap.size w1).grown hg2 (Nat.le_refl _) (fun k hk => by cases hk))
  have hSetO : Hid (∀ i, i < P → (pz (fun i => Value.string (TX i D)) (.string ⟨#[]⟩) i P).set i (.string (TX i D)) = pz (fun i => Value.string (TX i D)) (.string ⟨#[]⟩) (i + 1) P) := Lib.hid fun i hi => pz_set (fun i => Value.string (TX i D)) _ hi
  have hAtO : Hid (∀ i, i < P → (pz (fun i => Value.string (TX i D)) (.string ⟨#[]⟩) i P)[i]? = some (.string ⟨#[]⟩)) := Lib.hid fun i hi => pz_at _ _ hi
  have hFullO : Hid (pz (fun i => Value.string (TX i D)) (.string ⟨#[]⟩) P P = (List.range P).map fun i => Value.string (TX i D)) := Lib.hid (pz_full _ _ _)
  generalize hFS : pz (fun i => Value.string (TX i D)) (.string ⟨#[]⟩) = FS at *
  clear hown2 hg2 hFS
  go_wp2_with fail
  go_loopw [35] (fun iv wr => ∃ (i : Nat), i ≤ P ∧ iv = .int .i64 i ∧ Hid (wr.ownsRow w1.heap.size 9 1 (.slice (some ⟨w1.heap.size, 0, none⟩) P P) P (FS i P)) ∧ Hid (Below w1.heap.size w1 wr)) (fun iv _ => P - (intOf iv).toNat)
  case atStart => exact ⟨0, Nat.zero_le _, rfl, hO2, hB2⟩
  case round =>
    clear hO2 hB2
    obtain ⟨i, hi0, rfl, hO, hB7⟩ := hrel
    generalize wr = wo at *
    by_cases hlt : i < P
    · obtain ⟨q, hq⟩ : ∃ q, q = i * T := ⟨_, rfl⟩
      have hq1 : q ≤ 768 := by rw [hq]; exact Nat.le_trans (Nat.mul_le_mul (show i ≤ 12 by omega) (show T ≤ 64 by omega)) (by decide)
      have hw1 : IntKind.i64.wrap ((i : Int) * (T : Int)) = (q : Int) := by rw [show (i : Int) * (T : Int) = (q : Int) by rw [hq]; exact (Int.natCast_mul i T).symm]; exact IntWalk.i64_in _ (by omega)
      have hLi : Hid (∀ k (h : (k + q) % s.size < s.size), LT i k = ((s[(k + q) % s.size]'h).toNat : Int)) := Lib.hid (by rw [hq]; exact hLet.out i)
      have hMi := Lib.hid (hMap.out i)
      have hTi := Lib.hid (hTxt.out i)
      have hSi := Lib.hid (hSetO.out i hlt)
      have hAi := Lib.hid (hAtO.out i hlt)
      generalize TX i D = tx at *
      generalize LT i = L at *
      clear hq
      go_wp2_with (at_make; refine wpList_make_full _ rfl _ _ _ rfl wo.heap.size _ i1 (.int .u8 0) 1 Try.underlying120 hj hj0 hj1 _ _ _ _ D rfl rfl rfl rfl ?c1 ?c2 ?c3 ?_)
      case c1 => rw [hj2]; omega
      case c2 => unfold maxLen; omega
      case c3 => exact Nat.le_refl _
      intro w3 hown3 hg3
      rw [toList_madeCells_one] at hown3
      have hL3 := Lib.hid (show w3.ownsRow wo.heap.size 5 1 (.slice (some ⟨wo.heap.size, 0, none⟩) D D) D (pz (fun k => Value.int .u8 (L k)) (.int .u8 0) 0 D) by rw [pz_zero]; exact hown3)
      have hB3 := Lib.hid ((Below.refl wo.heap.size wo).grown hg3 (Nat.le_refl _) (fun k hk => by cases hk))
      have hSet : Hid (∀ k, k < D → (pz (fun k => Value.int .u8 (L k)) (.int .u8 0) k D).set k (.int .u8 (L k)) = pz (fun k => Value.int .u8 (L k)) (.int .u8 0) (k + 1) D) := Lib.hid fun k hk => pz_set (fun k => Value.int .u8 (L k)) _ hk
      have hAt : Hid (∀ k, k < D → (pz (fun k => Value.int .u8 (L k)) (.int .u8 0) k D)[k]? = some (.int .u8 0)) := Lib.hid fun k hk => pz_at _ _ hk
      have hFull : Hid (pz (fun k => Value.int .u8 (L k)) (.int .u8 0) D D = (fillI L D).map (Value.int .u8)) := Lib.hid ((pz_full _ _ _).trans hMi.out)
      generalize hFL : pz (fun k => Value.int .u8 (L k)) (.int .u8 0) = FL at *
      clear hown3 hg3 hFL
      go_wp2_with fail
      go_loopw [41] (fun kv wr => ∃ (k : Nat), k ≤ D ∧ kv = .int .i64 k ∧ Hid (wr.ownsRow wo.heap.size 5 1 (.slice (some ⟨wo.heap.size, 0, none⟩) D D) D (FL k D)) ∧ Hid (Below wo.heap.size wo wr)) (fun kv _ => D - (intOf kv).toNat)
      case atStart => exact ⟨0, Nat.zero_le _, rfl, hL3, hB3⟩
      case round =>
        clear hL3 hB3
        obtain ⟨k, hk0, rfl, hL, hBq⟩ := hrel
        by_cases hlk : k < D
        · obtain ⟨u, hu⟩ : ∃ u, u = k + q := ⟨_, rfl⟩
          have hms : u % s.size < s.size := Nat.mod_lt _ (by omega)
          have hw2 : IntKind.i64.wrap ((k : Int) + (q : Int)) = (u : Int) := by rw [show (k : Int) + (q : Int) = (u : Int) by omega]; exact IntWalk.i64_in _ (by omega)
          have hv : L k = ((s[u % s.size]'hms).toNat : Int) := by subst hu; exact hLi.out k hms
          have hne : ((s.size : Int) == 0) = false := by rw [beq_eq_false_iff_ne]; omega
          have hd : wr.cell? ⟨wo.heap.size, k, none⟩ = some (.int .u8 0) := (hL.out.cellAt k (by rw [← Nat.mul_one D]; omega)).trans (hAt.out k hlk)
          have hfr : wr.frozen? ⟨wo.heap.size, k, none⟩ = false := hL.out.frozenAt k
          have hst := (hL.out.stored k (.int .u8 (L k))).1
          rw [hSet.out k hlk, hv] at hst
          have hL4 := Lib.hid hst
          have hB4 := Lib.hid (hBq.out.setCell (p := ⟨wo.heap.size, k, none⟩) (Nat.le_refl _) (.int .u8 ((s[u % s.size]'hms).toNat : Int)))
          clear hst hL hBq hv hu
          go_wp2_with fail
          go_roundw
          case rel => exact ⟨k + 1, by omega, by go_num, hL4, hB4⟩
          case measure => simp [intOf]; omega
        · obtain rfl : D = k := by omega
          have hOq := Lib.hid (ownsRow_kept hO.out hBq.out)
          have hLf := hL.out
          rw [hFull.out] at hLf
          have hcv := run_convert_bytes_arg (P := Try.prog) wr 120 5 Try.underlying120 Try.underlying5 wo.heap.size 0 D D (fillI L D) (fillI_length L D) (fun j hj => by
            rw [Nat.zero_add]
            refine (hLf.cellAt j (by rw [← Nat.mul_one D] at hj; omega)).trans ?_
            have hjl : j < (fillI L D).length := by rw [fillI_length]; exact hj
            rw [List.getElem?_map, List.getElem?_eq_getElem hjl, List.getD_eq_getElem?_getD, List.getElem?_eq_getElem hjl]
            rfl) 9 Try.underlying9
          rw [← hTi.out] at hcv
          have hd : wr.cell? ⟨w1.heap.size, i, none⟩ = some (.string ⟨#[]⟩) := (hOq.out.cellAt i (by rw [← Nat.mul_one P]; omega)).trans hAi.out
          have hfr : wr.frozen? ⟨w1.heap.size, i, none⟩ = false := hOq.out.frozenAt i
          have hst := (hOq.out.stored i (.string tx)).1
          rw [hSi.out] at hst
          have hO4 := Lib.hid hst
          have hB4 := Lib.hid ((below_on hB7.out (Nat.le_refl _) hBq.out).setCell (p := ⟨w1.heap.size, i, none⟩) (Nat.le_refl _) (.string tx))
          clear hst hLf hL hO hBq hB7 hOq
          go_wp2_with fail
          go_roundw
          case rel => exact ⟨i + 1, by omega, by go_num, hO4, hB4⟩
          case measure => simp [intOf]; omega
    · obtain rfl : P = i := by omega
      have hOf := hO.out
      rw [hFullO.out] at hOf
      have hR := Lib.hid (hYes.out wo _ w1.heap.size hB1.out.size hOf (hB1.out.trans (hB7.out.mono hB1.out.size)))
      clear hOf hO hB7
      go_wp2_with fail
      first | exact hR.out | (go_ret2; exact hR.out)
end Go.Proofs.Ytcpfiledegnlpab
