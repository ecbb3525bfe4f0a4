/- Contracts: the text of a list of numbers, the model's loop and the program's. Conditions: the table of powers of ten lies as the library's text lays it (the program's side). -/
import Derived.Test.YtpolhjkjgbfdhaaDoorDec
import Derived.Test.YtpolhjkjgbfdhaaDoorJoinPure
import Derived.Test.YtpolhjkjgbfdhaaDoorPz
import Derived.Shelf.Strings.OnBuilder
import Derived.Laws.Strings2
namespace Go.Proofs.YtpolhjkjgbfdhaaDoor
open Go.RowKit Go.Lst Go

set_option maxHeartbeats 2000000 in
set_option maxRecDepth 100000 in
theorem l01Text_any (B : Nat) (v : Value) (xs : List Int) (w : World) (h : LstI B w v xs) (hW : Wide xs) (hn : xs.length ≤ 1048576) (hB : B ≤ w.heap.size) :
    Calls Tryd.prog 65 #[v] w fun e w' => e = .returned (.string (listB xs)) ∧ Below w.heap.size w w' := by
  obtain ⟨a, cap, rfl, hl, _, _, hc⟩ := h.at_
  have hD := Lib.hid (fun k x (hk : xs[k]? = some x) w' => l01Dec_any x (hW x (List.mem_of_getElem? hk)).1 (hW x (List.mem_of_getElem? hk)).2 w')
  have hSz := Lib.hid (fun k (hk : k ≤ xs.length) => decTo_size hW k hk)
  have hDz := Lib.hid (fun k x (hk : xs[k]? = some x) => (decS_size x (hW x (List.mem_of_getElem? hk)).1 (hW x (List.mem_of_getElem? hk)).2).2)
  have hSt := Lib.hid (fun k x (h0 : 0 < k) (hk : xs[k]? = some x) => joinS_take comma (xs.map decS) k (decS x) h0 (by rw [List.getElem?_map, hk]; rfl))
  have h1 := Lib.hid (fun x (hk : xs[0]? = some x) => (show joinS comma ((xs.map decS).take 1) = decS x by
    match xs, hk with
    | y :: r, hk =>
      obtain rfl : y = x := by simpa using hk
      rfl))
  have hE : Hid (xs.length = 0 → listB xs = ⟨#[110, 111, 110, 101]⟩) := Lib.hid fun h0 => by unfold listB; rw [if_pos (List.length_eq_zero_iff.1 h0)]
  have hF : Hid (∀ k, 0 < k → k = xs.length → listB xs = joinS comma ((xs.map decS).take k)) := Lib.hid fun k h0 hk => by
    unfold listB
    rw [if_neg (fun e => by rw [e] at hk; simp at hk; omega), List.take_of_length_le (by rw [List.length_map]; omega)]
  generalize listB xs = s at *
  have hC := Lib.hid hc
  have hBl := Lib.hid (show ∀ (w' : World) (b o : Nat) (x : Int), Below w.heap.size w w' → b < B → w.cell? ⟨b, o, none⟩ = some (.int .i64 x) → w'.cell? ⟨b, o, none⟩ = some (.int .i64 x) from fun w' b o x hb hlt hx => by rw [hb.cell (p := ⟨b, o, none⟩) (Nat.lt_of_lt_of_le hlt hB)]; exact hx)
  generalize hlen : xs.length = n at *
  clear h hc hlen
  unfold maxLen at hl
  by_cases h0 : n = 0
  · have hS := Lib.hid (hE.out h0)
    subst h0
    go_enter Tryd.func65, Tryd.ntmps65
    go_wp2_with fail
    go_ret
    exact ⟨by rw [hS.out]; rfl, Below.refl _ _⟩
  have hn0 : ((n : Int) == 0) = false := by simp; omega
  obtain ⟨b, o, x0, rfl, hbB, hx0, hc0⟩ := hC.out 0 (by omega)
  have hx00 := Lib.hid hx0
  have hd0 := Lib.hid (hD.out 0 x0 hx0 w)
  have he0 := Lib.hid (h1.out x0 hx0)
  have hz0 := hDz.out 0 x0 hx0
  clear hx0
  rw [Nat.add_zero] at hc0
  go_enter Tryd.func65, Tryd.ntmps65
  go_wp2_with fail
  refine hd0.out.mono ?_
  rintro e w1 ⟨rfl, hb1⟩
  have hB1 := Lib.hid hb1
  clear hb1 hd0 hc0
  generalize hs0 : decS x0 = t0 at *
  go_wp2_with fail
  go_loopw [3, 4] (fun sv iv wr => ∃ (k : Nat), 1 ≤ k ∧ k ≤ n ∧ iv = .int .i64 k ∧ sv = .string (joinS comma ((xs.map decS).take k)) ∧ Hid (Below w.heap.size w wr)) (fun _ iv _ => n - (intOf iv).toNat)
  case atStart => exact ⟨1, Nat.le_refl _, by omega, rfl, by rw [he0.out], hB1⟩
  case round =>
    obtain ⟨k, hk1, hk, rfl, rfl, hBw⟩ := hrel
    by_cases hlt : k < n
    · obtain ⟨b', o', x, hab, hbB', hx, hcx⟩ := hC.out k hlt
      obtain ⟨rfl, rfl⟩ : b = b' ∧ o = o' := by simpa using hab
      have hcx1 := hBl.out wr b (o + k) x hBw.out hbB hcx
      have hxx := Lib.hid hx
      have hdx := Lib.hid (hD.out k x hx wr)
      have hsx := hDz.out k x hx
      have hst := Lib.hid (hSt.out k x (by omega) hx)
      have hsk := hSz.out k (by omega)
      clear hx hcx hab
      generalize decS x = t at *
      generalize hJ : joinS comma ((xs.map decS).take k) = acc at *
      clear hJ
      go_wp2_with fail
      refine hdx.out.mono ?_
      rintro e w2 ⟨rfl, hb2⟩
      have hB2 := Lib.hid (below_on hBw.out (Nat.le_refl _) hb2)
      clear hb2 hdx hcx1
      have hz1 : (⟨#[44]⟩ ++ t : ByteArray).size ≤ 21 := by rw [ByteArray.size_append]; show 1 + t.size ≤ 21; omega
      go_wp2_with fail
      go_roundw
      case rel => exact ⟨k + 1, by omega, by omega, by go_num, by rw [hst.out]; rfl, hB2⟩
      case measure => simp [intOf]; omega
    · obtain rfl : k = n := by omega
      have hS := Lib.hid (hF.out k (by omega) rfl)
      go_wp2_with fail
      go_ret
      exact ⟨by rw [hS.out]; rfl, hBw.out⟩
set_option maxHeartbeats 400000 in
theorem isValue_any (n : Int) (w : World) : Calls Tryd.prog 88 #[.int .i64 n] w fun e w' => e = .returned (.bool (inB n (-1000000000000000) 1000000000000000)) ∧ w = w' := by
  cases h1 : inB n (-1000000000000000) 1000000000000000
  · by_cases h2 : -1000000000000000 ≤ n
    · have h3 : ¬ n ≤ 1000000000000000 := by rcases inB_false h1 with h | h <;> omega
      clear h1
      go_enter Tryd.func88, Tryd.ntmps88
      go_wp2_with fail
      go_ret
      exact ⟨ret_bool (by simp [h2] <;> omega), rfl⟩
    · clear h1
      have h3 : decide (-1000000000000000 ≤ n) = false := decide_eq_false h2
      go_enter Tryd.func88, Tryd.ntmps88
      go_wp2_with fail
      go_ret
      exact ⟨rfl, rfl⟩
  · obtain ⟨h2, h3⟩ := inB_true h1
    clear h1
    go_enter Tryd.func88, Tryd.ntmps88
    go_wp2_with fail
    go_ret
    exact ⟨ret_bool (by simp [h2, h3]), rfl⟩
def okVal (n : Int) : Bool := inB n (-1000000000000000) 1000000000000000
theorem okVal_wide {n : Int} (h : okVal n = true) : -9223372036854775808 ≤ n ∧ n ≤ 9223372036854775807 := by
  obtain ⟨h1, h2⟩ := inB_true h
  omega
/-- Few numbers that are not too great. -/
def okList (xs : List Int) : Bool := decide (xs.length ≤ 64) && xs.all okVal
def listR (xs : List Int) : ByteArray := if okList xs then listB xs else ⟨#[]⟩
set_option maxHeartbeats 1000000 in
theorem valueText_yes (n : Int) (h : okVal n = true) (w : World) (hT : Tab10 w) :
    Calls Tryd.prog 68 #[.int .i64 n] w fun e w' => e = .returned (.tuple #[.string (decS n), .bool true]) ∧ Below w.heap.size w w' := by
  have hV := Lib.hid (isValue_any n w)
  unfold okVal at h
  rw [h] at hV
  have hD := Lib.hid (decimal_any n (okVal_wide h).1 (okVal_wide h).2 w hT)
  generalize decS n = s at *
  clear h
  go_enter Tryd.func68, Tryd.ntmps68
  go_wp2_with (first | (go_at_call 88; (with_reducible refine hV.out.mono ?_); rintro e w' ⟨rfl, rfl⟩) | (go_at_call 77; (with_reducible refine hD.out.mono ?_); rintro e w1 ⟨rfl, hb⟩; have hB := Lib.hid hb; clear hb))
  first | exact ⟨rfl, hB.out⟩ | (go_ret2; exact ⟨rfl, hB.out⟩)
set_option maxHeartbeats 1000000 in
theorem valueText_no (n : Int) (h : okVal n = false) (w : World) :
    Calls Tryd.prog 68 #[.int .i64 n] w fun e w' => e = .returned (.tuple #[.string ⟨#[]⟩, .bool false]) ∧ w = w' := by
  have hV := Lib.hid (isValue_any n w)
  unfold okVal at h
  rw [h] at hV
  clear h
  go_enter Tryd.func68, Tryd.ntmps68
  go_wp2_with (first | (go_at_call 88; (with_reducible refine hV.out.mono ?_); rintro e w' ⟨rfl, rfl⟩))
  first | exact ⟨rfl, rfl⟩ | (go_ret2; exact ⟨rfl, rfl⟩)
theorem infoS8 : (Tryd.prog.info? 9).map (fun i => (i.zero, i.size, i.bytes)) = some (some (.string ⟨#[]⟩), 1, 16) := by kernel_rfl
/-- strings.Join of a row of texts of the call's own. -/
theorem join_row (sep : ByteArray) (ts : List ByteArray) (g n : Nat) (A : Nat) (w : World) (hn : ts.length = n) (h : w.ownsRow A 9 1 (.slice (some ⟨g, 0, none⟩) n n) n (ts.map Value.string)) (hm : n ≤ 1048576) (hsz : (joinS sep ts).size ≤ 140737488355328) :
    Calls Tryd.prog 46 #[.slice (some ⟨g, 0, none⟩) n n, .string sep] w fun e w' => e = .returned (.string (joinS sep ts)) ∧ Below w.heap.size w w' := by
  subst hn
  have hg : g < w.heap.size := (h.lt g rfl).2
  have hj := joinS_lib sep ts
  have c := Any.strings_Join Tryd.lays156 Tryd.Builder_Extra_156 g 0 ts.length ts sep w (fun j x hx => by
    have hjl : j < ts.length := (List.getElem?_eq_some_iff.1 hx).1
    have := h.cellAt j (by omega)
    rw [Nat.zero_add, this, List.getElem?_map, hx]; rfl) hg (by omega) (Nat.le_refl _) (by
    have e : (Lib.join (ts.map (·.data.toList)) sep.data.toList).length = (joinS sep ts).size := by rw [← hj]; simp [ByteArray.size]
    rw [e]; exact hsz)
  rw [hj] at c
  exact c
set_option maxHeartbeats 4000000 in
set_option maxRecDepth 100000 in
theorem itemsText_any (B : Nat) (v : Value) (xs : List Int) (w : World) (h : LstI B w v xs) (hB : B ≤ w.heap.size) (hT : Tab10 w) :
    Calls Tryd.prog 67 #[v, .int .i64 64, .func (.func 68) #[] #[]] w fun e w' => e = .returned (.tuple #[.string (listR xs), .bool (okList xs)]) ∧ Below w.heap.size w w' := by
  obtain ⟨a, cap, rfl, hl, _, _, hc⟩ := h.at_
  by_cases hbig : 64 < xs.length
  · have hR : listR xs = ⟨#[]⟩ := by unfold listR okList; rw [decide_eq_false (by omega)]; rfl
    have hK : okList xs = false := by unfold okList; rw [decide_eq_false (by omega)]; rfl
    rw [hR, hK]
    generalize xs.length = n at *
    clear h hc hR hK
    unfold maxLen at hl
    have hd : decide ((64 : Int) < (n : Int)) = true := decide_eq_true (by omega)
    go_enter Tryd.func67, Tryd.ntmps67
    go_wp2_with fail
    first | exact ⟨rfl, Below.refl _ _⟩ | (go_ret2; exact ⟨rfl, Below.refl _ _⟩)
  by_cases h0 : xs.length = 0
  · obtain rfl : xs = [] := List.length_eq_zero_iff.1 h0
    have hR : listR [] = ⟨#[110, 111, 110, 101]⟩ := rfl
    have hK : okList [] = true := rfl
    rw [hR, hK]
    clear h hc hR hK
    go_enter Tryd.func67, Tryd.ntmps67
    go_wp2_with fail
    first | exact ⟨rfl, Below.refl _ _⟩ | (go_ret2; exact ⟨rfl, Below.refl _ _⟩)
  obtain ⟨i0, hi, hz0, hz1, hz2⟩ := info_parts infoS8
  have hbig' : ¬ (64 < xs.length) := hbig
  have hNo : Hid (∀ k x, xs[k]? = some x → okVal x = false → okList xs = false ∧ listR xs = ⟨#[]⟩) := Lib.hid fun k x hk hx => by
    have e : okList xs = false := by
      unfold okList
      rw [show xs.all okVal = false by rw [List.all_eq_false]; exact ⟨x, List.mem_of_getElem? hk, by rw [hx]; simp⟩, Bool.and_false]
    exact ⟨e, by unfold listR; rw [e]; rfl⟩
  have hYes : Hid ((∀ i x, xs[i]? = some x → okVal x = true) → okList xs = true ∧ listR xs = joinS comma (xs.map decS) ∧ (joinS comma (xs.map decS)).size ≤ 140737488355328) := Lib.hid fun hall => by
    have e : okList xs = true := by
      unfold okList
      rw [decide_eq_true (by omega), List.all_eq_true.2 fun x hx => by
        obtain ⟨i, hi⟩ := List.getElem?_of_mem hx
        exact hall i x hi]
      rfl
    have hW : Wide xs := fun x hx => by
      obtain ⟨i, hi⟩ := List.getElem?_of_mem hx
      exact okVal_wide (hall i x hi)
    refine ⟨e, by unfold listR; rw [e]; show listB xs = _; unfold listB; rw [if_neg (fun e => h0 (by rw [e]; rfl))], ?_⟩
    have := joinS_size comma 20 (xs.map decS) (decs_size hW)
    rw [List.length_map] at this
    have e1 : comma.size = 1 := rfl
    rw [e1] at this
    omega
  have hMp : Hid ((List.range xs.length).map (fun i => Value.string (decS (xs.getD i 0))) = (xs.map decS).map Value.string) := Lib.hid (by
    apply List.ext_getElem?
    intro i
    by_cases hi : i < xs.length
    · simp [List.getElem?_eq_getElem hi, List.getElem?_range hi]
    · rw [List.getElem?_eq_none (by simp; omega), List.getElem?_eq_none (by simp; omega)])
  have hTx : Hid (∀ k x, xs[k]? = some x → decS (xs.getD k 0) = decS x) := Lib.hid fun k x hk => by rw [List.getD_eq_getElem?_getD, hk]; rfl
  have hBl := Lib.hid (show ∀ (w' : World) (b o : Nat) (x : Int), Below w.heap.size w w' → b < B → w.cell? ⟨b, o, none⟩ = some (.int .i64 x) → w'.cell? ⟨b, o, none⟩ = some (.int .i64 x) from fun w' b o x hb hlt hx => by rw [hb.cell (p := ⟨b, o, none⟩) (Nat.lt_of_lt_of_le hlt hB)]; exact hx)
  have hJl := Lib.hid (show (xs.map decS).length = xs.length by rw [List.length_map])
  have hC := Lib.hid hc
  have hTT := Lib.hid (fun w' (hb : Below w.heap.size w w') => hT.kept hb)
  generalize hts : xs.map decS = ts at *
  generalize htx : (fun i => Value.string (decS (xs.getD i 0))) = F at *
  have hFk : Hid (∀ k x, xs[k]? = some x → F k = .string (decS x)) := Lib.hid fun k x hk => by rw [← htx]; show Value.string _ = _; rw [hTx.out k x hk]
  generalize okList xs = q at *
  generalize listR xs = s at *
  generalize hlen : xs.length = n at *
  have hLn := Lib.hid hlen
  clear h hc hlen hts htx hT hTx
  unfold maxLen at hl
  have hn0 : ((n : Int) == 0) = false := by simp; omega
  have hd : decide ((64 : Int) < (n : Int)) = false := decide_eq_false (by omega)
  go_enter Tryd.func67, Tryd.ntmps67
  go_wp2_with (at_make; refine wpList_make_full _ rfl _ _ _ rfl w.heap.size _ i0 (.string ⟨#[]⟩) 1 Tryd.underlying39 hi hz0 hz1 _ _ _ _ n rfl rfl rfl rfl ?c1 ?c2 ?c3 ?_)
  case c1 => rw [hz2]; omega
  case c2 => unfold maxLen; omega
  case c3 => exact Nat.le_refl _
  intro w2 hown2 hg2
  rw [toList_madeCells_one] at hown2
  have hO2 := Lib.hid (show w2.ownsRow w.heap.size 9 1 (.slice (some ⟨w.heap.size, 0, none⟩) n n) n (pz F (.string ⟨#[]⟩) 0 n) by rw [pz_zero]; exact hown2)
  have hB2 := Lib.hid ((Below.refl w.heap.size w).grown hg2 (Nat.le_refl _) (fun k hk => by cases hk))
  have hSet : Hid (∀ i, i < n → (pz F (.string ⟨#[]⟩) i n).set i (F i) = pz F (.string ⟨#[]⟩) (i + 1) n) := Lib.hid fun i hi => pz_set F _ hi
  have hAt : Hid (∀ i, i < n → (pz F (.string ⟨#[]⟩) i n)[i]? = some (.string ⟨#[]⟩)) := Lib.hid fun i hi => pz_at _ _ hi
  have hFull : Hid (pz F (.string ⟨#[]⟩) n n = (List.range n).map F) := Lib.hid (pz_full _ _ _)
  generalize hFS : pz F (.string ⟨#[]⟩) = FS at *
  clear hown2 hg2 hFS
  go_wp2_with fail
  go_loopw [25] (fun iv wr => ∃ (k : Nat), k ≤ n ∧ iv = .int .i64 k ∧ Hid (∀ i x, i < k → xs[i]? = some x → okVal x = true) ∧ Hid (wr.ownsRow w.heap.size 9 1 (.slice (some ⟨w.heap.size, 0, none⟩) n n) n (FS k n)) ∧ Hid (Below w.heap.size w wr)) (fun iv _ => n - (intOf iv).toNat)
  case atStart => exact ⟨0, Nat.zero_le _, rfl, Lib.hid (fun i x hi => absurd hi (Nat.not_lt_zero _)), hO2, hB2⟩
  case round =>
    clear hO2 hB2
    obtain ⟨k, hk, rfl, hAll, hO, hBw⟩ := hrel
    by_cases hlt : k < n
    · obtain ⟨b, o, x, rfl, hbB, hx, hcx⟩ := hC.out k hlt
      have hcx1 := hBl.out wr b (o + k) x hBw.out hbB hcx
      have hxx := Lib.hid hx
      have hFx := Lib.hid (hFk.out k x hx)
      clear hcx hx
      cases hv : okVal x
      · obtain ⟨hq, hs⟩ := hNo.out k x hxx.out hv
        have hVn := Lib.hid (valueText_no x hv wr)
        have hq2 := Lib.hid hq
        have hs2 := Lib.hid hs
        clear hv hq hs
        go_wp2_with (go_at_call 68; (with_reducible refine hVn.out.mono ?_); rintro e w' ⟨rfl, rfl⟩)
        first | exact ⟨by rw [hq2.out, hs2.out]; rfl, hBw.out⟩ | (go_ret2; exact ⟨by rw [hq2.out, hs2.out]; rfl, hBw.out⟩)
      · have hVy := Lib.hid (valueText_yes x hv wr (hTT.out wr hBw.out))
        have hAll2 : Hid (∀ i y, i < k + 1 → xs[i]? = some y → okVal y = true) := Lib.hid fun i y hi hy => by
          by_cases h1 : i < k
          · exact hAll.out i y h1 hy
          · obtain rfl : i = k := by omega
            rw [hxx.out] at hy
            rw [← Option.some.inj hy]; exact hv
        have hSk := Lib.hid (hSet.out k hlt)
        have hAk := Lib.hid (hAt.out k hlt)
        clear hv
        generalize decS x = t at *
        go_wp2_with (go_at_call 68; (with_reducible refine hVy.out.mono ?_); rintro e w3 ⟨rfl, hb3⟩; have hB3 := Lib.hid (below_on hBw.out (Nat.le_refl _) hb3); have hO3 := Lib.hid (ownsRow_kept hO.out hb3); have q0 : w3.cell? ⟨w.heap.size, k, none⟩ = some (.string ⟨#[]⟩) := (hO3.out.cellAt k (by omega)).trans hAk.out; have f0 := hO3.out.frozenAt k; clear hb3)
        have hO4 := Lib.hid (show (w3.setCell ⟨w.heap.size, k, none⟩ (.string t)).ownsRow w.heap.size 9 1 (.slice (some ⟨w.heap.size, 0, none⟩) n n) n (FS (k + 1) n) by rw [← hSk.out, hFx.out]; exact (hO3.out.stored k (.string t)).1)
        have hB4 := Lib.hid (hB3.out.setCell (p := ⟨w.heap.size, k, none⟩) (Nat.le_refl _) (.string t))
        go_roundw
        case rel => exact ⟨k + 1, by omega, by go_num, hAll2, hO4, hB4⟩
        case measure => simp [intOf]; omega
    · obtain rfl : k = n := by omega
      obtain ⟨hq, hs, hz⟩ := hYes.out (fun i x hi => hAll.out i x (by
        by_cases h3 : i < k
        · exact h3
        · rw [List.getElem?_eq_none (by rw [hLn.out]; omega)] at hi; cases hi) hi)
      have hO5 := Lib.hid (show wr.ownsRow w.heap.size 9 1 (.slice (some ⟨w.heap.size, 0, none⟩) k k) k (ts.map Value.string) by rw [← hMp.out, ← hFull.out]; exact hO.out)
      have hJn := Lib.hid (join_row comma ts w.heap.size k w.heap.size wr hJl.out hO5.out (by omega) hz)
      have hq2 := Lib.hid hq
      have hs2 := Lib.hid hs
      clear hq hs hz
      generalize joinS comma ts = r at *
      unfold comma at hJn
      go_wp2_with (go_at_call 46; (with_reducible refine hJn.out.mono ?_); rintro e w3 ⟨rfl, hb3⟩; have hB3 := Lib.hid (below_on hBw.out (Nat.le_refl _) hb3); clear hb3)
      first | exact ⟨by rw [hq2.out, hs2.out]; rfl, hB3.out⟩ | (go_ret2; exact ⟨by rw [hq2.out, hs2.out]; rfl, hB3.out⟩)
end Go.Proofs.YtpolhjkjgbfdhaaDoor
