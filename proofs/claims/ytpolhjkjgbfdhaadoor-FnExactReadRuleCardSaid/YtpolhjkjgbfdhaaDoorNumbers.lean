/- Contract: the list that a text spells, read by the model's loop. No condition. -/
import Derived.Test.YtpolhjkjgbfdhaaDoorReadList
namespace Go.Proofs.YtpolhjkjgbfdhaaDoor
open Go.RowKit Go.Lst Go

/-- Rows of other types lie in other blocks. -/
theorem own_ne {w : World} {A B e1 e2 k1 k2 n1 n2 : Nat} {v1 v2 : Value} {c1 c2 : List Value} (h1 : w.ownsRow A e1 k1 v1 n1 c1) (h2 : w.ownsRow B e2 k2 v2 n2 c2) (he : e1 ≠ e2) : ∀ g, v2.ownBlock = some g → v1.ownBlock ≠ some g := by
  intro g hg hg1
  obtain ⟨_, h1⟩ := h1
  obtain ⟨_, h2⟩ := h2
  rcases h1 with ⟨rfl, _⟩ | ⟨a, ca, x, rfl, _, hx, _⟩
  · cases hg1
  rcases h2 with ⟨rfl, _⟩ | ⟨b, cb, y, rfl, _, hy, _⟩
  · cases hg
  obtain rfl : a = g := by simpa [Value.ownBlock] using hg1
  obtain rfl : b = a := by simpa [Value.ownBlock] using hg
  rw [hx] at hy
  have := (Obj.cells.inj (Option.some.inj hy)).2.1
  exact he this
theorem row_beside {w w' : World} {A e k n : Nat} {v : Value} {cs : List Value} {row : Option Nat} (h : w.ownsRow A e k v n cs) (hg : w.grownBy w' row) (hne : ∀ g, v.ownBlock = some g → row ≠ some g) : w'.ownsRow A e k v n cs := by
  have hlt := h.lt
  obtain ⟨hl, h⟩ := h
  refine ⟨hl, ?_⟩
  rcases h with h | ⟨b, c, x, rfl, h1, h2, h3⟩
  · exact .inl h
  · exact .inr ⟨b, c, x, rfl, h1, by rw [hg.block b (hlt b rfl).2 (fun e => hne b rfl e.symm)]; exact h2, h3⟩
theorem news_cell8 (w : World) (t : TypeId) (u : Value) : ∀ (j : Nat) (x : Value), [u][j]? = some x → (w.alloc (.cells #[u] t)).cell? ((⟨w.heap.size, 0, none⟩ : Addr).add j) = some x := news_string7 w t u
set_option maxHeartbeats 4000000 in
set_option maxRecDepth 100000 in
theorem l01Numbers_any (s : ByteArray) (hs : s.size ≤ 1048576) (w : World) :
    Calls Tryd.prog 85 #[.string s] w fun e w' => ReadPost (valL s) (okRead s) w e w' := by
  have hO0 := Lib.hid (show (w.alloc (Obj.cells #[] 2)).ownsRow w.heap.size 2 1 (.slice (some ⟨w.heap.size, 0, none⟩) 0 0) 0 (([] : List Int).map (Value.int .i64)) from World.ownsRow_lit w #[] 0 (Nat.le_refl _) (Nat.zero_le _) rfl)
  have hB0 := Lib.hid (below_alloc (Below.refl w.heap.size w) (.cells #[] 2))
  cases hno : isNone s
  · have hno2 : (s.toList == [110, 111, 110, 101]) = false := hno
    have hC := Lib.hid (fun w' => l01Cut_any 44 s w' hs)
    have hcl : (cutS 44 s).length ≤ 1048577 := by have := cutS_le 44 s; omega
    have hpos : 0 < (cutS 44 s).length := by rw [cutS_len]; omega
    have hPs := Lib.hid (fun (i : Nat) x (hx : (cutS 44 s)[i]? = some x) => cutS_size hx)
    have hBig := Lib.hid (fun h => read_big hno h)
    have hBad := Lib.hid (fun (k : Nat) x (hx : (cutS 44 s)[k]? = some x) hn => read_bad hno hx hn)
    have hAll := Lib.hid (fun hl ha => read_all hno hl ha)
    clear hno
    generalize hP : cutS 44 s = P at *
    generalize okRead s = Q at *
    generalize valL s = R at *
    clear hP
    generalize hn : P.length = n at *
    have hLn := Lib.hid hn
    clear hn
    by_cases hbig : 64 < n
    · have hR := Lib.hid (hBig.out hbig)
      have hd : decide ((64 : Int) < (n : Int)) = true := decide_eq_true (by omega)
      clear hBig hBad hAll hO0
      go_enter Tryd.func85, Tryd.ntmps85
      go_wp2_with fail
      generalize w.alloc (Obj.cells #[] 2) = w1 at *
      refine (hC.out w1).mono ?_
      rintro e w2 ⟨v, rfl, ho, hb⟩
      obtain ⟨g, c, rfl, _, hc1, hc2⟩ := row_openS7 ho.1 hpos
      have hB := Lib.hid (below_on hB0.out (Nat.le_refl _) hb)
      unfold maxLen at hc2
      clear hb hC ho
      go_wp2_with fail
      first | exact read_nil hR.out hB.out | (go_ret2; exact read_nil hR.out hB.out)
    obtain ⟨i0, hi, hz0, hz1, hz2⟩ := info_parts infoI8
    have hd : decide ((64 : Int) < (n : Int)) = false := decide_eq_false (by omega)
    have hGet : Hid (∀ k, k < n → ∃ x, P[k]? = some x) := Lib.hid fun k hk => ⟨_, List.getElem?_eq_getElem (by rw [hLn.out]; exact hk)⟩
    have hTk : Hid (∀ k x, P[k]? = some x → (P.take (k + 1)).map numR = (P.take k).map numR ++ [numR x]) := Lib.hid fun k x hk => by rw [List.take_add_one, hk, List.map_append]; rfl
    have hTl : Hid (∀ k, k ≤ n → ((P.take k).map numR).length = k) := Lib.hid fun k hk => by rw [List.length_map, List.length_take, hLn.out]; omega
    clear hBig
    go_enter Tryd.func85, Tryd.ntmps85
    go_wp2_with fail
    generalize w.alloc (Obj.cells #[] 2) = w1 at *
    refine (hC.out w1).mono ?_
    rintro e w2 ⟨v, rfl, ho, hb⟩
    obtain ⟨g, c, rfl, hg0, hc1, hc2⟩ := row_openS7 ho.1 hpos
    have hPr := Lib.hid ho.1
    have hB2 := Lib.hid (below_on hB0.out (Nat.le_refl _) hb)
    have hO2 := Lib.hid (ownsRow_kept hO0.out hb)
    unfold maxLen at hc2
    clear hb hC ho hO0 hB0
    go_wp2_with fail
    go_loopw [4, 6] (fun ov iv wr => ∃ (k : Nat), k ≤ n ∧ iv = .int .i64 k ∧ Hid (∀ i x, i < k → P[i]? = some x → isNum x = true) ∧ Hid (wr.ownsRow w.heap.size 2 1 ov k (((P.take k).map numR).map (Value.int .i64))) ∧ Hid (wr.ownsRow w1.heap.size 9 1 (.slice (some ⟨g, 0, none⟩) n c) n (P.map Value.string)) ∧ Hid (Below w.heap.size w wr)) (fun _ iv _ => n - (intOf iv).toNat)
    case atStart => exact ⟨0, Nat.zero_le _, rfl, Lib.hid (fun i x hi => absurd hi (Nat.not_lt_zero _)), hO2, hPr, hB2⟩
    case round =>
      clear hO2 hB2 hPr hg0
      obtain ⟨k, hk, rfl, hAl, hO, hPw, hBw⟩ := hrel
      by_cases hlt : k < n
      · obtain ⟨x, hx⟩ := hGet.out k hlt
        have hcx : wr.cell? ⟨g, k, none⟩ = some (.string x) := by
          have := hPw.out.cellAt k (by omega)
          rw [this, List.getElem?_map, hx]; rfl
        have hxx := Lib.hid hx
        have hxs := hPs.out k x hx
        have hRd := Lib.hid (l01Value_any x (by omega) wr)
        have hSt := Lib.hid (hTk.out k x hx)
        clear hx
        cases hv : isNum x
        · have hR := Lib.hid (hBad.out k x hxx.out hv)
          rw [hv] at hRd
          clear hv hSt
          generalize numR x = y at *
          go_wp2_with (go_at_call 96; (with_reducible refine hRd.out.mono ?_); rintro e w3 ⟨rfl, hb3⟩; have hB3 := Lib.hid (below_on hBw.out (Nat.le_refl _) hb3); clear hb3)
          first | exact read_nil hR.out hB3.out | (go_ret2; exact read_nil hR.out hB3.out)
        · have hAll2 : Hid (∀ i y, i < k + 1 → P[i]? = some y → isNum y = true) := Lib.hid fun i y hi hy => by
            by_cases h1 : i < k
            · exact hAl.out i y h1 hy
            · obtain rfl : i = k := by omega
              rw [hxx.out] at hy
              rw [← Option.some.inj hy]; exact hv
          rw [hv] at hRd
          clear hv
          generalize numR x = y at *
          go_wp2_with fail
          refine hRd.out.mono ?_
          rintro e w3 ⟨rfl, hb3⟩
          have hB3 := Lib.hid (below_on hBw.out (Nat.le_refl _) hb3)
          have hO3 := Lib.hid (ownsRow_kept hO.out hb3)
          have hP3 := Lib.hid (ownsRow_kept hPw.out hb3)
          have hs3 := Lib.hid hB3.out.size
          have hNe := Lib.hid (own_ne hO3.out hP3.out (by decide))
          clear hb3
          go_wp2_with (at_builtin; refine wpList_append_own _ rfl _ _ _ rfl w.heap.size 2 i0 (.int .i64 0) 1 8 Tryd.underlying58 hi hz0 hz1 hz2 rfl (by decide) _ k _ rfl (hO3.out.alloc _) ⟨w3.heap.size, 0, none⟩ 1 1 [.int .i64 y] rfl rfl (news_cell8 w3 _ _) (one_int8 _) (by unfold maxLen; omega) (by omega) (by rw [World.size_alloc]; have := hs3.out; omega) ?_; intro v8 w8 hown8 hgrow8 hnil8; have hB8 := Lib.hid ((hB3.out.alloc hs3.out (.cells #[.int .i64 y] 2)).grown hgrow8 (by rw [World.size_alloc]; have := hs3.out; omega) (fun g hg => (hO3.out.lt g hg).1)); have hP8 := Lib.hid (row_beside (hP3.out.alloc _) hgrow8 hNe.out); have hO8 := Lib.hid (show w8.ownsRow w.heap.size 2 1 v8 (k + 1) (((P.take (k + 1)).map numR).map (Value.int .i64)) by rw [hSt.out, List.map_append]; exact hown8); clear hown8 hgrow8 hnil8)
          go_roundw
          case rel => exact ⟨k + 1, by omega, by go_num, hAll2, hO8, hP8, hB8⟩
          case measure => simp [intOf]; omega
      · obtain rfl : k = n := by omega
        obtain ⟨hq, hr⟩ := hAll.out (by omega) (fun i x hi => hAl.out i x (by
          by_cases h3 : i < k
          · exact h3
          · rw [List.getElem?_eq_none (by rw [hLn.out]; omega)] at hi; cases hi) hi)
        have hq2 := Lib.hid hq
        have hO5 := Lib.hid (show wr.ownsRow w.heap.size 2 1 _ k (R.map (Value.int .i64)) by
          have := hO.out
          rw [List.take_of_length_le (by rw [hLn.out]; exact Nat.le_refl _)] at this
          rw [hr]; exact this)
        have hln : Hid (R.length = k) := Lib.hid (by rw [hr, List.length_map, hLn.out])
        clear hq hr
        go_wp2_with fail
        first | exact read_row hq2.out (Nat.le_refl _) hln.out hO5.out (by omega) hBw.out | (go_ret2; exact read_row hq2.out (Nat.le_refl _) hln.out hO5.out (by omega) hBw.out)
  · have hno2 : (s.toList == [110, 111, 110, 101]) = true := hno
    have hR := Lib.hid (read_none hno)
    clear hno
    go_enter Tryd.func85, Tryd.ntmps85
    go_wp2_with fail
    first | exact read_row (n := 0) hR.out.1 (Nat.le_refl _) (by rw [hR.out.2]; exact rfl) (by rw [hR.out.2]; exact hO0.out) (by omega) hB0.out | (go_ret2; exact read_row (n := 0) hR.out.1 (Nat.le_refl _) (by rw [hR.out.2]; exact rfl) (by rw [hR.out.2]; exact hO0.out) (by omega) hB0.out)
end Go.Proofs.YtpolhjkjgbfdhaaDoor
