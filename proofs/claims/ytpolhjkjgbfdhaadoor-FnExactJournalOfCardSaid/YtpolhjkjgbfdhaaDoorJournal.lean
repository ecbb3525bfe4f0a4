/- Contract: the journal of lines, the program's. Conditions: the table of powers of ten lies as Go's library lays it. -/
import Derived.Test.YtpolhjkjgbfdhaaDoorEntry
import Derived.Test.YtpolhjkjgbfdhaaDoorCopyS
namespace Go.Proofs.YtpolhjkjgbfdhaaDoor
open Go.RowKit Go.Lst Go

theorem lstS_at {B : Nat} {w : World} {v : Value} {xs : List ByteArray} (h : LstS B w v xs) : ∃ a cap, v = .slice a xs.length cap ∧ xs.length ≤ maxLen ∧ ∀ k, k < xs.length → ∃ b o x, a = some ⟨b, o, none⟩ ∧ b < B ∧ xs[k]? = some x ∧ w.cell? ⟨b, o + k, none⟩ = some (.string x) := by
  obtain ⟨a, cap, rfl, hl, hc⟩ := h.lst
  rw [List.length_map] at hl ⊢
  refine ⟨a, cap, rfl, hl, fun k hk => ?_⟩
  obtain ⟨b, o, ha, hlt, hb⟩ := hc (by intro h0; have := congrArg List.length h0; simp at this; rw [this] at hk; simp at hk)
  have e1 : xs[k]? = some xs[k] := List.getElem?_eq_getElem _
  exact ⟨b, o, xs[k], ha, hlt, e1, hb k _ (by rw [List.getElem?_map, e1]; rfl)⟩
set_option maxHeartbeats 4000000 in
set_option maxRecDepth 100000 in
theorem journalOf_any (B : Nat) (v : Value) (xs : List ByteArray) (w : World) (h : LstS B w v xs) (hB : B ≤ w.heap.size) (hxs : ∀ x ∈ xs, x.size ≤ 1048576) (hT : Tab10 w) :
    Calls Tryd.prog 23 #[v] w fun e w' => e = .returned (.tuple #[.string (jR xs), .bool (okJ xs)]) ∧ Below w.heap.size w w' := by
  obtain ⟨a, cap, rfl, hl, hc⟩ := lstS_at h
  have hC := Lib.hid hc
  have hSz := Lib.hid (fun k x (hx : xs[k]? = some x) => hxs x (List.mem_of_getElem? hx))
  have hBl := Lib.hid (show ∀ (w' : World) (b o : Nat) (x : ByteArray), Below w.heap.size w w' → b < B → w.cell? ⟨b, o, none⟩ = some (.string x) → w'.cell? ⟨b, o, none⟩ = some (.string x) from fun w' b o x hb hlt hx => by rw [hb.cell (p := ⟨b, o, none⟩) (Nat.lt_of_lt_of_le hlt hB)]; exact hx)
  have hTT := Lib.hid (fun w' (hb : Below w.heap.size w w') => hT.kept hb)
  obtain ⟨CF, hCF⟩ : ∃ F : Nat → Int, ∀ k, (stJ xs k).1 = F k := ⟨_, fun _ => rfl⟩
  obtain ⟨SF, hSF⟩ : ∃ F : Nat → ByteArray, ∀ k, (stJ xs k).2 = F k := ⟨_, fun _ => rfl⟩
  have hStep : Hid (∀ k x, xs[k]? = some x → CF (k + 1) = chk (CF k) x.data.toList ∧ SF (k + 1) = SF k ++ entB (CF (k + 1)) x) := Lib.hid fun k x hx => by
    rw [← hCF, ← hCF, ← hSF, ← hSF, stJ_succ hx]; exact ⟨rfl, rfl⟩
  have hCb : Hid (∀ k, 0 ≤ CF k ∧ CF k ≤ 65002) := Lib.hid fun k => by rw [← hCF]; exact stJ_chk xs k
  have hC0 : CF 0 = 0 := by rw [← hCF]; rfl
  have hS0 : SF 0 = ⟨#[]⟩ := by rw [← hSF]; rfl
  have hNl := Lib.hid (fun k x (hx : xs[k]? = some x) (hn : nlIn x = true) => j_nl hx hn)
  have hBig : Hid (∀ k, k ≤ xs.length → 16000 < (SF k).size → okJ xs = false ∧ jR xs = ⟨#[]⟩) := Lib.hid fun k hk hs => j_big hk (by rw [hSF]; exact hs)
  have hYes : Hid ((∀ (i : Nat) (x : ByteArray), xs[i]? = some x → nlIn x = false) → (SF xs.length).size ≤ 16000 → okJ xs = true ∧ jR xs = SF xs.length) := Lib.hid fun ha hs => by
    rw [← hSF] at hs ⊢; exact j_yes ha hs
  have hEs : Hid (∀ k x, (entB (CF k) x).size ≤ x.size + 22) := Lib.hid fun k x => (entB_size (hCb.out k).1 (hCb.out k).2 x).2
  generalize okJ xs = Q at *
  generalize jR xs = R at *
  generalize hlen : xs.length = n at *
  have hLn := Lib.hid hlen
  clear h hc hlen hCF hSF hT
  unfold maxLen at hl
  have hJ0 := Lib.hid (jb_new w)
  have hB1 := Lib.hid (below_alloc (Below.refl w.heap.size w) (.cells #[.pointer none, .slice none 0 0] 75))
  have hwB := Lib.hid hB
  go_enter Tryd.func23, Tryd.ntmps23
  go_wp2_with fail
  generalize w.alloc _ = w1 at *
  go_loopw [5, 11] (fun cv iv wr => ∃ (k : Nat), k ≤ n ∧ iv = .int .i64 k ∧ cv = .int .i64 (CF k) ∧ (SF k).size ≤ 16000 ∧ Hid (∀ i x, i < k → xs[i]? = some x → nlIn x = false) ∧ Hid (JB w.heap.size w.heap.size (SF k) wr) ∧ Hid (Below w.heap.size w wr)) (fun _ iv _ => n - (intOf iv).toNat)
  case atStart => exact ⟨0, Nat.zero_le _, rfl, by rw [hC0], by rw [hS0]; exact Nat.zero_le _, Lib.hid (fun i x hi => absurd hi (Nat.not_lt_zero _)), by rw [hS0]; exact hJ0, hB1⟩
  case round =>
    clear hJ0 hB1 hC0 hS0
    obtain ⟨k, hk, rfl, rfl, hsz, hAl, hJ, hBw⟩ := hrel
    by_cases hlt : k < n
    · obtain ⟨b, o, x, rfl, hbB, hx, hcx⟩ := hC.out k hlt
      have hcx1 := hBl.out wr b (o + k) x hBw.out hbB hcx
      have hxx := Lib.hid hx
      have hxz := hSz.out k x hx
      obtain ⟨hc1, hs1⟩ := hStep.out k x hx
      have hEn := Lib.hid (entryOf_any (CF k) x (hCb.out k).1 (hCb.out k).2 hxz wr (hTT.out wr hBw.out))
      rw [← hc1] at hEn
      have hez := hEs.out (k + 1) x
      have hSk := Lib.hid hs1
      have hCn := Lib.hid (fun w' => contains_nl x w')
      clear hcx hx hc1 hs1
      generalize entB (CF (k + 1)) x = en at *
      generalize CF k = c0 at *
      have hCk := Lib.hid (rfl : CF (k + 1) = CF (k + 1))
      cases hn : nlIn x
      · rw [hn] at hCn
        by_cases hbg : 16000 < (SF k).size + en.size
        · have hR := Lib.hid (hBig.out (k + 1) (by omega) (by rw [hSk.out, ByteArray.size_append]; exact hbg))
          have hLw := Lib.hid (fun w' (hj : JB w.heap.size w.heap.size (SF k) w') => jb_len w.heap.size w.heap.size (SF k) w' hj)
          generalize SF k = sk at *
          have hd : decide ((16000 : Int) < (sk.size : Int) + (en.size : Int)) = true := decide_eq_true (by omega)
          clear hn hSk
          go_wp2_with fail
          refine hEn.out.mono ?_
          rintro e w2 ⟨rfl, hb⟩
          have hB2 := Lib.hid (below_on hBw.out (Nat.le_refl _) hb)
          have hJ2 := Lib.hid (hJ.out.kept hb)
          clear hb
          go_wp2_with (first | (go_at_call 50; (with_reducible refine (hCn.out _).mono ?_); rintro e w' ⟨rfl, rfl⟩) | (go_at_call 51; (with_reducible refine (hLw.out _ hJ2.out).mono ?_); rintro e w' ⟨rfl, rfl⟩))
          first | exact ⟨by rw [hR.out.1, hR.out.2], hB2.out⟩ | (go_ret2; exact ⟨by rw [hR.out.1, hR.out.2]; rfl, hB2.out⟩)
        · have hAll2 : Hid (∀ i y, i < k + 1 → xs[i]? = some y → nlIn y = false) := Lib.hid fun i y hi hy => by
            by_cases h1 : i < k
            · exact hAl.out i y h1 hy
            · obtain rfl : i = k := by omega
              rw [hxx.out] at hy
              rw [← Option.some.inj hy]; exact hn
          have hLw := Lib.hid (fun w' (hj : JB w.heap.size w.heap.size (SF k) w') => jb_len w.heap.size w.heap.size (SF k) w' hj)
          have hWr := Lib.hid (fun w' (hj : JB w.heap.size w.heap.size (SF k) w') (hs : w.heap.size ≤ w'.heap.size) => jb_write w.heap.size w.heap.size (SF k) en w' hj (by omega) hs)
          have hzz : Hid ((SF (k + 1)).size ≤ 16000) := Lib.hid (by rw [hSk.out, ByteArray.size_append]; omega)
          generalize SF k = sk at *
          have hd : decide ((16000 : Int) < (sk.size : Int) + (en.size : Int)) = false := decide_eq_false (by omega)
          clear hn
          go_wp2_with fail
          refine hEn.out.mono ?_
          rintro e w2 ⟨rfl, hb⟩
          have hB2 := Lib.hid (below_on hBw.out (Nat.le_refl _) hb)
          have hJ2 := Lib.hid (hJ.out.kept hb)
          clear hb
          go_wp2_with (first | (go_at_call 50; (with_reducible refine (hCn.out _).mono ?_); rintro e w' ⟨rfl, rfl⟩) | (go_at_call 51; (with_reducible refine (hLw.out _ hJ2.out).mono ?_); rintro e w' ⟨rfl, rfl⟩) | (go_at_call 52; (with_reducible refine (hWr.out _ hJ2.out hB2.out.size).mono ?_); rintro e w3 ⟨rfl, hj3, hb3⟩; have hJ3 := Lib.hid hj3; have hB3 := Lib.hid (hB2.out.trans hb3); clear hj3 hb3))
          go_roundw
          case rel => exact ⟨k + 1, by omega, by go_num, rfl, hzz.out, hAll2, by rw [hSk.out]; exact hJ3, hB3⟩
          case measure => simp [intOf]; omega
      · have hR := Lib.hid (hNl.out k x hxx.out hn)
        rw [hn] at hCn
        clear hn
        go_wp2_with fail
        refine hEn.out.mono ?_
        rintro e w2 ⟨rfl, hb⟩
        have hB2 := Lib.hid (below_on hBw.out (Nat.le_refl _) hb)
        clear hb
        go_wp2_with (first | (go_at_call 50; (with_reducible refine (hCn.out _).mono ?_); rintro e w' ⟨rfl, rfl⟩))
        first | exact ⟨by rw [hR.out.1, hR.out.2], hB2.out⟩ | (go_ret2; exact ⟨by rw [hR.out.1, hR.out.2]; rfl, hB2.out⟩)
    · obtain rfl : k = n := by omega
      obtain ⟨hq, hr⟩ := hYes.out (fun i x hi => hAl.out i x (by
        by_cases h3 : i < k
        · exact h3
        · rw [List.getElem?_eq_none (by rw [hLn.out]; omega)] at hi; cases hi) hi) hsz
      have hQ := Lib.hid (And.intro hq hr)
      have hTx := Lib.hid (jb_text w.heap.size w.heap.size (SF k) wr hJ.out hBw.out.size)
      clear hq hr
      generalize SF k = sk at *
      go_wp2_with (go_at_call 53; (with_reducible refine hTx.out.mono ?_); rintro e w3 ⟨rfl, hb3⟩; have hB3 := Lib.hid (hBw.out.trans hb3); clear hb3)
      first | exact ⟨by rw [hQ.out.1, hQ.out.2], hB3.out⟩ | (go_ret2; exact ⟨by rw [hQ.out.1, hQ.out.2]; rfl, hB3.out⟩)
end Go.Proofs.YtpolhjkjgbfdhaaDoor
