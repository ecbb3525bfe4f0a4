/- Contracts: the rooms of talks; the model's side. -/
import Derived.Test.YtehobcmjjcmfnaaRooms
namespace Go.Proofs.Ytehobcmjjcmfnaa
open Go.RowKit Go.Lst Srt Go.Shelf Room

theorem outTo_congr (d : Int) (F L M : Nat → Nat) : ∀ k, (∀ j, j < k → L j = M j) → outTo d F L k = outTo d F M k
  | 0, _ => rfl
  | k + 1, h => by
    unfold outTo
    rw [outTo_congr d F L M k fun j hj => h j (by omega), h k (Nat.lt_succ_self k)]
theorem roomsL_len (xs : List Int) (t : Nat) : (roomsL xs t).length = t := roomsT_len _ _ t
theorem roomsL_get (xs : List Int) : ∀ t j, j < t → (roomsL xs t).getD j 0 = roomAt xs j
  | 0, j, h => by omega
  | t + 1, j, h => by
    show (roomsL xs t ++ [roomAt xs t]).getD j 0 = _
    rw [List.getD_eq_getElem?_getD]
    by_cases e : j < t
    · rw [List.getElem?_append_left (by rw [roomsL_len]; exact e), ← List.getD_eq_getElem?_getD]
      exact roomsL_get xs t j e
    · obtain rfl : j = t := by omega
      rw [List.getElem?_append_right (by rw [roomsL_len]; exact Nat.le_refl _), roomsL_len, Nat.sub_self]; rfl
def anyTo (p : Nat → Bool) : Nat → Bool
  | 0 => false
  | k + 1 => anyTo p k || p k
theorem anyTo_range (p : Nat → Bool) : ∀ n, anyTo p n = (List.range n).any p
  | 0 => rfl
  | n + 1 => by
    unfold anyTo
    rw [anyTo_range p n, List.range_succ, List.any_append]; simp
def bitOf : Value → Nat
  | .bool true => 1
  | _ => 0
set_option maxHeartbeats 16000000 in
set_option maxRecDepth 100000 in
theorem specRoomsOf_any (B : Nat) (v : Value) (xs : List Int) (w : World) (h : LstI B w v xs) (hB : B ≤ w.heap.size) :
    Calls Try.prog 27 #[v] w (ListNumPost (roomsOut xs) (roomsCnt xs) (talksOk xs) w) := by
  have hT := Lib.hid (l07Talks_any B v xs w h)
  obtain ⟨a, cap, rfl, hl, hcap, hcm, hc⟩ := h.at_
  clear h
  cases hq : talksOk xs
  · rw [hq] at hT
    have hN : Hid (∀ w', Below w.heap.size w w' → ListNumPost (roomsOut xs) (roomsCnt xs) false w (.returned (.tuple #[.slice none 0 0, .int .i64 0, .bool false])) w') := Lib.hid fun w' hb => by
      unfold roomsOut roomsCnt
      rw [hq]
      exact ⟨_, rfl, own_nil, hb⟩
    clear hq hc
    generalize ListNumPost (roomsOut xs) (roomsCnt xs) false w = Q at *
    generalize xs.length = n at *
    go_enter Try.func27, Try.ntmps27
    go_wp2_with (go_at_call 49; (with_reducible refine hT.out.mono ?_); rintro e w' ⟨m, rfl, rfl⟩; have hB1 := Lib.hid (below_drewN (Below.refl w.heap.size w) m))
    first | exact hN.out _ hB1.out | (go_ret3; exact hN.out _ hB1.out)
  · obtain ⟨q1, q2, q3, q4, q5⟩ := talks_of hq
    rw [hq] at hT
    obtain ⟨n, hn⟩ : ∃ n, n = xs.length / 2 := ⟨_, rfl⟩
    have hlen : xs.length = 2 * n := by omega
    have low : ∀ l, l < n → begF xs l < n := fun l hl => by rw [hn]; exact begF_low xs l (by omega)
    have all : ∀ x, x < n → ∃ l, l < n ∧ begF xs l = x := fun x hx => by
      obtain ⟨l, hl, e⟩ := begF_all xs x (by omega)
      exact ⟨l, by omega, e⟩
    have ord : ∀ i j, i < j → j < n → (talkAt xs (begF xs i)).1 < (talkAt xs (begF xs j)).1 ∨ ((talkAt xs (begF xs i)).1 = (talkAt xs (begF xs j)).1 ∧ begF xs i < begF xs j) := fun i j h1 h2 => begF_ord xs i j h1 (by omega)
    have inj : ∀ i j, i < n → j < n → begF xs i = begF xs j → i = j := fun i j hi hj e => by
      rcases Nat.lt_trichotomy i j with c | c | c
      · have := ord i j c hj
        rw [e] at this; omega
      · exact c
      · have := ord j i c hi
        rw [e] at this; omega
    have hEnd : Hid (∀ (W : World) (g c : Nat) (d : Int), Below w.heap.size w W → W.ownsRow w.heap.size 2 1 (.slice (some ⟨g, 0, none⟩) n c) n (cellsF n (outTo (-1) (begF xs) (roomAt xs) n)) → d = (cntR (roomsL xs n) : Nat) → ListNumPost (roomsOut xs) (roomsCnt xs) true w (.returned (.tuple #[.slice (some ⟨g, 0, none⟩) n c, .int .i64 d, .bool true])) W) := Lib.hid fun W g c d hb ho hd => by
      unfold roomsOut roomsCnt
      rw [hq, if_pos rfl, if_pos rfl, ← hn, hd]
      refine ⟨_, rfl, ?_, hb⟩
      rw [fillI_length]
      unfold fillI
      rw [List.map_map]
      refine Own.new ?_ (by unfold maxLen; omega)
      have e : cellsF n (outTo (-1) (begF xs) (roomAt xs) n) = cellsF n (outTo 0 (begF xs) (roomAt xs) n) := cellsF_congr fun i hi => by
        obtain ⟨l, hl, rfl⟩ := all i hi
        rw [outTo_at (-1) inj n (Nat.le_refl _) l hl, outTo_at 0 inj n (Nat.le_refl _) l hl]
      rw [e] at ho
      exact ho
    obtain ⟨b, o, x0, rfl, hb0, -⟩ := hc 0 (by omega)
    have hCells : Hid (∀ W k, Below w.heap.size w W → 2 * k + 1 < xs.length → W.cell? ⟨b, o + 2 * k, none⟩ = some (.int .i64 (talkAt xs k).1) ∧ W.cell? ⟨b, o + (2 * k + 1), none⟩ = some (.int .i64 (talkAt xs k).2)) := Lib.hid fun W k hW hk => by
      obtain ⟨b', o', x, he, _, hx, c⟩ := hc (2 * k) (by omega)
      injection he with he
      injection he with e1 e2 _
      subst e1 e2
      obtain ⟨b', o', y, he, _, hy, c'⟩ := hc (2 * k + 1) (by omega)
      injection he with he
      injection he with e1 e2 _
      subst e1 e2
      rw [hW.cell (p := ⟨b, o + 2 * k, none⟩) (show b < w.heap.size by omega), hW.cell (p := ⟨b, o + (2 * k + 1), none⟩) (show b < w.heap.size by omega)]
      unfold talkAt
      rw [getD_of hx, getD_of hy]
      exact ⟨c, c'⟩
    have hMeet : Hid (∀ W i j, Below w.heap.size w W → i < n → j < n → Calls Try.prog 54 #[.slice (some ⟨b, o, none⟩) xs.length cap, .int .i64 i, .int .i64 j] W (Ret (.bool (meetT (talkAt xs i) (talkAt xs j))) W)) := Lib.hid fun W i j hW hi hj =>
      l07Meet_any b o xs.length cap i j (talkAt xs) W q2 (by omega) (by omega) (fun k hk => hCells.out W k hW hk)
    have hAt : Hid (∀ t, t < n → atTo (fun i => (talkAt xs i).1) (outTo (-1) (begF xs) (roomAt xs) t) n = (begF xs t : Nat)) := Lib.hid fun t ht => atTo_next low all ord ht
    have hAi : Hid (∀ t i, atTo (fun i => (talkAt xs i).1) (outTo (-1) (begF xs) (roomAt xs) t) (i + 1) = if decide (outTo (-1) (begF xs) (roomAt xs) t i < 0) && (decide (atTo (fun i => (talkAt xs i).1) (outTo (-1) (begF xs) (roomAt xs) t) i < 0) || decide ((talkAt xs i).1 < (talkAt xs (atTo (fun i => (talkAt xs i).1) (outTo (-1) (begF xs) (roomAt xs) t) i).toNat).1)) then (i : Int) else atTo (fun i => (talkAt xs i).1) (outTo (-1) (begF xs) (roomAt xs) t) i) := Lib.hid fun t i => rfl
    have hA0 : Hid (∀ t, atTo (fun i => (talkAt xs i).1) (outTo (-1) (begF xs) (roomAt xs) t) 0 = -1) := Lib.hid fun _ => rfl
    have hAis : Hid (∀ t i, atTo (fun i => (talkAt xs i).1) (outTo (-1) (begF xs) (roomAt xs) t) i = -1 ∨ ∃ z : Nat, z < i ∧ atTo (fun i => (talkAt xs i).1) (outTo (-1) (begF xs) (roomAt xs) t) i = (z : Int)) := Lib.hid fun t i => by
      rcases atTo_is (fun i => (talkAt xs i).1) (outTo (-1) (begF xs) (roomAt xs) t) i with ⟨e, _⟩ | ⟨z, hz, e, _⟩
      · exact .inl e
      · exact .inr ⟨z, hz, e⟩
    have hFn : Hid (∀ t, t < n → begF xs t < n) := Lib.hid low
    -- a room is bad when some talk of it meets
    have hBadM : Hid (∀ t r, t ≤ n → anyTo (fun k => decide (outTo (-1) (begF xs) (roomAt xs) t k = (r : Nat)) && meetT (talkAt xs (begF xs t)) (talkAt xs k)) n = bad (talkAt xs) (begF xs) (roomsL xs t) (begF xs t) r) := Lib.hid fun t r ht => by
      have e := bad_out (P := talkAt xs) (F := begF xs) (L := roomsL xs t) (n := n) (i := begF xs t) (r := r) (by rw [roomsL_len]; exact ht) low inj all
      rw [roomsL_len, outTo_congr (-1) (begF xs) (fun j => (roomsL xs t).getD j 0) (roomAt xs) t (fun j hj => roomsL_get xs t j hj)] at e
      rw [anyTo_range]; exact e
    have hRm : Hid (∀ t r, (∀ s, s < r → bad (talkAt xs) (begF xs) (roomsL xs t) (begF xs t) s = true) → bad (talkAt xs) (begF xs) (roomsL xs t) (begF xs t) r = false → r = roomAt xs t) := Lib.hid fun t r h1 h2 => roomN_one h1 h2
    have hBy : Hid (∀ t r, bad (talkAt xs) (begF xs) (roomsL xs t) (begF xs t) r = true → r < t) := Lib.hid fun t r h => by
      by_cases c : cntR (roomsL xs t) ≤ r
      · rw [bad_beyond _ _ _ _ _ c] at h; cases h
      · have := cntR_le (talkAt xs) (begF xs) t
        have e : cntR (roomsL xs t) ≤ t := this
        omega
    have hCs : Hid (∀ k, ((cntR (roomsL xs (k + 1)) : Nat) : Int) = max ((cntR (roomsL xs k) : Nat) : Int) ((roomAt xs k : Nat) + 1)) := Lib.hid fun k => by
      have : cntR (roomsL xs (k + 1)) = max (cntR (roomsL xs k)) (roomAt xs k + 1) := cntR_snoc _ _
      rw [this]; omega
    have hC0 : Hid (cntR (roomsL xs 0) = 0) := Lib.hid rfl
    have hCle : Hid (∀ k, cntR (roomsL xs k) ≤ k) := Lib.hid fun k => cntR_le _ _ k
    have hO0 : Hid (outTo (-1) (begF xs) (roomAt xs) 0 = fun _ => -1) := Lib.hid rfl
    have hOs : Hid (∀ t, outTo (-1) (begF xs) (roomAt xs) (t + 1) = upd (outTo (-1) (begF xs) (roomAt xs) t) (begF xs t) (roomAt xs t : Nat)) := Lib.hid fun t => outTo_upd _ _ _ _ _ rfl
    have hOb : Hid (∀ t i, t ≤ n → -1 ≤ outTo (-1) (begF xs) (roomAt xs) t i ∧ outTo (-1) (begF xs) (roomAt xs) t i ≤ 64) := Lib.hid fun t i => by
      induction t with
      | zero => intro _; show -1 ≤ (-1 : Int) ∧ (-1 : Int) ≤ 64; omega
      | succ t ih =>
        intro ht
        unfold outTo
        have h1 : roomAt xs t ≤ cntR (roomsL xs t) := (roomN_is _ _ _ _).1
        have h2 : cntR (roomsL xs t) ≤ t := cntR_le _ _ t
        split
        · omega
        · exact ih (by omega)
    have n32 : n ≤ 32 := by omega
    have n1 : 1 ≤ n := by omega
    clear q1 q2 q3 q4 q5 hq hn hc hb0 low all ord inj
    generalize ListNumPost (roomsOut xs) (roomsCnt xs) true w = Q at *
    generalize outTo (-1) (begF xs) (roomAt xs) = O at *
    generalize hm : xs.length = m at *
    have hM := Lib.hid hlen
    clear hm hlen
    have m64 : m ≤ 64 := by have := hM.out; omega
    have hquo : (m : Int).tdiv 2 = (n : Int) := by rw [Int.tdiv_eq_ediv_of_nonneg (by omega)]; have := hM.out; omega
    have hOw0 := Lib.hid (fun d => show ((w.drewN d).alloc (Obj.cells #[] 2)).ownsRow w.heap.size 2 1 (.slice (some ⟨(w.drewN d).heap.size, 0, none⟩) 0 0) 0 (cellsF 0 (O 0)) from World.ownsRow_lit (w.drewN d) #[] 0 (by simp) (Nat.zero_le _) rfl)
    have hBB0 := Lib.hid (fun d => (below_drewN (Below.refl w.heap.size w) d).alloc (by simp) (.cells #[] 2))
    obtain ⟨i0, hi, hz0, hz1, hz2⟩ := info_parts infoI
    unfold maxLen at hl hcm
    go_enter Try.func27, Try.ntmps27
    go_wp2_with (go_at_call 49; (with_reducible refine hT.out.mono ?_); rintro e w' ⟨d0, rfl, rfl⟩)
    have hO1 := Lib.hid (hOw0.out d0)
    have hBB1 := Lib.hid (hBB0.out d0)
    go_loopw [6, 7] (fun ov iv wr => ∃ i : Nat, i ≤ n ∧ iv = .int .i64 i ∧ Hid (wr.ownsRow w.heap.size 2 1 ov i (cellsF i (O 0))) ∧ Hid (Below w.heap.size w wr)) (fun _ iv _ => n - (intOf iv).toNat)
    case atStart => exact ⟨0, Nat.zero_le _, rfl, hO1, hBB1⟩
    case round =>
      clear hOw0 hBB0 hO1 hBB1
      obtain ⟨i, hin, rfl, hO, hBw⟩ := hrel
      have hsz := Lib.hid hBw.out.size
      by_cases hlt : i < n
      · have hd : (i : Int) < (n : Int) := by omega
        go_wp2_with (at_builtin; refine wpList_append_own _ rfl _ _ _ rfl w.heap.size 2 i0 (.int .i64 0) 1 8 Try.underlying22 hi hz0 hz1 hz2 rfl (by decide) _ i _ rfl (hO.out.alloc _) ⟨wr.heap.size, 0, none⟩ 1 1 [.int .i64 (-1)] rfl rfl (news1 wr _ _) (one_int _) (by unfold maxLen; omega) (by omega) (by rw [World.size_alloc]; have := hsz.out; omega) ?_; intro v8 w8 hown8 hgrow8 hnil8; have hB8 := Lib.hid ((hBw.out.alloc hsz.out (.cells #[.int .i64 (-1)] 2)).grown hgrow8 (by rw [World.size_alloc]; have := hsz.out; omega) (fun g hg => (hO.out.lt g hg).1)); have hO8 := Lib.hid (show w8.ownsRow w.heap.size 2 1 v8 (i + 1) (cellsF (i + 1) (O 0)) by rw [show cellsF (i + 1) (O 0) = cellsF i (O 0) ++ [.int .i64 (O 0 i)] by unfold cellsF; rw [List.range_succ, List.map_append]; rfl, hO0.out]; rw [hO0.out] at hown8; exact hown8); clear hown8 hgrow8 hnil8)
        go_roundw
        case rel => exact ⟨i + 1, by omega, by go_num, hO8, hB8⟩
        case measure => simp [intOf]; omega
      · obtain rfl : n = i := by omega
        have hdn : decide ((n : Int) < (n : Int)) = false := by simp
        obtain ⟨g, c, rfl, hg1, hg2, hc1, hc2⟩ := row_open1 hO.out n1
        unfold maxLen at hc2
        have hRow0 := Lib.hid (show Row w.heap.size g n c wr wr (O 0) from ⟨hO.out, grown_refl _ _⟩)
        generalize wr = wo at *
        have hBo := Lib.hid (fun (W : World) (f : Nat → Int) (hR : Row w.heap.size g n c wo W f) => hBw.out.grown hR.kept hBw.out.size (fun q e => by injection e with e; rw [← e]; exact hg1))
        clear hg2 hsz hO
        go_wp2_with fail
        go_loopw [8, 9] (fun rv tv wr => ∃ t : Nat, t ≤ n ∧ tv = .int .i64 t ∧ rv = .int .i64 (cntR (roomsL xs t) : Nat) ∧ Hid (Row w.heap.size g n c wo wr (O t))) (fun _ tv _ => n - (intOf tv).toNat)
        case atStart => exact ⟨0, Nat.zero_le _, rfl, by rw [hC0.out]; rfl, hRow0⟩
        case round =>
          clear hRow0
          obtain ⟨t, ht, rfl, rfl, hR⟩ := hrel
          generalize wr = wt at *
          have hBt := Lib.hid (hBo.out wt _ hR.out)
          by_cases hlt : t < n
          · have hdt : (t : Int) < (n : Int) := by omega
            have hAtt := hAt.out t hlt
            have hpn := hFn.out t hlt
            have hAii := Lib.hid (hAi.out t)
            have hAss := Lib.hid (hAis.out t)
            have hA00 := hA0.out t
            have hBmt := Lib.hid (fun r => hBadM.out t r ht)
            have hRmt := Lib.hid (hRm.out t)
            have hByt := Lib.hid (hBy.out t)
            have hCst := hCs.out t
            have hOst := Lib.hid (hOs.out t)
            have hObt := Lib.hid (fun i => hOb.out t i ht)
            have hCl := hCle.out t
            generalize begF xs t = p at *
            generalize atTo (fun i => (talkAt xs i).1) (O t) = AT at *
            generalize O t = OT at *
            generalize bad (talkAt xs) (begF xs) (roomsL xs t) p = BD at *
            have hTl := Lib.hid hlt
            go_wp2_with fail
            go_loopw [10, 11] (fun av iv wr => ∃ i d : Nat, i ≤ n ∧ iv = .int .i64 i ∧ av = .int .i64 (AT i) ∧ wr = wt.drewN d) (fun _ iv _ => n - (intOf iv).toNat)
            case atStart => exact ⟨0, 0, Nat.zero_le _, rfl, by rw [hA00], rfl⟩
            case round =>
              obtain ⟨i, d, hin, rfl, rfl, rfl⟩ := hrel
              by_cases hli : i < n
              · have hdi : (i : Int) < (n : Int) := by omega
                have k0 := hR.out.cell hli
                have hNi := Lib.hid hli
                have hE0 := hAii.out i
                have hZ := hAss.out i
                generalize AT i = ai at *
                by_cases hneg : OT i < 0
                · rw [decide_eq_true hneg, Bool.true_and] at hE0
                  have dn : decide (OT i < 0) = true := decide_eq_true hneg
                  generalize OT i = oi at *
                  rcases hZ with rfl | ⟨z, hz, rfl⟩
                  · rw [if_pos (by simp)] at hE0
                    have hE := Lib.hid hE0
                    clear hE0 hli hneg
                    go_wp2_with fail
                    go_quiet (fail)
                    go_wp2_with fail
                    go_roundw
                    case rel => exact ⟨i + 1, _, by have := hNi.out; omega, by go_num, by rw [hE.out], by first | rfl | exact World.drewN_drewN ..⟩
                    case measure => simp [intOf]; have := hNi.out; omega
                  · rw [decide_eq_false (show ¬ (z : Int) < 0 by omega), Bool.false_or, Int.toNat_natCast] at hE0
                    obtain ⟨c1, -⟩ := hCells.out wt i hBt.out (by have := hM.out; omega)
                    obtain ⟨c2, -⟩ := hCells.out wt z hBt.out (by have := hM.out; omega)
                    have g0 : decide ((z : Int) < 0) = false := decide_eq_false (by omega)
                    have l0 : 2 * i < m ∧ 2 * z < m := by have := hM.out; omega
                    have wi : IntKind.i64.wrap (2 * (i : Int)) = ((2 * i : Nat) : Int) := by rw [show (2 * (i : Int)) = ((2 * i : Nat) : Int) by omega]; exact IntWalk.i64_in _ (by omega)
                    have wz : IntKind.i64.wrap (2 * (z : Int)) = ((2 * z : Nat) : Int) := by rw [show (2 * (z : Int)) = ((2 * z : Nat) : Int) by omega]; exact IntWalk.i64_in _ (by omega)
                    generalize 2 * i = ai at *
                    generalize 2 * z = az at *
                    generalize (talkAt xs i).1 = p1 at *
                    generalize (talkAt xs z).1 = p2 at *
                    have l3 : (ai : Int) < (m : Int) := by omega
                    have l4 : (az : Int) < (m : Int) := by omega
                    clear l0 hli hz hneg
                    by_cases hlt2 : p1 < p2
                    · rw [decide_eq_true hlt2, if_pos rfl] at hE0
                      have dq : decide (p1 < p2) = true := decide_eq_true hlt2
                      have hE := Lib.hid hE0
                      clear hE0
                      go_wp2_with fail
                      go_quiet (fail)
                      go_wp2_with fail
                      go_roundw
                      case rel => exact ⟨i + 1, _, by have := hNi.out; omega, by go_num, by rw [hE.out], by first | rfl | exact World.drewN_drewN ..⟩
                      case measure => simp [intOf]; have := hNi.out; omega
                    · rw [decide_eq_false hlt2, if_neg (by simp)] at hE0
                      have dq : decide (p1 < p2) = false := decide_eq_false hlt2
                      have hE := Lib.hid hE0
                      clear hE0
                      go_wp2_with fail
                      go_quiet (fail)
                      go_wp2_with fail
                      go_roundw
                      case rel => exact ⟨i + 1, _, by have := hNi.out; omega, by go_num, by rw [hE.out], by first | rfl | exact World.drewN_drewN ..⟩
                      case measure => simp [intOf]; have := hNi.out; omega
                · rw [decide_eq_false hneg, Bool.false_and, if_neg (by simp)] at hE0
                  have dn : decide (OT i < 0) = false := decide_eq_false hneg
                  generalize OT i = oi at *
                  have hE := Lib.hid hE0
                  clear hE0 hli hneg hZ
                  go_wp2_with fail
                  go_quiet (fail)
                  go_wp2_with fail
                  go_roundw
                  case rel => exact ⟨i + 1, _, by have := hNi.out; omega, by go_num, by rw [hE.out], by first | rfl | exact World.drewN_drewN ..⟩
                  case measure => simp [intOf]; have := hNi.out; omega
              · obtain rfl : n = i := by omega
                rw [hAtt]
                have hMt : Hid (∀ d j, j < n → Calls Try.prog 54 #[.slice (some ⟨b, o, none⟩) m cap, .int .i64 (p : Nat), .int .i64 (j : Nat)] (wt.drewN d) (Ret (.bool (meetT (talkAt xs p) (talkAt xs j))) (wt.drewN d))) := Lib.hid fun d j hj => hMeet.out _ p j (below_drewN hBt.out d) hpn hj
                have l1 : (p : Int) < (n : Int) := by omega
                clear hAtt hA00 hAii hAss
                go_wp2_with fail
                go_loopw [12, 13] (fun rv gv wr => ∃ (r d : Nat) (again : Bool), rv = .int .i64 (r : Int) ∧ gv = .bool again ∧ r ≤ n ∧ Hid (∀ s, s < r → BD s = true) ∧ Hid (again = false → BD r = false) ∧ wr = wt.drewN d) (fun rv gv _ => 2 * (n + 1 - (intOf rv).toNat) + bitOf gv)
                case atStart => exact ⟨0, d, true, rfl, rfl, Nat.zero_le _, Lib.hid (fun s hs => by omega), Lib.hid (fun e => by cases e), rfl⟩
                case round =>
                  obtain ⟨r, d, again, rfl, rfl, hrn, hS, hG, rfl⟩ := hrel
                  cases again
                  · have hbr := hG.out rfl
                    have hrr := Lib.hid (hRmt.out r hS.out hbr)
                    have hRd := Lib.hid (hR.out.drewN d)
                    have e1 := hRd.out.cell hpn
                    have e2 := hRd.out.frozen p
                    have hR2 : Hid (Row w.heap.size g n c wo ((wt.drewN d).setCell ⟨g, p, none⟩ (.int .i64 (r : Int))) (O (t + 1))) := Lib.hid (by rw [hOst.out, ← hrr.out]; exact hRd.out.set p (r : Int))
                    have hMx := Lib.hid (fun w' => l00Max_any ((cntR (roomsL xs t) : Nat) : Int) ((r : Int) + 1) w')
                    have hC2 : Hid (((cntR (roomsL xs (t + 1)) : Nat) : Int) = max ((cntR (roomsL xs t) : Nat) : Int) ((r : Int) + 1)) := Lib.hid (by rw [hCst, hrr.out])
                    have hwr : IntKind.i64.wrap ((r : Int) + 1) = (r : Int) + 1 := IntWalk.i64_in _ (by omega)
                    clear hbr hCst
                    generalize wt.drewN d = wd at *
                    go_wp2_with (go_at_call 57; (with_reducible refine (hMx.out _).mono ?_); rintro e w' ⟨rfl, rfl⟩)
                    go_roundw
                    case rel => exact ⟨t + 1, by have := hTl.out; omega, by go_num, by rw [hC2.out], hR2⟩
                    case measure => simp [intOf]; have := hTl.out; omega
                  · have hBm := Lib.hid (hBmt.out r)
                    have hAs : Hid (∀ k, anyTo (fun k => decide (OT k = (r : Nat)) && meetT (talkAt xs p) (talkAt xs k)) (k + 1) = (anyTo (fun k => decide (OT k = (r : Nat)) && meetT (talkAt xs p) (talkAt xs k)) k || (decide (OT k = (r : Nat)) && meetT (talkAt xs p) (talkAt xs k)))) := Lib.hid fun _ => rfl
                    have hAz : anyTo (fun k => decide (OT k = (r : Nat)) && meetT (talkAt xs p) (talkAt xs k)) 0 = false := rfl
                    generalize anyTo (fun k => decide (OT k = (r : Nat)) && meetT (talkAt xs p) (talkAt xs k)) = AN at *
                    go_wp2_with fail
                    go_loopw [13, 14] (fun gv kv wr => ∃ k d : Nat, k ≤ n ∧ kv = .int .i64 (k : Int) ∧ gv = .bool (AN k) ∧ wr = wt.drewN d) (fun _ kv _ => n - (intOf kv).toNat)
                    case atStart => exact ⟨0, d, Nat.zero_le _, rfl, by rw [hAz], rfl⟩
                    case round =>
                      obtain ⟨k, d, hkn, rfl, rfl, rfl⟩ := hrel
                      by_cases hlk : k < n
                      · have hdk : (k : Int) < (n : Int) := by omega
                        have k0 := (hR.out.drewN d).cell hlk
                        have hSk := hAs.out k
                        have hC := Lib.hid (fun d => hMt.out d k hlk)
                        have hKn := Lib.hid hlk
                        generalize AN k = ak at *
                        by_cases hek : OT k = (r : Int)
                        · rw [decide_eq_true hek, Bool.true_and] at hSk
                          have dk : (OT k == (r : Int)) = true := by rw [beq_iff_eq]; exact hek
                          generalize meetT (talkAt xs p) (talkAt xs k) = q at *
                          generalize OT k = ok at *
                          have hEk := Lib.hid hek
                          clear hek hlk
                          cases q
                          · rw [Bool.or_false] at hSk
                            have hS1 := Lib.hid hSk
                            clear hSk
                            go_wp2_with (go_at_call 54; (with_reducible refine (hC.out _).mono ?_); rintro e' w' ⟨m', rfl, rfl⟩)
                            go_roundw
                            case rel => exact ⟨k + 1, _, by have := hKn.out; omega, by go_num, by rw [hS1.out], by first | rfl | exact World.drewN_drewN ..⟩
                            case measure => simp [intOf]; have := hKn.out; omega
                          · rw [Bool.or_true] at hSk
                            have hS1 := Lib.hid hSk
                            clear hSk
                            go_wp2_with (go_at_call 54; (with_reducible refine (hC.out _).mono ?_); rintro e' w' ⟨m', rfl, rfl⟩)
                            go_roundw
                            case rel => exact ⟨k + 1, _, by have := hKn.out; omega, by go_num, by rw [hS1.out], by first | rfl | exact World.drewN_drewN ..⟩
                            case measure => simp [intOf]; have := hKn.out; omega
                        · rw [decide_eq_false hek, Bool.false_and, Bool.or_false] at hSk
                          have dk : (OT k == (r : Int)) = false := by rw [beq_eq_false_iff_ne]; exact hek
                          have hS1 := Lib.hid hSk
                          generalize OT k = ok at *
                          have hEk := Lib.hid hek
                          clear hSk hek hlk
                          go_wp2_with fail
                          go_roundw
                          case rel => exact ⟨k + 1, _, by have := hKn.out; omega, by go_num, by rw [hS1.out], by first | rfl | exact World.drewN_drewN ..⟩
                          case measure => simp [intOf]; have := hKn.out; omega
                      · obtain rfl : n = k := by omega
                        rw [hBm.out]
                        have hByr := hByt.out r
                        cases hbr : BD r
                        · have hb2 := Lib.hid hbr
                          clear hbr hByr
                          go_wp2_with fail
                          go_roundw
                          case rel => exact ⟨r, _, false, rfl, rfl, hrn, hS, Lib.hid (fun _ => hb2.out), by first | rfl | exact World.drewN_drewN ..⟩
                          case measure => simp [intOf, bitOf]
                        · have hr2 := hByr hbr
                          have hS2 : Hid (∀ s, s < r + 1 → BD s = true) := Lib.hid fun s hs => by
                            by_cases cs : s = r
                            · rw [cs]; exact hbr
                            · exact hS.out s (by omega)
                          have hwr : IntKind.i64.wrap ((r : Int) + 1) = (r : Int) + 1 := IntWalk.i64_in _ (by omega)
                          have hTt := Lib.hid (show r + 1 ≤ n by omega)
                          clear hbr hByr hr2
                          go_wp2_with fail
                          go_roundw
                          case rel => exact ⟨r + 1, _, true, by go_num, rfl, hTt.out, hS2, Lib.hid (fun e => by cases e), by first | rfl | exact World.drewN_drewN ..⟩
                          case measure => simp [intOf, bitOf]; have := hTt.out; omega
          · obtain rfl : n = t := by omega
            have hR3 := Lib.hid (hEnd.out wt g c _ hBt.out hR.out.own rfl)
            go_wp2_with fail
            first | exact hR3.out | (go_ret3; exact hR3.out)
theorem roomsOf_both (xs : List Int) (_ : ∀ x ∈ xs, (Lit.int .i64 x).wf = true) : ∃ (r0 : List Int) (r1 : Int) (r2 : Bool), r0.length ≤ 1048576 ∧
    (∀ (B : Nat) (v : Value) (w : World), LstI B w v xs → B ≤ w.heap.size → Calls Try.prog 27 #[v] w fun e w' => ∃ v', e = .returned (.tuple #[v', .int .i64 r1, .bool r2]) ∧ Lst.Own w.heap.size w'.heap.size w' v' 2 1 r0.length (r0.map (Value.int .i64)) ∧ Below w.heap.size w w') ∧
    (∀ (B : Nat) (v : Value) (w : World), LstI B w v xs → B ≤ w.heap.size → Calls Try.prog 28 #[v] w fun e w' => ∃ v', e = .returned (.tuple #[v', .int .i64 r1, .bool r2]) ∧ Lst.Own w.heap.size w'.heap.size w' v' 2 1 r0.length (r0.map (Value.int .i64)) ∧ Below w.heap.size w w') :=
  ⟨roomsOut xs, roomsCnt xs, talksOk xs, roomsOut_len xs, fun B v w h hB => specRoomsOf_any B v xs w h hB, fun B v w h hB => implRoomsOf_any B v xs w h hB⟩
end Go.Proofs.Ytehobcmjjcmfnaa
