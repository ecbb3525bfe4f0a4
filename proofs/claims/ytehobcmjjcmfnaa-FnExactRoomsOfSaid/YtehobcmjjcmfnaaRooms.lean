/- Contracts: the rooms of talks; the program's side. -/
import Derived.Test.YtehobcmjjcmfnaaRoomsPure
import Derived.Test.YtehobcmjjcmfnaaMostTalks
import Derived.Test.YtehobcmjjcmfnaaTab
namespace Go.Proofs.Ytehobcmjjcmfnaa
open Go.RowKit Go.Lst Srt Go.Shelf Room

def begF (xs : List Int) (k : Nat) : Nat := (Srt.insTo (ltK (beginK xs)) (xs.length / 2) k).toNat
def roomsL (xs : List Int) (k : Nat) : List Nat := roomsT (talkAt xs) (begF xs) k
/-- The room of the k-th talk of the order. -/
def roomAt (xs : List Int) (k : Nat) : Nat := roomN (talkAt xs) (begF xs) (roomsL xs k) (begF xs k)
def roomsOut (xs : List Int) : List Int := if talksOk xs then fillI (outTo 0 (begF xs) (roomAt xs) (xs.length / 2)) (xs.length / 2) else []
def roomsCnt (xs : List Int) : Int := if talksOk xs then (cntR (roomsL xs (xs.length / 2)) : Nat) else 0
theorem roomsOut_len (xs : List Int) : (roomsOut xs).length ≤ 1048576 := by
  unfold roomsOut
  split
  · rename_i h
    have h1 := (talks_of h).2.1
    rw [fillI_length]; omega
  · simp
theorem begF_low (xs : List Int) (k : Nat) (hk : k < xs.length / 2) : begF xs k < xs.length / 2 := by
  have := (Srt.insTo_done (totK (xs.length / 2) (beginK xs))).1.low k hk
  unfold begF; omega
theorem begF_all (xs : List Int) (b : Nat) (hb : b < xs.length / 2) : ∃ l, l < xs.length / 2 ∧ begF xs l = b := by
  obtain ⟨l, hl, e⟩ := (Srt.insTo_done (totK (xs.length / 2) (beginK xs))).1.all b hb
  exact ⟨l, hl, by unfold begF; omega⟩
theorem begF_ord (xs : List Int) (i j : Nat) (h1 : i < j) (h2 : j < xs.length / 2) : (talkAt xs (begF xs i)).1 < (talkAt xs (begF xs j)).1 ∨ ((talkAt xs (begF xs i)).1 = (talkAt xs (begF xs j)).1 ∧ begF xs i < begF xs j) := by
  have h := (Srt.insTo_done (totK (xs.length / 2) (beginK xs))).2 i j (Nat.zero_le _) h1 h2
  have l1 := (Srt.insTo_done (totK (xs.length / 2) (beginK xs))).1.low i (by omega)
  have l2 := (Srt.insTo_done (totK (xs.length / 2) (beginK xs))).1.low j h2
  generalize hlt : ltK (beginK xs) = lt at *
  have hk : ∀ x y, lt x y = true → beginK xs x < beginK xs y ∨ (beginK xs x = beginK xs y ∧ x < y) := fun x y q => by
    rw [← hlt] at q
    unfold ltK at q
    simpa only [Bool.or_eq_true, Bool.and_eq_true, decide_eq_true_eq] using q
  have h := hk _ _ h
  unfold begF
  rw [hlt]
  unfold talkAt
  show beginK xs _ < beginK xs _ ∨ _
  generalize Srt.insTo lt (xs.length / 2) = ff at *
  rcases h with h | ⟨h, h'⟩
  · exact .inl h
  · exact .inr ⟨h, by omega⟩
theorem outTo_upd (d : Int) (F L : Nat → Nat) (k p : Nat) (h : F k = p) : outTo d F L (k + 1) = upd (outTo d F L k) p (L k : Int) := by
  subst h
  funext i
  rfl
theorem arr_upd (n p : Nat) (f : Nat → Int) (v : Int) : (cellsF n f).toArray.setIfInBounds p (.int .i64 v) = (cellsF n (upd f p v)).toArray := by
  rw [List.setIfInBounds_toArray, cellsF_set]
set_option maxHeartbeats 2000000 in
set_option maxRecDepth 100000 in
theorem roomHolds_any (g c n gl gi gt tg tc R r p : Nat) (v : Value) (t0 t1 : Int) (ts : List (Int × Int)) (w : World) (hr : r < R) (hp : p < n)
    (c1 : w.cell? ⟨gl, 0, none⟩ = some (.slice (some ⟨g, 0, none⟩) n c)) (c2 : w.cell? ⟨gi, 0, none⟩ = some (.int .i64 (p : Int))) (c3 : w.cell? ⟨gt, 0, none⟩ = some (.slice (some ⟨tg, 0, none⟩) R tc)) (c4 : w.cell? ⟨tg, r, none⟩ = some v)
    (d0 : w.cell? ⟨g, p * 2, none⟩ = some (.int .i64 t0)) (d1 : w.cell? ⟨g, p * 2 + 1, none⟩ = some (.int .i64 t1)) (hT : LstT w.heap.size w v ts) :
    Calls Try.prog 59 #[.int .i64 (r : Int), .pointer (some ⟨gl, 0, none⟩), .pointer (some ⟨gi, 0, none⟩), .pointer (some ⟨gt, 0, none⟩)] w fun e w' => e = .returned (.bool (!ts.any (meetT (t0, t1)))) ∧ Below w.heap.size w w' := by
  have hI := Lib.hid (fun (pn : Near w.heap.size w) => meetsNone_any w.heap.size v ts t0 t1 pn.at_ (LstK.below hT pn.below (Nat.le_refl _)) pn.below.size)
  obtain ⟨a, cap, rfl, _⟩ := hT.at_
  have n1 := fun pn => near_cell c1 pn
  have n2 := fun pn => near_cell c2 pn
  have n3 := fun pn => near_cell c3 pn
  have n4 := fun pn => near_cell c4 pn
  have n5 := fun pn => near_cell d0 pn
  have n6 := fun pn => near_cell d1 pn
  have l1 : (p : Int) < (n : Int) := by omega
  have l2 : (r : Int) < (R : Int) := by omega
  clear hT
  generalize ts.any (meetT (t0, t1)) = q at *
  generalize ts.length = m at *
  go_enter Try.func59, Try.ntmps59
  go_wp2_with fail
  refine wp_region_near (by kernel_rfl) (by kernel_rfl) ?_
  repeat (go_big_quiet_step ((go_at_call 56; with_reducible exact near_of (Nat.le_refl _) (hI.out _))))
  refine wpQuiet_nil ?_
  rintro _ ⟨pq, rfl⟩
  have hB := Lib.hid pq.below
  generalize pq.at_ = wq at *
  go_wp2_with fail
  go_ret
  exact ⟨rfl, hB.out⟩
set_option maxHeartbeats 2000000 in
set_option maxRecDepth 100000 in
theorem firstRoom_any (R : Nat) (b : Nat → Bool) (p1 p2 p3 : Value) (w : World) (hR : R ≤ 64) (hb : ∀ r, r < R → ∀ W, Below w.heap.size w W → Calls Try.prog 59 #[.int .i64 (r : Int), p1, p2, p3] W fun e w' => e = .returned (.bool (!b r)) ∧ Below W.heap.size W w') :
    Calls Try.prog 58 #[.int .i64 (R : Int), .func (.func 59) #[] #[p1, p2, p3]] w fun e w' => ∃ q : Nat, e = .returned (.int .i64 (q : Int)) ∧ q ≤ R ∧ (∀ s, s < q → b s = true) ∧ (q < R → b q = false) ∧ Below w.heap.size w w' := by
  have hH := Lib.hid hb
  clear hb
  go_enter Try.func58, Try.ntmps58
  go_wp2_with fail
  go_loopw [5] (fun iv wr => ∃ k : Nat, k ≤ R ∧ iv = .int .i64 (k : Int) ∧ Hid (∀ s, s < k → b s = true) ∧ Hid (Below w.heap.size w wr)) (fun iv _ => R - (intOf iv).toNat)
  case atStart => exact ⟨0, Nat.zero_le _, rfl, Lib.hid (fun s hs => by omega), Lib.hid (Below.refl _ _)⟩
  case round =>
    obtain ⟨k, hk, rfl, hP, hBw⟩ := hrel
    by_cases hlt : k < R
    · have hd : (k : Int) < (R : Int) := by omega
      have hC := Lib.hid (hH.out k hlt wr hBw.out)
      cases hq : b k
      · rw [hq] at hC
        go_wp2_with (go_at_call 59; (with_reducible refine hC.out.mono ?_); rintro e w' ⟨rfl, hb1⟩; have hB1 := Lib.hid (below_on hBw.out (Nat.le_refl _) hb1); clear hb1)
        go_ret
        exact ⟨k, rfl, by omega, hP.out, fun _ => hq, hB1.out⟩
      · rw [hq] at hC
        have hP2 : Hid (∀ s, s < k + 1 → b s = true) := Lib.hid fun s hs => by
          by_cases c : s = k
          · rw [c]; exact hq
          · exact hP.out s (by omega)
        go_wp2_with (go_at_call 59; (with_reducible refine hC.out.mono ?_); rintro e w' ⟨rfl, hb1⟩; have hB1 := Lib.hid (below_on hBw.out (Nat.le_refl _) hb1); clear hb1)
        go_roundw
        case rel => exact ⟨k + 1, by omega, by go_num, hP2, hB1⟩
        case measure => simp [intOf]; omega
    · obtain rfl : R = k := by omega
      have hd : decide ((R : Int) < (R : Int)) = false := by simp
      go_wp2_with fail
      go_ret
      exact ⟨R, rfl, Nat.le_refl _, hP.out, fun h => by omega, hBw.out⟩
/-- The program's own boxes: the list, the answer, the table and the order. -/
structure Boxes (w1 : World) (gl gr gt g2 A : Nat) (ls tv : Value) (rs os : Array Value) (W : World) : Prop where
  bl : Whole W gl 66 #[ls]
  br : Whole W gr 2 rs
  bt : Whole W gt 77 #[tv]
  bo : Whole W g2 2 os
  be : Below w1.heap.size w1 W
  lo : w1.heap.size ≤ gl ∧ gl < gr ∧ gr < gt ∧ gt < g2 ∧ g2 < A
section
variable {w1 W W' : World} {gl gr gt g2 A : Nat} {ls tv : Value} {rs os : Array Value}
theorem Boxes.kept (h : Boxes w1 gl gr gt g2 A ls tv rs os W) (hb : Below W.heap.size W W') : Boxes w1 gl gr gt g2 A ls tv rs os W' :=
  ⟨h.bl.kept hb, h.br.kept hb, h.bt.kept hb, h.bo.kept hb, h.be.trans (hb.mono h.be.size), h.lo⟩
theorem Boxes.alloc (h : Boxes w1 gl gr gt g2 A ls tv rs os W) (o : Obj) : Boxes w1 gl gr gt g2 A ls tv rs os (W.alloc o) := h.kept (below_alloc (Below.refl _ _) o)
theorem Boxes.drew (h : Boxes w1 gl gr gt g2 A ls tv rs os W) : Boxes w1 gl gr gt g2 A ls tv rs os W.drew := ⟨h.bl.draws 1, h.br.draws 1, h.bt.draws 1, h.bo.draws 1, h.be.drew, h.lo⟩
theorem Boxes.grown {row : Option Nat} (h : Boxes w1 gl gr gt g2 A ls tv rs os W) (hg : W.grownBy W' row) (hr : ∀ b, row = some b → A ≤ b) : Boxes w1 gl gr gt g2 A ls tv rs os W' := by
  obtain ⟨l1, l2, l3, l4, l5⟩ := h.lo
  have ne : ∀ b, b < A → some b ≠ row := fun b hb e => by have := hr b e.symm; omega
  exact ⟨h.bl.beside hg (ne _ (by omega)), h.br.beside hg (ne _ (by omega)), h.bt.beside hg (ne _ (by omega)), h.bo.beside hg (ne _ (by omega)), h.be.grown hg h.be.size (fun b hb => by have := hr b hb; omega), h.lo⟩
theorem Boxes.high (h : Boxes w1 gl gr gt g2 A ls tv rs os W) {p : Addr} (hp : A ≤ p.block) (u : Value) : Boxes w1 gl gr gt g2 A ls tv rs os (W.setCell p u) := by
  obtain ⟨l1, l2, l3, l4, l5⟩ := h.lo
  exact ⟨h.bl.apart (by omega) u, h.br.apart (by omega) u, h.bt.apart (by omega) u, h.bo.apart (by omega) u, h.be.setCell (p := p) (by omega) u, h.lo⟩
theorem Boxes.putT (h : Boxes w1 gl gr gt g2 A ls tv rs os W) (u : Value) : Boxes w1 gl gr gt g2 A ls u rs os (W.setCell ⟨gt, 0, none⟩ u) := by
  obtain ⟨l1, l2, l3, l4, l5⟩ := h.lo
  exact ⟨h.bl.apart (show gl ≠ gt by omega) u, h.br.apart (show gr ≠ gt by omega) u, h.bt.put 0 u, h.bo.apart (show g2 ≠ gt by omega) u, h.be.setCell (p := ⟨gt, 0, none⟩) (show w1.heap.size ≤ gt by omega) u, h.lo⟩
theorem Boxes.putR (h : Boxes w1 gl gr gt g2 A ls tv rs os W) (i : Nat) (u : Value) : Boxes w1 gl gr gt g2 A ls tv (rs.setIfInBounds i u) os (W.setCell ⟨gr, i, none⟩ u) := by
  obtain ⟨l1, l2, l3, l4, l5⟩ := h.lo
  exact ⟨h.bl.apart (show gl ≠ gr by omega) u, h.br.put i u, h.bt.apart (show gt ≠ gr by omega) u, h.bo.apart (show g2 ≠ gr by omega) u, h.be.setCell (p := ⟨gr, i, none⟩) (show w1.heap.size ≤ gr by omega) u, h.lo⟩
end
theorem row_open2 {w : World} {A n : Nat} {e : TypeId} {v : Value} {cs : List Value} (h : w.ownsRow A e 1 v n cs) (hn : 1 ≤ n) : ∃ g cap, v = .slice (some ⟨g, 0, none⟩) n cap ∧ A ≤ g ∧ g < w.heap.size ∧ n ≤ cap ∧ cap ≤ maxLen := row_open1 h hn
theorem one_slc (v : Value) (h : v.oneCell' = true) : ∀ u ∈ [v], u.oneCell' = true := by simpa using h
theorem infoTalks : (Try.prog.info? 66).map (fun i => (i.zero, i.size, i.bytes)) = some (some (.slice none 0 0), 1, 24) := by kernel_rfl
theorem news_nil (w : World) (t : TypeId) : ∀ (j : Nat) (x : Value), [Value.slice none 0 0][j]? = some x → (w.alloc (.cells #[Value.slice none 0 0] t)).cell? ((⟨w.heap.size, 0, none⟩ : Addr).add j) = some x := Whole.news (cs := #[Value.slice none 0 0]) (Whole.made w t _ rfl)
def roomN_ (xs : List Int) (k r : Nat) : Nat := (inRoom (begF xs) (roomsL xs k) r).length
def roomC_ (xs : List Int) (k r : Nat) : List Value := tkC xs (inRoom (begF xs) (roomsL xs k) r)
theorem roomN_other (xs : List Int) (k : Nat) (s : Nat) (h : s ≠ roomAt xs k) : roomN_ xs (k + 1) s = roomN_ xs k s ∧ roomC_ xs (k + 1) s = roomC_ xs k s := by
  have e : inRoom (begF xs) (roomsL xs (k + 1)) s = inRoom (begF xs) (roomsL xs k) s := by
    show inRoom _ (roomsL xs k ++ [roomAt xs k]) s = _
    rw [inRoom_snoc, if_neg (Ne.symm h), List.append_nil]
  unfold roomN_ roomC_
  rw [e]; exact ⟨rfl, rfl⟩
theorem roomN_this (xs : List Int) (k : Nat) : roomN_ xs (k + 1) (roomAt xs k) = roomN_ xs k (roomAt xs k) + 1 ∧ roomC_ xs (k + 1) (roomAt xs k) = roomC_ xs k (roomAt xs k) ++ [.int .i64 (xs.getD (2 * begF xs k) 0), .int .i64 (xs.getD (2 * begF xs k + 1) 0)] := by
  have e : inRoom (begF xs) (roomsL xs (k + 1)) (roomAt xs k) = inRoom (begF xs) (roomsL xs k) (roomAt xs k) ++ [begF xs k] := by
    show inRoom _ (roomsL xs k ++ [roomAt xs k]) _ = _
    rw [inRoom_snoc, if_pos rfl]
    unfold roomsL
    rw [roomsT_len]
  unfold roomN_ roomC_
  rw [e, List.length_append, tkC_snoc]; exact ⟨rfl, rfl⟩
set_option maxHeartbeats 16000000 in
set_option maxRecDepth 100000 in
theorem implRoomsOf_any (B : Nat) (v : Value) (xs : List Int) (w : World) (h : LstI B w v xs) (hB : B ≤ w.heap.size) :
    Calls Try.prog 28 #[v] w (ListNumPost (roomsOut xs) (roomsCnt xs) (talksOk xs) w) := by
  have hT := Lib.hid (talksOf_any B v xs w h hB)
  obtain ⟨a, cap, rfl, hl, hcap, hcm, _⟩ := h.at_
  clear h
  cases hq : talksOk xs
  · rw [hq] at hT
    have hN : Hid (∀ w', Below w.heap.size w w' → ListNumPost (roomsOut xs) (roomsCnt xs) false w (.returned (.tuple #[.slice none 0 0, .int .i64 0, .bool false])) w') := Lib.hid fun w' hb => by
      unfold roomsOut roomsCnt
      rw [hq]
      exact ⟨_, rfl, own_nil, hb⟩
    clear hq
    generalize ListNumPost (roomsOut xs) (roomsCnt xs) false w = Q at *
    generalize xs.length = n at *
    go_enter Try.func28, Try.ntmps28
    go_wp2_with fail
    refine hT.out.mono ?_
    rintro e w1 ⟨hx, hb⟩
    rcases hx with ⟨_, rfl⟩ | ⟨h0, _⟩
    · have hB1 := Lib.hid (below_alloc hb (.cells #[.slice none 0 0] 66))
      clear hb hT
      go_wp2_with fail
      first | exact hN.out _ hB1.out | (go_ret3; exact hN.out _ hB1.out)
    · cases h0
  · obtain ⟨q1, q2, q3, q4, q5⟩ := talks_of hq
    rw [hq] at hT
    obtain ⟨n, hn⟩ : ∃ n, n = xs.length / 2 := ⟨_, rfl⟩
    rw [← hn] at hT
    have hY : Hid (∀ (W : World) (gr : Nat), Below w.heap.size w W → w.heap.size ≤ gr → gr < W.heap.size → Whole W gr 2 (cellsF n (outTo 0 (begF xs) (roomAt xs) n)).toArray → ListNumPost (roomsOut xs) (roomsCnt xs) true w (.returned (.tuple #[.slice (some ⟨gr, 0, none⟩) n n, .int .i64 ((cntR (roomsL xs n) : Nat) : Int), .bool true])) W) := Lib.hid fun W gr hb h1 h2 X => by
      have ho := own_of_whole (A := w.heap.size) (B := W.heap.size) (n := n) (k := 1) X h1 h2 (by simp [cellsF]) (by unfold maxLen; omega)
      unfold roomsOut roomsCnt
      rw [hq, if_pos rfl, if_pos rfl, ← hn]
      refine ⟨_, rfl, ?_, hb⟩
      rw [fillI_length]
      unfold fillI
      rw [List.map_map]
      exact ho
    have hPl : Hid (∀ w1 v', Below w.heap.size w w1 → w1.ownsRow w.heap.size 71 2 v' n (xs.map (Value.int .i64)) → _) := Lib.hid fun w1 v' hb ho => talkPlaces_any 52 (beginK xs) xs n w1 v' w.heap.size (by omega) (by omega) (by omega) ho (enters_of Try.func52 (by kernel_rfl) rfl) (fun x y w' => compareBegins_any _ _ _ _ w')
    have hFl : Hid (∀ f k, Srt.Done (ltK (beginK xs)) n f → k < n → ∃ p : Nat, p < n ∧ f k = (p : Int) ∧ begF xs k = p) := Lib.hid fun f k hd hk => by
      have h1 := hd.1.low k hk
      have h2 := Srt.sorted_one (totK n (beginK xs)) hd.2 (Srt.insTo_done (totK n (beginK xs))).2 hd.1 (Srt.insTo_done (totK n (beginK xs))).1 k hk
      refine ⟨(f k).toNat, by omega, by omega, ?_⟩
      unfold begF
      rw [← hn, ← h2]
    have hOne : Hid (∀ k q, q ≤ cntR (roomsL xs k) → (∀ s, s < q → bad (talkAt xs) (begF xs) (roomsL xs k) (begF xs k) s = true) → (q < cntR (roomsL xs k) → bad (talkAt xs) (begF xs) (roomsL xs k) (begF xs k) q = false) → q = roomAt xs k) := Lib.hid fun k q h1 h2 h3 => by
      refine roomN_one h2 ?_
      by_cases c : q < cntR (roomsL xs k)
      · exact h3 c
      · exact bad_beyond _ _ _ _ _ (by omega)
    have hCs : Hid (∀ k, cntR (roomsL xs (k + 1)) = max (cntR (roomsL xs k)) (roomAt xs k + 1)) := Lib.hid fun k => cntR_snoc _ _
    have hCle : Hid (∀ k, cntR (roomsL xs k) ≤ k) := Lib.hid fun k => cntR_le _ _ k
    have hNl : Hid (∀ k r, roomN_ xs k r ≤ k) := Lib.hid fun k r => by
      unfold roomN_ inRoom
      rw [List.length_map]
      refine Nat.le_trans (List.length_filter_le _ _) ?_
      unfold roomsL
      rw [List.length_range, roomsT_len]; exact Nat.le_refl _
    have hBad : Hid (∀ k p r, ((inRoom (begF xs) (roomsL xs k) r).map (talkAt xs)).any (meetT (xs.getD (2 * p) 0, xs.getD (2 * p + 1) 0)) = bad (talkAt xs) (begF xs) (roomsL xs k) p r) := Lib.hid fun k p r => inRoom_bad _ _ _ _ _
    have hNone : Hid (∀ k r, cntR (roomsL xs k) ≤ r → roomN_ xs k r = 0 ∧ roomC_ xs k r = []) := Lib.hid fun k r hr => by
      unfold roomN_ roomC_
      rw [inRoom_none _ _ _ hr]; exact ⟨rfl, rfl⟩
    have hUp : Hid (∀ k p, begF xs k = p → (cellsF n (outTo 0 (begF xs) (roomAt xs) k)).toArray.setIfInBounds p (.int .i64 (roomAt xs k : Nat)) = (cellsF n (outTo 0 (begF xs) (roomAt xs) (k + 1))).toArray) := Lib.hid fun k p e => by rw [arr_upd, outTo_upd _ _ _ _ _ e]
    have n32 : n ≤ 32 := by omega
    have n1 : 1 ≤ n := by omega
    clear q1 q2 q3 q4 q5 hq hn
    generalize ltK (beginK xs) = lt at *
    generalize ListNumPost (roomsOut xs) (roomsCnt xs) true w = Q at *
    generalize xs.length = xl at *
    obtain ⟨i0, hi, hz0, hz1, hz2⟩ := info_parts infoI
    obtain ⟨j0, hj, hy0, hy1, hy2⟩ := info_parts infoTalk
    obtain ⟨k0, hk0, hx0, hx1, hx2⟩ := info_parts infoTalks
    go_enter Try.func28, Try.ntmps28
    go_wp2_with fail
    refine hT.out.mono ?_
    rintro e w1 ⟨hx, hb⟩
    rcases hx with ⟨h0, _⟩ | ⟨_, v', rfl, ho⟩
    · cases h0
    obtain ⟨gA, cA, hvA, hgA, hgB, hc1, hc2, hcl, -⟩ := hPl.out w1 v' hb ho
    subst hvA
    have hB1 := Lib.hid hb
    have hS1 := hb.size
    have hOl := Lib.hid ho
    have hCells := Lib.hid hcl
    unfold maxLen at hc2
    have X0 := Lib.hid (Whole.made w1 66 #[.slice (some ⟨gA, 0, none⟩) n cA] rfl)
    have Bl0 := Lib.hid (below_alloc (Below.refl w1.heap.size w1) (.cells #[.slice (some ⟨gA, 0, none⟩) n cA] 66))
    have b0 := X0.out.at_ (i := 0) rfl
    have hPC : Hid (∀ W, Below w1.heap.size w1 W → Calls Try.prog 51 #[.slice (some ⟨gA, 0, none⟩) n cA, .func (.func 52) #[] #[]] W fun e w' => ∃ g f, e = .returned (.slice (some ⟨g, 0, none⟩) n n) ∧ W.heap.size ≤ g ∧ w'.ownsRow W.heap.size 2 1 (.slice (some ⟨g, 0, none⟩) n n) n (cellsF n f) ∧ Srt.Done lt n f ∧ Below W.heap.size W w') := Lib.hid fun W hW => by
      obtain ⟨g', c', hv, _, _, _, _, _, hc⟩ := hPl.out W _ (below_on hB1.out (Nat.le_refl _) hW) (tab_row_kept hOl.out hW)
      exact hc
    clear hb ho hcl hT hPl
    go_wp2_with (first | (at_make; refine wpList_make_full _ rfl _ _ _ rfl w1.heap.size _ i0 (.int .i64 0) 1 Try.underlying22 hi hz0 hz1 _ _ _ _ n rfl rfl rfl rfl (by rw [hz2]; omega) (by unfold maxLen; omega) (by simp) ?_; intro w6 hown6 hg6; have hO6 := Lib.hid hown6; have hX6 := Lib.hid (X0.out.beside hg6 (by simp)); have hB6 := Lib.hid (Bl0.out.grown hg6 Bl0.out.size (fun k hk => by cases hk)); have b6 := (hX6.out.more (.cells #[.slice none 0 0] 77)).at_ (i := 0) rfl; have hB7 := Lib.hid (hB6.out.alloc hB6.out.size (.cells #[.slice none 0 0] 77)); clear hown6 hg6) | (go_at_call 51; (with_reducible refine (hPC.out _ hB7.out).mono ?_); rintro e w3 ⟨g2, f, rfl, hg2, ho2, hd2, hb2⟩; have hO2 := Lib.hid ho2; have hD2 := Lib.hid hd2; have hBb := Lib.hid hb2; have hG2 := Lib.hid hg2; clear ho2 hd2 hb2 hg2))
    have hlo : w6.heap.size ≤ w3.heap.size ∧ w1.heap.size + 2 ≤ w6.heap.size ∧ w6.heap.size + 1 ≤ g2 ∧ g2 < w3.heap.size := by
      have e1 := hBb.out.size
      have e2 := hG2.out
      have e3 := (hO2.out.lt g2 rfl).2
      have e4 := (hO6.out.lt (w1.heap.size + 1) (by simp [Value.ownBlock])).2
      rw [World.size_alloc] at e1 e2
      omega
    have hOrd := Lib.hid (whole_of_own hO2.out)
    have hIdx : Hid (∀ k, k < n → (cellsF n f).toArray[k]? = some (.int .i64 (f k))) := Lib.hid fun k hk => by simpa using cellsF_at f hk
    have hBx0 : Hid (Boxes w1 w1.heap.size (w1.heap.size + 1) w6.heap.size g2 w3.heap.size (.slice (some ⟨gA, 0, none⟩) n cA) (.slice none 0 0) (cellsF n (outTo 0 (begF xs) (roomAt xs) 0)).toArray (cellsF n f).toArray w3) := Lib.hid (by
      have hz := whole_of_own (zeros_of hO6.out)
      rw [World.size_alloc] at hz
      have e : ((countTo n 0).map (Value.int .i64)) = cellsF n (outTo 0 (begF xs) (roomAt xs) 0) := by
        unfold countTo cellsF
        rw [List.map_map]
        refine List.map_congr_left fun i _ => ?_
        simp [outTo]
      rw [e] at hz
      exact ⟨(hX6.out.more _).kept hBb.out, (hz.more _).kept hBb.out, (Whole.made w6 _ _ rfl).kept hBb.out, hOrd.out, below_on hB7.out (Nat.le_refl _) hBb.out, by omega⟩)
    have hTb0 := Lib.hid (Tab.nil w3.heap.size w3 66 71 2 (by decide) (Nat.le_refl _) (roomN_ xs 0) (roomC_ xs 0))
    have hTc : Hid (∀ W' p, p < n → Below w1.heap.size w1 W' → W'.cell? ⟨gA, p * 2, none⟩ = some (.int .i64 (xs.getD (2 * p) 0)) ∧ W'.cell? ⟨gA, p * 2 + 1, none⟩ = some (.int .i64 (xs.getD (2 * p + 1) 0))) := Lib.hid fun W' p hp hW => by
      have key : ∀ j, j < 2 → W'.cell? ⟨gA, p * 2 + j, none⟩ = some (.int .i64 (xs.getD (2 * p + j) 0)) := fun j hj => by
        rw [hW.cell (p := ⟨gA, p * 2 + j, none⟩) hgB]
        exact hCells.out p j hp hj
      exact ⟨key 0 (by omega), key 1 (by omega)⟩
    have hAll : Hid (w.heap.size ≤ w1.heap.size ∧ w1.heap.size + 1 < w3.heap.size) := Lib.hid ⟨hS1, by omega⟩
    generalize w1.heap.size + 1 = gr at *
    generalize hgl : w1.heap.size = gl at hBx0 ⊢
    have hGl := Lib.hid hgl
    generalize w6.heap.size = gt at *
    generalize hAe : w3.heap.size = A at *
    clear hgl hOrd hO6 hX6 hB6 b6 hB7 hO2 hBb hG2 hlo b0 X0 Bl0 hOl hCells hPC
    go_loopw [25] (fun iv wr => ∃ (k : Nat) (tv : Value) (vs : List Value), k ≤ n ∧ iv = .int .i64 k ∧ Hid (vs.length = cntR (roomsL xs k)) ∧ Hid (Boxes w1 gl gr gt g2 A (.slice (some ⟨gA, 0, none⟩) n cA) tv (cellsF n (outTo 0 (begF xs) (roomAt xs) k)).toArray (cellsF n f).toArray wr) ∧ Hid (Tab A wr 66 71 2 tv vs (roomN_ xs k) (roomC_ xs k))) (fun iv _ => n - (intOf iv).toNat)
    case atStart => exact ⟨0, _, [], Nat.zero_le _, rfl, Lib.hid rfl, hBx0, hTb0⟩
    case round =>
      clear hBx0 hTb0
      obtain ⟨k, tv, vs, hk, rfl, hVl, hBx, hTb⟩ := hrel
      by_cases hlt : k < n
      · obtain ⟨p, hp, hfp, hep⟩ := hFl.out f k hD2.out hlt
        have c0 := hBx.out.bo.at_ (hIdx.out k hlt)
        rw [hfp] at c0
        obtain ⟨ta, tcap, rfl⟩ := ownRow_slice hTb.out.top
        have gtc := (hBx.out.bt.more (.cells #[.int .i64 (p : Int)] 2)).at_ (i := 0) rfl
        have hRle : vs.length ≤ 32 := by have := hVl.out; have := hCle.out k; omega
        have hTp : Hid (∀ W', Below w1.heap.size w1 W' → W'.cell? ⟨gA, p * 2, none⟩ = some (.int .i64 (xs.getD (2 * p) 0)) ∧ W'.cell? ⟨gA, p * 2 + 1, none⟩ = some (.int .i64 (xs.getD (2 * p + 1) 0))) := Lib.hid fun W' hW => hTc.out W' p hp hW
        have hFP : Hid (Calls Try.prog 58 #[.int .i64 (vs.length : Nat), .func (.func 59) #[] #[.pointer (some ⟨gl, 0, none⟩), .pointer (some ⟨wr.heap.size, 0, none⟩), .pointer (some ⟨gt, 0, none⟩)]] (wr.alloc (.cells #[.int .i64 (p : Int)] 2)) fun e w' => ∃ q : Nat, e = .returned (.int .i64 (q : Int)) ∧ q ≤ vs.length ∧ (∀ s, s < q → bad (talkAt xs) (begF xs) (roomsL xs k) p s = true) ∧ (q < vs.length → bad (talkAt xs) (begF xs) (roomsL xs k) p q = false) ∧ Below (wr.alloc (.cells #[.int .i64 (p : Int)] 2)).heap.size (wr.alloc (.cells #[.int .i64 (p : Int)] 2)) w') := Lib.hid (firstRoom_any vs.length (bad (talkAt xs) (begF xs) (roomsL xs k) p) _ _ _ _ (by omega) fun r hr W hW => by
          have hTk := (hTb.out.alloc (.cells #[.int .i64 (p : Int)] 2)).kept hW
          have hBk := (hBx.out.alloc (.cells #[.int .i64 (p : Int)] 2)).kept hW
          have hGk := (Whole.made wr 2 #[.int .i64 (p : Int)] rfl).kept hW
          obtain ⟨tg, tc, htv, _, _, _, _⟩ := row_open2 hTk.top (by omega)
          have hvr : vs[r]? = some vs[r] := List.getElem?_eq_getElem _
          have hRw := hTk.row r _ hvr
          have hLs := (Own.new hRw (by have := hNl.out k r; unfold maxLen; omega)).lstK (Nat.le_refl _)
          rw [← hBad.out k p r]
          refine roomHolds_any gA cA n gl wr.heap.size gt tg tc vs.length r p vs[r] _ _ _ W hr hp (hBk.bl.at_ (i := 0) rfl) (hGk.at_ (i := 0) rfl) ?_ ?_ (hTp.out W hBk.be).1 (hTp.out W hBk.be).2 ?_
          · rw [← htv]; exact hBk.bt.at_ (i := 0) rfl
          · have := hTk.top
            rw [htv] at this
            rw [this.cellAt r (by omega)]; exact hvr
          · unfold LstT
            rw [List.length_map]
            exact hLs)
        have hQr : Hid (∀ q, q ≤ vs.length → (∀ s, s < q → bad (talkAt xs) (begF xs) (roomsL xs k) p s = true) → (q < vs.length → bad (talkAt xs) (begF xs) (roomsL xs k) p q = false) → q = roomAt xs k) := Lib.hid fun q h1 h2 h3 => hOne.out k q (by rw [← hVl.out]; exact h1) (by rw [hep]; exact h2) (by rw [← hVl.out, hep]; exact h3)
        have hUk := Lib.hid (hUp.out k p hep)
        have hThs := Lib.hid (roomN_this xs k)
        rw [hep] at hThs
        have hOth := Lib.hid (roomN_other xs k)
        have hCk := Lib.hid (hCs.out k)
        have hBr : Hid (∃ x, (cellsF n (outTo 0 (begF xs) (roomAt xs) k)).toArray[p]? = some (.int .i64 x)) := Lib.hid ⟨_, by simpa using cellsF_at (outTo 0 (begF xs) (roomAt xs) k) hp⟩
        have l1 : (p : Int) < (n : Int) := by omega
        have hd : (k : Int) < (n : Int) := by omega
        generalize xs.getD (2 * p) 0 = t0 at *
        generalize xs.getD (2 * p + 1) 0 = t1 at *
        generalize hrs : (cellsF n (outTo 0 (begF xs) (roomAt xs) k)).toArray = rs at *
        generalize hos : (cellsF n f).toArray = os at *
        clear hrs hfp
        go_wp2_with fail
        refine hFP.out.mono ?_
        rintro e w5 ⟨q, rfl, hq1, hq2, hq3, hb5⟩
        have hQ := Lib.hid (hQr.out q hq1 hq2 hq3)
        have hBx5 := Lib.hid ((hBx.out.alloc (.cells #[.int .i64 (p : Int)] 2)).kept hb5)
        have hTb5 := Lib.hid ((hTb.out.alloc (.cells #[.int .i64 (p : Int)] 2)).kept hb5)
        have hGi5 := Lib.hid ((Whole.made wr 2 #[.int .i64 (p : Int)] rfl).kept hb5)
        have g5 := hBx5.out.bt.at_ (i := 0) rfl
        have hThis : Hid (∀ (W : World) (v : Value), W.ownsRow A 71 2 v (roomN_ xs k q + 1) (roomC_ xs k q ++ (#[Value.int .i64 t0, .int .i64 t1] : Array Value).toList) → W.ownsRow A 71 2 v (roomN_ xs (k + 1) q) (roomC_ xs (k + 1) q)) := Lib.hid fun W v ho => by
          rw [hQ.out, hThs.out.1, hThs.out.2, ← hQ.out]; exact ho
        have hOther : Hid (∀ s, s ≠ q → roomN_ xs (k + 1) s = roomN_ xs k s ∧ roomC_ xs (k + 1) s = roomC_ xs k s) := Lib.hid fun s hs => hOth.out s (by rw [← hQ.out]; exact hs)
        have hUq : Hid (rs.setIfInBounds p (.int .i64 (q : Int)) = (cellsF n (outTo 0 (begF xs) (roomAt xs) (k + 1))).toArray) := Lib.hid (by rw [hQ.out]; exact hUk.out)
        have hTbL := Lib.hid hTb.out.le
        clear hFP hQr hBx hTb gtc c0 hb5 hq2 hq3
        have hGiA0 := Lib.hid (show A ≤ wr.heap.size from hTbL.out)
        generalize wr.heap.size = gi at *
        by_cases hqR : q < vs.length
        · have dq : ((q : Int) == (vs.length : Int)) = false := by rw [beq_eq_false_iff_ne]; omega
          obtain ⟨vr, hvr0⟩ : ∃ vr, vs[q]? = some vr := ⟨vs[q], List.getElem?_eq_getElem hqR⟩
          have hvq := Lib.hid hvr0
          have hql := Lib.hid hqR
          have hlen2 : Hid (vs.length = cntR (roomsL xs (k + 1))) := Lib.hid (by rw [hCk.out, ← hQ.out, ← hVl.out]; omega)
          have hBxM := hBx5
          have hTbM := hTb5
          have hGiM := hGi5
          clear hqR hvr0 hq1 hBx5 hTb5 hGi5
          generalize w5 = W9 at *
          generalize hvs2 : vs = vs2 at *
          clear hvs2
          have hRow := Lib.hid (hTbM.out.row q _ hvq.out)
          obtain ⟨av, cv, hvr⟩ := ownRow_slice hRow.out
          subst hvr
          obtain ⟨tg, tc, htv, hA1, htl, htc1, htc2⟩ := row_open2 hTbM.out.top (by have := hql.out; omega)
          have hTg := Lib.hid hA1
          injection htv with ht1 ht2 ht3
          subst ht1
          have ht4 := ht3.symm
          subst ht4
          have hRb : Hid (∀ b, (Value.slice av (roomN_ xs k q) cv).ownBlock = some b → A ≤ b) := Lib.hid fun b hb => (hRow.out.lt b hb).1
          have hS0 : Hid (∀ W', Boxes w1 gl gr gt g2 A (.slice (some ⟨gA, 0, none⟩) n cA) (.slice (some ⟨tg, 0, none⟩) vs2.length tc) rs os W' → Whole W' gi 2 #[.int .i64 (p : Int)] → (W'.cell? ⟨gt, 0, none⟩ = some (.slice (some ⟨tg, 0, none⟩) vs2.length tc) ∧ W'.cell? ⟨gl, 0, none⟩ = some (.slice (some ⟨gA, 0, none⟩) n cA) ∧ W'.cell? ⟨gi, 0, none⟩ = some (.int .i64 (p : Int)) ∧ W'.cell? ⟨gA, p * 2, none⟩ = some (.int .i64 t0) ∧ W'.cell? ⟨gA, p * 2 + 1, none⟩ = some (.int .i64 t1))) := Lib.hid fun W' hx hg => ⟨hx.bt.at_ (i := 0) rfl, hx.bl.at_ (i := 0) rfl, hg.at_ (i := 0) rfl, (hTp.out W' hx.be).1, (hTp.out W' hx.be).2⟩
          have hCt : Hid (∀ W', Below W9.heap.size W9 W' → W'.cell? ⟨tg, q, none⟩ = some (.slice av (roomN_ xs k q) cv)) := Lib.hid fun W' hb => ((tab_row_kept hTbM.out.top hb).cellAt q (by have := hql.out; omega)).trans hvq.out
          have hCt9 : Hid (∀ (wa : World), wa.ownsRow A 66 1 (.slice (some ⟨tg, 0, none⟩) vs2.length tc) vs2.length vs2 → wa.cell? ⟨tg, q, none⟩ = some (.slice av (roomN_ xs k q) cv) ∧ wa.frozen? ⟨tg, q, none⟩ = false) := Lib.hid fun wa ht => ⟨(ht.cellAt q (by have := hql.out; omega)).trans hvq.out, ht.frozenAt q⟩
          have hR0 := Below.refl W9.heap.size W9
          obtain ⟨c1, c4, c5, c6, c7⟩ := hS0.out W9 hBxM.out hGiM.out
          have c2 := hCt.out W9 hR0
          have c3 := hCt.out _ (below_alloc hR0 (.cells #[.int .i64 t0, .int .i64 t1] 71))
          have l2 : (q : Int) < (vs2.length : Int) := by have := hql.out; omega
          have hLq := hNl.out k q
          go_wp2_with fail
          refine wp_region_noPanic ?_
          refine wp_region_held_drew (S := (fun W' => W'.cell? ⟨gt, 0, none⟩ = some (.slice (some ⟨tg, 0, none⟩) vs2.length tc) ∧ W'.cell? ⟨gl, 0, none⟩ = some (.slice (some ⟨gA, 0, none⟩) n cA) ∧ W'.cell? ⟨gi, 0, none⟩ = some (.int .i64 (p : Int)) ∧ W'.cell? ⟨gA, p * 2, none⟩ = some (.int .i64 t0) ∧ W'.cell? ⟨gA, p * 2 + 1, none⟩ = some (.int .i64 t1))) (by kernel_rfl) (by (first | exact h10 | exact h9 | exact hS0.out _ (by (repeat (first | (with_reducible exact hBxM.out) | (with_reducible apply Boxes.drew) | (with_reducible apply Boxes.alloc)))) (by (repeat (first | (with_reducible exact hGiM.out) | (with_reducible apply Whole.drew1) | (with_reducible apply Whole.more)))))) (fun hHeld => ?_)
          refine wpAnyH_take (i := 0) (oi := _) (v := ?_) rfl (by kernel_rfl) (by kernel_rfl) (by kernel_rfl) (fun _ _ _ h => h) (Or.inl ⟨by rfl, ?_⟩) (by assumption) ?_
          rotate_left
          · intro W' hSw
            try dsimp only at hSw
            go_simp
            try with_reducible rfl
          try simp only [Act.put, List.setIfInBounds_toArray, List.set_cons_zero, List.set_cons_succ]
          refine wpAnyH_take (i := 1) (oi := _) (v := ?_) rfl (by kernel_rfl) (by kernel_rfl) (by kernel_rfl) (fun _ _ _ h => h) (Or.inl ⟨by rfl, ?_⟩) (by assumption) ?_
          rotate_left
          · intro W' hSw
            try dsimp only at hSw
            go_simp
            try with_reducible rfl
          try simp only [Act.put, List.setIfInBounds_toArray, List.set_cons_zero, List.set_cons_succ]
          refine wpAnyH_take (i := 2) (oi := _) (v := ?_) rfl (by kernel_rfl) (by kernel_rfl) (by kernel_rfl) (fun _ _ _ h => h) (Or.inl ⟨by rfl, ?_⟩) (by assumption) ?_
          rotate_left
          · intro W' hSw
            try dsimp only at hSw
            go_simp
            try with_reducible rfl
          try simp only [Act.put, List.setIfInBounds_toArray, List.set_cons_zero, List.set_cons_succ]
          refine wpAnyH_take (i := 3) (oi := _) (v := ?_) rfl (by kernel_rfl) (by kernel_rfl) (by kernel_rfl) (fun _ _ _ h => h) (Or.inl ⟨by rfl, ?_⟩) (by assumption) ?_
          rotate_left
          · intro W' hSw
            try dsimp only at hSw
            go_simp
            try with_reducible rfl
          try simp only [Act.put, List.setIfInBounds_toArray, List.set_cons_zero, List.set_cons_succ]
          refine wpAnyH_take (i := 4) (oi := _) (v := ?_) rfl (by kernel_rfl) (by kernel_rfl) (by kernel_rfl) (fun _ _ _ h => h) (Or.inl ⟨by rfl, ?_⟩) (by assumption) ?_
          rotate_left
          · intro W' hSw
            try dsimp only at hSw
            go_simp
            try with_reducible rfl
          try simp only [Act.put, List.setIfInBounds_toArray, List.set_cons_zero, List.set_cons_succ]
          refine wpAnyH_take (i := 6) (oi := _) (v := ?_) rfl (by kernel_rfl) (by kernel_rfl) (by kernel_rfl) (fun _ _ _ h => h) (Or.inl ⟨by rfl, ?_⟩) (by assumption) ?_
          rotate_left
          · intro W' hSw
            try dsimp only at hSw
            go_simp
            try with_reducible rfl
          try simp only [Act.put, List.setIfInBounds_toArray, List.set_cons_zero, List.set_cons_succ]
          refine wpAnyH_take (i := 7) (oi := _) (v := ?_) rfl (by kernel_rfl) (by kernel_rfl) (by kernel_rfl) (fun _ _ _ h => h) (Or.inl ⟨by rfl, ?_⟩) (by assumption) ?_
          rotate_left
          · intro W' hSw
            try dsimp only at hSw
            go_simp
            try with_reducible rfl
          try simp only [Act.put, List.setIfInBounds_toArray, List.set_cons_zero, List.set_cons_succ]
          refine wpAnyH_take (i := 8) (oi := _) (v := ?_) rfl (by kernel_rfl) (by kernel_rfl) (by kernel_rfl) (fun _ _ _ h => h) (Or.inl ⟨by rfl, ?_⟩) (by assumption) ?_
          rotate_left
          · intro W' hSw
            try dsimp only at hSw
            go_simp
            try with_reducible rfl
          try simp only [Act.put, List.setIfInBounds_toArray, List.set_cons_zero, List.set_cons_succ]
          refine wpAnyH_take (i := 9) (oi := _) (v := ?_) rfl (by kernel_rfl) (by kernel_rfl) (by kernel_rfl) (fun _ _ _ h => h) (Or.inl ⟨by rfl, ?_⟩) (by assumption) ?_
          rotate_left
          · intro W' hSw
            try dsimp only at hSw
            go_simp
            try with_reducible rfl
          try simp only [Act.put, List.setIfInBounds_toArray, List.set_cons_zero, List.set_cons_succ]
          refine wpAnyH_ready (rs := [5, 10]) (by kernel_rfl) (by simp) ?_
          refine AllReadyH.cons (o := _) rfl (fun K hK => ?_) (AllReadyH.cons (o := _) rfl (fun K hK => ?_) AllReadyH.nil)
          · go_simp
            refine hK.out _ _ (by (first | exact h10 | exact h9 | exact hS0.out _ (by (repeat (first | (with_reducible exact hBxM.out) | (with_reducible apply Boxes.drew) | (with_reducible apply Boxes.alloc)))) (by (repeat (first | (with_reducible exact hGiM.out) | (with_reducible apply Whole.drew1) | (with_reducible apply Whole.more)))))) (fun hHeld => ?_)
            clear hK K
            try simp only [Act.put, List.setIfInBounds_toArray, List.set_cons_zero, List.set_cons_succ]
            refine wpAnyH_ready (rs := [10]) (by kernel_rfl) (by simp) ?_
            refine AllReadyH.cons (o := _) rfl (fun K hK => ?_) AllReadyH.nil
            go_simp
            refine hK.out _ _ (by (first | exact h10 | exact h9 | exact hS0.out _ (by (repeat (first | (with_reducible exact hBxM.out) | (with_reducible apply Boxes.drew) | (with_reducible apply Boxes.alloc)))) (by (repeat (first | (with_reducible exact hGiM.out) | (with_reducible apply Whole.drew1) | (with_reducible apply Whole.more)))))) (fun hHeld => ?_)
            clear hK K
            try simp only [Act.put, List.setIfInBounds_toArray, List.set_cons_zero, List.set_cons_succ]
            refine wpAnyH_ready (rs := [11]) (by kernel_rfl) (by simp) ?_
            refine AllReadyH.cons (o := _) rfl (fun K hK => ?_) AllReadyH.nil
            refine step_append_lies _ (by rfl) _ _ _ (by rfl) A 71 j0 (.agg #[.int .i64 0, .int .i64 0]) 2 16 Try.underlying66 hj hy0 hy1 hy2 rfl (by decide) _ (roomN_ xs k q) _ (by rfl) (Tab.row (by (repeat (first | (with_reducible exact hTbM.out) | (with_reducible apply Tab.drew) | (with_reducible apply Tab.alloc)))) q _ hvq.out) _ 1 1 (#[Value.int .i64 t0, .int .i64 t1] : Array Value).toList (by rfl) rfl (Whole.news (t := 71) (by (repeat (first | (with_reducible exact Whole.made _ _ _ rfl) | (with_reducible exact Whole.made _ _ _ (by simp)) | (with_reducible apply Whole.drew1) | (with_reducible apply Whole.more))))) (two_ints _ _) (by omega) (by unfold maxLen; omega) (by omega) (Tab.le (by (repeat (first | (with_reducible exact hTbM.out) | (with_reducible apply Tab.drew) | (with_reducible apply Tab.alloc))))) _ rfl ?_; intro ga ca wa howna hgrowa hata hlta; have hTb9 := Lib.hid (Tab.put (by (repeat (first | (with_reducible exact hTbM.out) | (with_reducible apply Tab.drew) | (with_reducible apply Tab.alloc)))) hvq.out rfl (n' := roomN_ xs (k + 1)) (c' := roomC_ xs (k + 1)) (hThis.out _ _ howna) hgrowa (fun g' e => by injection e with e; rw [← e]; exact hata) hOther.out); have hBx9 := Lib.hid (Boxes.grown (by (repeat (first | (with_reducible exact hBxM.out) | (with_reducible apply Boxes.drew) | (with_reducible apply Boxes.alloc)))) hgrowa hRb.out); have hGi9 := Lib.hid (Whole.besideRow (by (repeat (first | (with_reducible exact hGiM.out) | (with_reducible apply Whole.drew1) | (with_reducible apply Whole.more)))) (Tab.row (by (repeat (first | (with_reducible exact hTbM.out) | (with_reducible apply Tab.drew) | (with_reducible apply Tab.alloc)))) q _ hvq.out) (by decide) hgrowa); have hTo9 := Lib.hid (Tab.top2 (by (repeat (first | (with_reducible exact hTbM.out) | (with_reducible apply Tab.drew) | (with_reducible apply Tab.alloc)))) hvq.out hgrowa); have hBxA := Lib.hid (hBx9.out.high (p := ⟨tg, q, none⟩) hTg.out (.slice (some ⟨ga, 0, none⟩) (roomN_ xs k q + 1) ca)); have hGiA := Lib.hid (hGi9.out.apart (p := ⟨tg, q, none⟩) (whole_ne_row hGi9.out hTo9.out (by decide)) (.slice (some ⟨ga, 0, none⟩) (roomN_ xs k q + 1) ca)); obtain ⟨d2, d3⟩ := hCt9.out wa hTo9.out; have h9 := hS0.out wa hBx9.out hGi9.out; have h10 := hS0.out _ hBxA.out hGiA.out; clear hgrowa hata hlta howna
            refine hK.out _ _ (by (first | exact h10 | exact h9 | exact hS0.out _ (by (repeat (first | (with_reducible exact hBxM.out) | (with_reducible apply Boxes.drew) | (with_reducible apply Boxes.alloc)))) (by (repeat (first | (with_reducible exact hGiM.out) | (with_reducible apply Whole.drew1) | (with_reducible apply Whole.more)))))) (fun hHeld => ?_)
            clear hK K
            try simp only [Act.put, List.setIfInBounds_toArray, List.set_cons_zero, List.set_cons_succ]
            refine wpAnyH_take (i := 12) (oi := _) (v := ?_) rfl (by kernel_rfl) (by kernel_rfl) (by kernel_rfl) (fun _ _ _ h => h) (Or.inl ⟨by rfl, ?_⟩) (by assumption) ?_
            rotate_left
            · intro W' hSw
              try dsimp only at hSw
              go_simp
              try with_reducible rfl
            try simp only [Act.put, List.setIfInBounds_toArray, List.set_cons_zero, List.set_cons_succ]
            refine wpAnyH_ready (rs := [13]) (by kernel_rfl) (by simp) ?_
            refine AllReadyH.cons (o := _) rfl (fun K hK => ?_) AllReadyH.nil
            go_simp
            refine hK.out _ _ (by (first | exact h10 | exact h9 | exact hS0.out _ (by (repeat (first | (with_reducible exact hBxM.out) | (with_reducible apply Boxes.drew) | (with_reducible apply Boxes.alloc)))) (by (repeat (first | (with_reducible exact hGiM.out) | (with_reducible apply Whole.drew1) | (with_reducible apply Whole.more)))))) (fun hHeld => ?_)
            clear hK K
            try simp only [Act.put, List.setIfInBounds_toArray, List.set_cons_zero, List.set_cons_succ]
            refine wpAnyH_done (by kernel_rfl) ?_ _
            refine NoPanic.normal ?_
            obtain ⟨x0, hx0'⟩ := hBr.out
            have e1 := hBxA.out.br.at_ hx0'
            have e2 := hBxA.out.br.free p
            have e3 := hGiA.out.at_ (i := 0) rfl
            have hRes := Lib.hid (hBxA.out.putR p (.int .i64 (q : Int)))
            have hTbE := Lib.hid (hTb9.out.off (p := ⟨gr, p, none⟩) (show gr < A by have := hBxA.out.lo; omega) (.int .i64 (q : Int)))
            rw [hUq.out] at hRes
            clear h9 h10 d2 d3 hx0'
            go_wp2_with fail
            go_roundw
            case rel => exact ⟨k + 1, _, _, by omega, by go_num, Lib.hid (by rw [List.length_set]; exact hlen2.out), hRes, hTbE⟩
            case measure => simp [intOf]; omega
          · go_simp
            refine hK.out _ _ (by (first | exact h10 | exact h9 | exact hS0.out _ (by (repeat (first | (with_reducible exact hBxM.out) | (with_reducible apply Boxes.drew) | (with_reducible apply Boxes.alloc)))) (by (repeat (first | (with_reducible exact hGiM.out) | (with_reducible apply Whole.drew1) | (with_reducible apply Whole.more)))))) (fun hHeld => ?_)
            clear hK K
            try simp only [Act.put, List.setIfInBounds_toArray, List.set_cons_zero, List.set_cons_succ]
            refine wpAnyH_ready (rs := [5]) (by kernel_rfl) (by simp) ?_
            refine AllReadyH.cons (o := _) rfl (fun K hK => ?_) AllReadyH.nil
            go_simp
            refine hK.out _ _ (by (first | exact h10 | exact h9 | exact hS0.out _ (by (repeat (first | (with_reducible exact hBxM.out) | (with_reducible apply Boxes.drew) | (with_reducible apply Boxes.alloc)))) (by (repeat (first | (with_reducible exact hGiM.out) | (with_reducible apply Whole.drew1) | (with_reducible apply Whole.more)))))) (fun hHeld => ?_)
            clear hK K
            try simp only [Act.put, List.setIfInBounds_toArray, List.set_cons_zero, List.set_cons_succ]
            refine wpAnyH_ready (rs := [11]) (by kernel_rfl) (by simp) ?_
            refine AllReadyH.cons (o := _) rfl (fun K hK => ?_) AllReadyH.nil
            refine step_append_lies _ (by rfl) _ _ _ (by rfl) A 71 j0 (.agg #[.int .i64 0, .int .i64 0]) 2 16 Try.underlying66 hj hy0 hy1 hy2 rfl (by decide) _ (roomN_ xs k q) _ (by rfl) (Tab.row (by (repeat (first | (with_reducible exact hTbM.out) | (with_reducible apply Tab.drew) | (with_reducible apply Tab.alloc)))) q _ hvq.out) _ 1 1 (#[Value.int .i64 t0, .int .i64 t1] : Array Value).toList (by rfl) rfl (Whole.news (t := 71) (by (repeat (first | (with_reducible exact Whole.made _ _ _ rfl) | (with_reducible exact Whole.made _ _ _ (by simp)) | (with_reducible apply Whole.drew1) | (with_reducible apply Whole.more))))) (two_ints _ _) (by omega) (by unfold maxLen; omega) (by omega) (Tab.le (by (repeat (first | (with_reducible exact hTbM.out) | (with_reducible apply Tab.drew) | (with_reducible apply Tab.alloc))))) _ rfl ?_; intro ga ca wa howna hgrowa hata hlta; have hTb9 := Lib.hid (Tab.put (by (repeat (first | (with_reducible exact hTbM.out) | (with_reducible apply Tab.drew) | (with_reducible apply Tab.alloc)))) hvq.out rfl (n' := roomN_ xs (k + 1)) (c' := roomC_ xs (k + 1)) (hThis.out _ _ howna) hgrowa (fun g' e => by injection e with e; rw [← e]; exact hata) hOther.out); have hBx9 := Lib.hid (Boxes.grown (by (repeat (first | (with_reducible exact hBxM.out) | (with_reducible apply Boxes.drew) | (with_reducible apply Boxes.alloc)))) hgrowa hRb.out); have hGi9 := Lib.hid (Whole.besideRow (by (repeat (first | (with_reducible exact hGiM.out) | (with_reducible apply Whole.drew1) | (with_reducible apply Whole.more)))) (Tab.row (by (repeat (first | (with_reducible exact hTbM.out) | (with_reducible apply Tab.drew) | (with_reducible apply Tab.alloc)))) q _ hvq.out) (by decide) hgrowa); have hTo9 := Lib.hid (Tab.top2 (by (repeat (first | (with_reducible exact hTbM.out) | (with_reducible apply Tab.drew) | (with_reducible apply Tab.alloc)))) hvq.out hgrowa); have hBxA := Lib.hid (hBx9.out.high (p := ⟨tg, q, none⟩) hTg.out (.slice (some ⟨ga, 0, none⟩) (roomN_ xs k q + 1) ca)); have hGiA := Lib.hid (hGi9.out.apart (p := ⟨tg, q, none⟩) (whole_ne_row hGi9.out hTo9.out (by decide)) (.slice (some ⟨ga, 0, none⟩) (roomN_ xs k q + 1) ca)); obtain ⟨d2, d3⟩ := hCt9.out wa hTo9.out; have h9 := hS0.out wa hBx9.out hGi9.out; have h10 := hS0.out _ hBxA.out hGiA.out; clear hgrowa hata hlta howna
            refine hK.out _ _ (by (first | exact h10 | exact h9 | exact hS0.out _ (by (repeat (first | (with_reducible exact hBxM.out) | (with_reducible apply Boxes.drew) | (with_reducible apply Boxes.alloc)))) (by (repeat (first | (with_reducible exact hGiM.out) | (with_reducible apply Whole.drew1) | (with_reducible apply Whole.more)))))) (fun hHeld => ?_)
            clear hK K
            try simp only [Act.put, List.setIfInBounds_toArray, List.set_cons_zero, List.set_cons_succ]
            refine wpAnyH_take (i := 12) (oi := _) (v := ?_) rfl (by kernel_rfl) (by kernel_rfl) (by kernel_rfl) (fun _ _ _ h => h) (Or.inl ⟨by rfl, ?_⟩) (by assumption) ?_
            rotate_left
            · intro W' hSw
              try dsimp only at hSw
              go_simp
              try with_reducible rfl
            try simp only [Act.put, List.setIfInBounds_toArray, List.set_cons_zero, List.set_cons_succ]
            refine wpAnyH_ready (rs := [13]) (by kernel_rfl) (by simp) ?_
            refine AllReadyH.cons (o := _) rfl (fun K hK => ?_) AllReadyH.nil
            go_simp
            refine hK.out _ _ (by (first | exact h10 | exact h9 | exact hS0.out _ (by (repeat (first | (with_reducible exact hBxM.out) | (with_reducible apply Boxes.drew) | (with_reducible apply Boxes.alloc)))) (by (repeat (first | (with_reducible exact hGiM.out) | (with_reducible apply Whole.drew1) | (with_reducible apply Whole.more)))))) (fun hHeld => ?_)
            clear hK K
            try simp only [Act.put, List.setIfInBounds_toArray, List.set_cons_zero, List.set_cons_succ]
            refine wpAnyH_done (by kernel_rfl) ?_ _
            refine NoPanic.normal ?_
            obtain ⟨x0, hx0'⟩ := hBr.out
            have e1 := hBxA.out.br.at_ hx0'
            have e2 := hBxA.out.br.free p
            have e3 := hGiA.out.at_ (i := 0) rfl
            have hRes := Lib.hid (hBxA.out.putR p (.int .i64 (q : Int)))
            have hTbE := Lib.hid (hTb9.out.off (p := ⟨gr, p, none⟩) (show gr < A by have := hBxA.out.lo; omega) (.int .i64 (q : Int)))
            rw [hUq.out] at hRes
            clear h9 h10 d2 d3 hx0'
            go_wp2_with fail
            go_roundw
            case rel => exact ⟨k + 1, _, _, by omega, by go_num, Lib.hid (by rw [List.length_set]; exact hlen2.out), hRes, hTbE⟩
            case measure => simp [intOf]; omega
        · have dq : ((q : Int) == (vs.length : Int)) = true := by rw [beq_iff_eq]; omega
          obtain ⟨z1, z2⟩ := hNone.out k vs.length (by rw [hVl.out]; exact Nat.le_refl _)
          have hZ1 := Lib.hid z1
          have hZ2 := Lib.hid z2
          have hQe := Lib.hid (show q = vs.length by omega)
          have hLe5 := hTb5.out.le
          clear z1 z2 hq1 hqR
          go_wp2_with (at_builtin; refine wpList_append_own _ rfl _ _ _ rfl A 66 k0 (.slice none 0 0) 1 24 Try.underlying77 hk0 hx0 hx1 hx2 rfl (by decide) _ vs.length _ rfl (hTb5.out.top.alloc _) ⟨w5.heap.size, 0, none⟩ 1 1 [.slice none 0 0] rfl rfl (news_nil w5 _) (one_slc _ rfl) (by unfold maxLen; omega) (by omega) (by rw [World.size_alloc]; omega) ?_; intro v8 w8 hown8 hgrow8 hnil8; obtain ⟨a8, c8, rfl⟩ := ownRow_slice hown8; have hBx8 := Lib.hid ((hBx5.out.alloc _).grown hgrow8 (fun b hb => (hTb5.out.top.lt b hb).1)); have hTb8 := Lib.hid ((hTb5.out.alloc _).more hown8 hgrow8 hZ1.out hZ2.out); have hGi8 := Lib.hid ((hGi5.out.more _).besideRow (hTb5.out.top.alloc _) (by decide) hgrow8); have b8 := hBx8.out.bt.at_ (i := 0) rfl; have f8 := hBx8.out.bt.free 0; clear hown8 hgrow8 hnil8)
          have hBxM := Lib.hid (hBx8.out.putT (.slice a8 (vs.length + 1) c8))
          have hTbM := Lib.hid (hTb8.out.off (p := ⟨gt, 0, none⟩) (show gt < A by have := hBx8.out.lo; omega) (.slice a8 (vs.length + 1) c8))
          have hGiM := Lib.hid (hGi8.out.apart (p := ⟨gt, 0, none⟩) (show gi ≠ gt by have := hBx8.out.lo; have := hGiA0.out; omega) (.slice a8 (vs.length + 1) c8))
          generalize w8.setCell ⟨gt, 0, none⟩ (.slice a8 (vs.length + 1) c8) = W9 at *
          have hl8 : vs.length + 1 = (vs ++ [Value.slice none 0 0]).length := by rw [List.length_append]; rfl
          rw [hl8] at hBxM hTbM ⊢
          clear hl8
          obtain ⟨vr, hvq0⟩ : ∃ vr, (vs ++ [Value.slice none 0 0])[q]? = some vr := ⟨.slice none 0 0, by rw [hQe.out, List.getElem?_append_right (Nat.le_refl _), Nat.sub_self]; rfl⟩
          have hvq := Lib.hid hvq0
          clear hvq0
          have hql : Hid (q < (vs ++ [Value.slice none 0 0]).length) := Lib.hid (by rw [List.length_append, hQe.out]; exact Nat.lt_succ_self _)
          have hlen2 : Hid ((vs ++ [Value.slice none 0 0]).length = cntR (roomsL xs (k + 1))) := Lib.hid (by rw [hCk.out, ← hQ.out, ← hVl.out, List.length_append, hQe.out]; show vs.length + 1 = _; omega)
          clear hBx5 hTb5 hGi5 hBx8 hTb8 hGi8 b8 f8 g5 dq hQe hVl hLe5
          generalize vs ++ [Value.slice none 0 0] = vs2 at *
          have hRow := Lib.hid (hTbM.out.row q _ hvq.out)
          obtain ⟨av, cv, hvr⟩ := ownRow_slice hRow.out
          subst hvr
          obtain ⟨tg, tc, htv, hA1, htl, htc1, htc2⟩ := row_open2 hTbM.out.top (by have := hql.out; omega)
          have hTg := Lib.hid hA1
          injection htv with ht1 ht2 ht3
          subst ht1
          have ht4 := ht3.symm
          subst ht4
          have hRb : Hid (∀ b, (Value.slice av (roomN_ xs k q) cv).ownBlock = some b → A ≤ b) := Lib.hid fun b hb => (hRow.out.lt b hb).1
          have hS0 : Hid (∀ W', Boxes w1 gl gr gt g2 A (.slice (some ⟨gA, 0, none⟩) n cA) (.slice (some ⟨tg, 0, none⟩) vs2.length tc) rs os W' → Whole W' gi 2 #[.int .i64 (p : Int)] → (W'.cell? ⟨gt, 0, none⟩ = some (.slice (some ⟨tg, 0, none⟩) vs2.length tc) ∧ W'.cell? ⟨gl, 0, none⟩ = some (.slice (some ⟨gA, 0, none⟩) n cA) ∧ W'.cell? ⟨gi, 0, none⟩ = some (.int .i64 (p : Int)) ∧ W'.cell? ⟨gA, p * 2, none⟩ = some (.int .i64 t0) ∧ W'.cell? ⟨gA, p * 2 + 1, none⟩ = some (.int .i64 t1))) := Lib.hid fun W' hx hg => ⟨hx.bt.at_ (i := 0) rfl, hx.bl.at_ (i := 0) rfl, hg.at_ (i := 0) rfl, (hTp.out W' hx.be).1, (hTp.out W' hx.be).2⟩
          have hCt : Hid (∀ W', Below W9.heap.size W9 W' → W'.cell? ⟨tg, q, none⟩ = some (.slice av (roomN_ xs k q) cv)) := Lib.hid fun W' hb => ((tab_row_kept hTbM.out.top hb).cellAt q (by have := hql.out; omega)).trans hvq.out
          have hCt9 : Hid (∀ (wa : World), wa.ownsRow A 66 1 (.slice (some ⟨tg, 0, none⟩) vs2.length tc) vs2.length vs2 → wa.cell? ⟨tg, q, none⟩ = some (.slice av (roomN_ xs k q) cv) ∧ wa.frozen? ⟨tg, q, none⟩ = false) := Lib.hid fun wa ht => ⟨(ht.cellAt q (by have := hql.out; omega)).trans hvq.out, ht.frozenAt q⟩
          have hR0 := Below.refl W9.heap.size W9
          obtain ⟨c1, c4, c5, c6, c7⟩ := hS0.out W9 hBxM.out hGiM.out
          have c2 := hCt.out W9 hR0
          have c3 := hCt.out _ (below_alloc hR0 (.cells #[.int .i64 t0, .int .i64 t1] 71))
          have l2 : (q : Int) < (vs2.length : Int) := by have := hql.out; omega
          have hLq := hNl.out k q
          go_wp2_with fail
          refine wp_region_noPanic ?_
          refine wp_region_held_drew (S := (fun W' => W'.cell? ⟨gt, 0, none⟩ = some (.slice (some ⟨tg, 0, none⟩) vs2.length tc) ∧ W'.cell? ⟨gl, 0, none⟩ = some (.slice (some ⟨gA, 0, none⟩) n cA) ∧ W'.cell? ⟨gi, 0, none⟩ = some (.int .i64 (p : Int)) ∧ W'.cell? ⟨gA, p * 2, none⟩ = some (.int .i64 t0) ∧ W'.cell? ⟨gA, p * 2 + 1, none⟩ = some (.int .i64 t1))) (by kernel_rfl) (by (first | exact h10 | exact h9 | exact hS0.out _ (by (repeat (first | (with_reducible exact hBxM.out) | (with_reducible apply Boxes.drew) | (with_reducible apply Boxes.alloc)))) (by (repeat (first | (with_reducible exact hGiM.out) | (with_reducible apply Whole.drew1) | (with_reducible apply Whole.more)))))) (fun hHeld => ?_)
          refine wpAnyH_take (i := 0) (oi := _) (v := ?_) rfl (by kernel_rfl) (by kernel_rfl) (by kernel_rfl) (fun _ _ _ h => h) (Or.inl ⟨by rfl, ?_⟩) (by assumption) ?_
          rotate_left
          · intro W' hSw
            try dsimp only at hSw
            go_simp
            try with_reducible rfl
          try simp only [Act.put, List.setIfInBounds_toArray, List.set_cons_zero, List.set_cons_succ]
          refine wpAnyH_take (i := 1) (oi := _) (v := ?_) rfl (by kernel_rfl) (by kernel_rfl) (by kernel_rfl) (fun _ _ _ h => h) (Or.inl ⟨by rfl, ?_⟩) (by assumption) ?_
          rotate_left
          · intro W' hSw
            try dsimp only at hSw
            go_simp
            try with_reducible rfl
          try simp only [Act.put, List.setIfInBounds_toArray, List.set_cons_zero, List.set_cons_succ]
          refine wpAnyH_take (i := 2) (oi := _) (v := ?_) rfl (by kernel_rfl) (by kernel_rfl) (by kernel_rfl) (fun _ _ _ h => h) (Or.inl ⟨by rfl, ?_⟩) (by assumption) ?_
          rotate_left
          · intro W' hSw
            try dsimp only at hSw
            go_simp
            try with_reducible rfl
          try simp only [Act.put, List.setIfInBounds_toArray, List.set_cons_zero, List.set_cons_succ]
          refine wpAnyH_take (i := 3) (oi := _) (v := ?_) rfl (by kernel_rfl) (by kernel_rfl) (by kernel_rfl) (fun _ _ _ h => h) (Or.inl ⟨by rfl, ?_⟩) (by assumption) ?_
          rotate_left
          · intro W' hSw
            try dsimp only at hSw
            go_simp
            try with_reducible rfl
          try simp only [Act.put, List.setIfInBounds_toArray, List.set_cons_zero, List.set_cons_succ]
          refine wpAnyH_take (i := 4) (oi := _) (v := ?_) rfl (by kernel_rfl) (by kernel_rfl) (by kernel_rfl) (fun _ _ _ h => h) (Or.inl ⟨by rfl, ?_⟩) (by assumption) ?_
          rotate_left
          · intro W' hSw
            try dsimp only at hSw
            go_simp
            try with_reducible rfl
          try simp only [Act.put, List.setIfInBounds_toArray, List.set_cons_zero, List.set_cons_succ]
          refine wpAnyH_take (i := 6) (oi := _) (v := ?_) rfl (by kernel_rfl) (by kernel_rfl) (by kernel_rfl) (fun _ _ _ h => h) (Or.inl ⟨by rfl, ?_⟩) (by assumption) ?_
          rotate_left
          · intro W' hSw
            try dsimp only at hSw
            go_simp
            try with_reducible rfl
          try simp only [Act.put, List.setIfInBounds_toArray, List.set_cons_zero, List.set_cons_succ]
          refine wpAnyH_take (i := 7) (oi := _) (v := ?_) rfl (by kernel_rfl) (by kernel_rfl) (by kernel_rfl) (fun _ _ _ h => h) (Or.inl ⟨by rfl, ?_⟩) (by assumption) ?_
          rotate_left
          · intro W' hSw
            try dsimp only at hSw
            go_simp
            try with_reducible rfl
          try simp only [Act.put, List.setIfInBounds_toArray, List.set_cons_zero, List.set_cons_succ]
          refine wpAnyH_take (i := 8) (oi := _) (v := ?_) rfl (by kernel_rfl) (by kernel_rfl) (by kernel_rfl) (fun _ _ _ h => h) (Or.inl ⟨by rfl, ?_⟩) (by assumption) ?_
          rotate_left
          · intro W' hSw
            try dsimp only at hSw
            go_simp
            try with_reducible rfl
          try simp only [Act.put, List.setIfInBounds_toArray, List.set_cons_zero, List.set_cons_succ]
          refine wpAnyH_take (i := 9) (oi := _) (v := ?_) rfl (by kernel_rfl) (by kernel_rfl) (by kernel_rfl) (fun _ _ _ h => h) (Or.inl ⟨by rfl, ?_⟩) (by assumption) ?_
          rotate_left
          · intro W' hSw
            try dsimp only at hSw
            go_simp
            try with_reducible rfl
          try simp only [Act.put, List.setIfInBounds_toArray, List.set_cons_zero, List.set_cons_succ]
          refine wpAnyH_ready (rs := [5, 10]) (by kernel_rfl) (by simp) ?_
          refine AllReadyH.cons (o := _) rfl (fun K hK => ?_) (AllReadyH.cons (o := _) rfl (fun K hK => ?_) AllReadyH.nil)
          · go_simp
            refine hK.out _ _ (by (first | exact h10 | exact h9 | exact hS0.out _ (by (repeat (first | (with_reducible exact hBxM.out) | (with_reducible apply Boxes.drew) | (with_reducible apply Boxes.alloc)))) (by (repeat (first | (with_reducible exact hGiM.out) | (with_reducible apply Whole.drew1) | (with_reducible apply Whole.more)))))) (fun hHeld => ?_)
            clear hK K
            try simp only [Act.put, List.setIfInBounds_toArray, List.set_cons_zero, List.set_cons_succ]
            refine wpAnyH_ready (rs := [10]) (by kernel_rfl) (by simp) ?_
            refine AllReadyH.cons (o := _) rfl (fun K hK => ?_) AllReadyH.nil
            go_simp
            refine hK.out _ _ (by (first | exact h10 | exact h9 | exact hS0.out _ (by (repeat (first | (with_reducible exact hBxM.out) | (with_reducible apply Boxes.drew) | (with_reducible apply Boxes.alloc)))) (by (repeat (first | (with_reducible exact hGiM.out) | (with_reducible apply Whole.drew1) | (with_reducible apply Whole.more)))))) (fun hHeld => ?_)
            clear hK K
            try simp only [Act.put, List.setIfInBounds_toArray, List.set_cons_zero, List.set_cons_succ]
            refine wpAnyH_ready (rs := [11]) (by kernel_rfl) (by simp) ?_
            refine AllReadyH.cons (o := _) rfl (fun K hK => ?_) AllReadyH.nil
            refine step_append_lies _ (by rfl) _ _ _ (by rfl) A 71 j0 (.agg #[.int .i64 0, .int .i64 0]) 2 16 Try.underlying66 hj hy0 hy1 hy2 rfl (by decide) _ (roomN_ xs k q) _ (by rfl) (Tab.row (by (repeat (first | (with_reducible exact hTbM.out) | (with_reducible apply Tab.drew) | (with_reducible apply Tab.alloc)))) q _ hvq.out) _ 1 1 (#[Value.int .i64 t0, .int .i64 t1] : Array Value).toList (by rfl) rfl (Whole.news (t := 71) (by (repeat (first | (with_reducible exact Whole.made _ _ _ rfl) | (with_reducible exact Whole.made _ _ _ (by simp)) | (with_reducible apply Whole.drew1) | (with_reducible apply Whole.more))))) (two_ints _ _) (by omega) (by unfold maxLen; omega) (by omega) (Tab.le (by (repeat (first | (with_reducible exact hTbM.out) | (with_reducible apply Tab.drew) | (with_reducible apply Tab.alloc))))) _ rfl ?_; intro ga ca wa howna hgrowa hata hlta; have hTb9 := Lib.hid (Tab.put (by (repeat (first | (with_reducible exact hTbM.out) | (with_reducible apply Tab.drew) | (with_reducible apply Tab.alloc)))) hvq.out rfl (n' := roomN_ xs (k + 1)) (c' := roomC_ xs (k + 1)) (hThis.out _ _ howna) hgrowa (fun g' e => by injection e with e; rw [← e]; exact hata) hOther.out); have hBx9 := Lib.hid (Boxes.grown (by (repeat (first | (with_reducible exact hBxM.out) | (with_reducible apply Boxes.drew) | (with_reducible apply Boxes.alloc)))) hgrowa hRb.out); have hGi9 := Lib.hid (Whole.besideRow (by (repeat (first | (with_reducible exact hGiM.out) | (with_reducible apply Whole.drew1) | (with_reducible apply Whole.more)))) (Tab.row (by (repeat (first | (with_reducible exact hTbM.out) | (with_reducible apply Tab.drew) | (with_reducible apply Tab.alloc)))) q _ hvq.out) (by decide) hgrowa); have hTo9 := Lib.hid (Tab.top2 (by (repeat (first | (with_reducible exact hTbM.out) | (with_reducible apply Tab.drew) | (with_reducible apply Tab.alloc)))) hvq.out hgrowa); have hBxA := Lib.hid (hBx9.out.high (p := ⟨tg, q, none⟩) hTg.out (.slice (some ⟨ga, 0, none⟩) (roomN_ xs k q + 1) ca)); have hGiA := Lib.hid (hGi9.out.apart (p := ⟨tg, q, none⟩) (whole_ne_row hGi9.out hTo9.out (by decide)) (.slice (some ⟨ga, 0, none⟩) (roomN_ xs k q + 1) ca)); obtain ⟨d2, d3⟩ := hCt9.out wa hTo9.out; have h9 := hS0.out wa hBx9.out hGi9.out; have h10 := hS0.out _ hBxA.out hGiA.out; clear hgrowa hata hlta howna
            refine hK.out _ _ (by (first | exact h10 | exact h9 | exact hS0.out _ (by (repeat (first | (with_reducible exact hBxM.out) | (with_reducible apply Boxes.drew) | (with_reducible apply Boxes.alloc)))) (by (repeat (first | (with_reducible exact hGiM.out) | (with_reducible apply Whole.drew1) | (with_reducible apply Whole.more)))))) (fun hHeld => ?_)
            clear hK K
            try simp only [Act.put, List.setIfInBounds_toArray, List.set_cons_zero, List.set_cons_succ]
            refine wpAnyH_take (i := 12) (oi := _) (v := ?_) rfl (by kernel_rfl) (by kernel_rfl) (by kernel_rfl) (fun _ _ _ h => h) (Or.inl ⟨by rfl, ?_⟩) (by assumption) ?_
            rotate_left
            · intro W' hSw
              try dsimp only at hSw
              go_simp
              try with_reducible rfl
            try simp only [Act.put, List.setIfInBounds_toArray, List.set_cons_zero, List.set_cons_succ]
            refine wpAnyH_ready (rs := [13]) (by kernel_rfl) (by simp) ?_
            refine AllReadyH.cons (o := _) rfl (fun K hK => ?_) AllReadyH.nil
            go_simp
            refine hK.out _ _ (by (first | exact h10 | exact h9 | exact hS0.out _ (by (repeat (first | (with_reducible exact hBxM.out) | (with_reducible apply Boxes.drew) | (with_reducible apply Boxes.alloc)))) (by (repeat (first | (with_reducible exact hGiM.out) | (with_reducible apply Whole.drew1) | (with_reducible apply Whole.more)))))) (fun hHeld => ?_)
            clear hK K
            try simp only [Act.put, List.setIfInBounds_toArray, List.set_cons_zero, List.set_cons_succ]
            refine wpAnyH_done (by kernel_rfl) ?_ _
            refine NoPanic.normal ?_
            obtain ⟨x0, hx0'⟩ := hBr.out
            have e1 := hBxA.out.br.at_ hx0'
            have e2 := hBxA.out.br.free p
            have e3 := hGiA.out.at_ (i := 0) rfl
            have hRes := Lib.hid (hBxA.out.putR p (.int .i64 (q : Int)))
            have hTbE := Lib.hid (hTb9.out.off (p := ⟨gr, p, none⟩) (show gr < A by have := hBxA.out.lo; omega) (.int .i64 (q : Int)))
            rw [hUq.out] at hRes
            clear h9 h10 d2 d3 hx0'
            go_wp2_with fail
            go_roundw
            case rel => exact ⟨k + 1, _, _, by omega, by go_num, Lib.hid (by rw [List.length_set]; exact hlen2.out), hRes, hTbE⟩
            case measure => simp [intOf]; omega
          · go_simp
            refine hK.out _ _ (by (first | exact h10 | exact h9 | exact hS0.out _ (by (repeat (first | (with_reducible exact hBxM.out) | (with_reducible apply Boxes.drew) | (with_reducible apply Boxes.alloc)))) (by (repeat (first | (with_reducible exact hGiM.out) | (with_reducible apply Whole.drew1) | (with_reducible apply Whole.more)))))) (fun hHeld => ?_)
            clear hK K
            try simp only [Act.put, List.setIfInBounds_toArray, List.set_cons_zero, List.set_cons_succ]
            refine wpAnyH_ready (rs := [5]) (by kernel_rfl) (by simp) ?_
            refine AllReadyH.cons (o := _) rfl (fun K hK => ?_) AllReadyH.nil
            go_simp
            refine hK.out _ _ (by (first | exact h10 | exact h9 | exact hS0.out _ (by (repeat (first | (with_reducible exact hBxM.out) | (with_reducible apply Boxes.drew) | (with_reducible apply Boxes.alloc)))) (by (repeat (first | (with_reducible exact hGiM.out) | (with_reducible apply Whole.drew1) | (with_reducible apply Whole.more)))))) (fun hHeld => ?_)
            clear hK K
            try simp only [Act.put, List.setIfInBounds_toArray, List.set_cons_zero, List.set_cons_succ]
            refine wpAnyH_ready (rs := [11]) (by kernel_rfl) (by simp) ?_
            refine AllReadyH.cons (o := _) rfl (fun K hK => ?_) AllReadyH.nil
            refine step_append_lies _ (by rfl) _ _ _ (by rfl) A 71 j0 (.agg #[.int .i64 0, .int .i64 0]) 2 16 Try.underlying66 hj hy0 hy1 hy2 rfl (by decide) _ (roomN_ xs k q) _ (by rfl) (Tab.row (by (repeat (first | (with_reducible exact hTbM.out) | (with_reducible apply Tab.drew) | (with_reducible apply Tab.alloc)))) q _ hvq.out) _ 1 1 (#[Value.int .i64 t0, .int .i64 t1] : Array Value).toList (by rfl) rfl (Whole.news (t := 71) (by (repeat (first | (with_reducible exact Whole.made _ _ _ rfl) | (with_reducible exact Whole.made _ _ _ (by simp)) | (with_reducible apply Whole.drew1) | (with_reducible apply Whole.more))))) (two_ints _ _) (by omega) (by unfold maxLen; omega) (by omega) (Tab.le (by (repeat (first | (with_reducible exact hTbM.out) | (with_reducible apply Tab.drew) | (with_reducible apply Tab.alloc))))) _ rfl ?_; intro ga ca wa howna hgrowa hata hlta; have hTb9 := Lib.hid (Tab.put (by (repeat (first | (with_reducible exact hTbM.out) | (with_reducible apply Tab.drew) | (with_reducible apply Tab.alloc)))) hvq.out rfl (n' := roomN_ xs (k + 1)) (c' := roomC_ xs (k + 1)) (hThis.out _ _ howna) hgrowa (fun g' e => by injection e with e; rw [← e]; exact hata) hOther.out); have hBx9 := Lib.hid (Boxes.grown (by (repeat (first | (with_reducible exact hBxM.out) | (with_reducible apply Boxes.drew) | (with_reducible apply Boxes.alloc)))) hgrowa hRb.out); have hGi9 := Lib.hid (Whole.besideRow (by (repeat (first | (with_reducible exact hGiM.out) | (with_reducible apply Whole.drew1) | (with_reducible apply Whole.more)))) (Tab.row (by (repeat (first | (with_reducible exact hTbM.out) | (with_reducible apply Tab.drew) | (with_reducible apply Tab.alloc)))) q _ hvq.out) (by decide) hgrowa); have hTo9 := Lib.hid (Tab.top2 (by (repeat (first | (with_reducible exact hTbM.out) | (with_reducible apply Tab.drew) | (with_reducible apply Tab.alloc)))) hvq.out hgrowa); have hBxA := Lib.hid (hBx9.out.high (p := ⟨tg, q, none⟩) hTg.out (.slice (some ⟨ga, 0, none⟩) (roomN_ xs k q + 1) ca)); have hGiA := Lib.hid (hGi9.out.apart (p := ⟨tg, q, none⟩) (whole_ne_row hGi9.out hTo9.out (by decide)) (.slice (some ⟨ga, 0, none⟩) (roomN_ xs k q + 1) ca)); obtain ⟨d2, d3⟩ := hCt9.out wa hTo9.out; have h9 := hS0.out wa hBx9.out hGi9.out; have h10 := hS0.out _ hBxA.out hGiA.out; clear hgrowa hata hlta howna
            refine hK.out _ _ (by (first | exact h10 | exact h9 | exact hS0.out _ (by (repeat (first | (with_reducible exact hBxM.out) | (with_reducible apply Boxes.drew) | (with_reducible apply Boxes.alloc)))) (by (repeat (first | (with_reducible exact hGiM.out) | (with_reducible apply Whole.drew1) | (with_reducible apply Whole.more)))))) (fun hHeld => ?_)
            clear hK K
            try simp only [Act.put, List.setIfInBounds_toArray, List.set_cons_zero, List.set_cons_succ]
            refine wpAnyH_take (i := 12) (oi := _) (v := ?_) rfl (by kernel_rfl) (by kernel_rfl) (by kernel_rfl) (fun _ _ _ h => h) (Or.inl ⟨by rfl, ?_⟩) (by assumption) ?_
            rotate_left
            · intro W' hSw
              try dsimp only at hSw
              go_simp
              try with_reducible rfl
            try simp only [Act.put, List.setIfInBounds_toArray, List.set_cons_zero, List.set_cons_succ]
            refine wpAnyH_ready (rs := [13]) (by kernel_rfl) (by simp) ?_
            refine AllReadyH.cons (o := _) rfl (fun K hK => ?_) AllReadyH.nil
            go_simp
            refine hK.out _ _ (by (first | exact h10 | exact h9 | exact hS0.out _ (by (repeat (first | (with_reducible exact hBxM.out) | (with_reducible apply Boxes.drew) | (with_reducible apply Boxes.alloc)))) (by (repeat (first | (with_reducible exact hGiM.out) | (with_reducible apply Whole.drew1) | (with_reducible apply Whole.more)))))) (fun hHeld => ?_)
            clear hK K
            try simp only [Act.put, List.setIfInBounds_toArray, List.set_cons_zero, List.set_cons_succ]
            refine wpAnyH_done (by kernel_rfl) ?_ _
            refine NoPanic.normal ?_
            obtain ⟨x0, hx0'⟩ := hBr.out
            have e1 := hBxA.out.br.at_ hx0'
            have e2 := hBxA.out.br.free p
            have e3 := hGiA.out.at_ (i := 0) rfl
            have hRes := Lib.hid (hBxA.out.putR p (.int .i64 (q : Int)))
            have hTbE := Lib.hid (hTb9.out.off (p := ⟨gr, p, none⟩) (show gr < A by have := hBxA.out.lo; omega) (.int .i64 (q : Int)))
            rw [hUq.out] at hRes
            clear h9 h10 d2 d3 hx0'
            go_wp2_with fail
            go_roundw
            case rel => exact ⟨k + 1, _, _, by omega, by go_num, Lib.hid (by rw [List.length_set]; exact hlen2.out), hRes, hTbE⟩
            case measure => simp [intOf]; omega
      · obtain rfl : k = n := by omega
        obtain ⟨ta, tcap, rfl⟩ := ownRow_slice hTb.out.top
        have g5 := hBx.out.bt.at_ (i := 0) rfl
        have hR := Lib.hid (fun m => hY.out (wr.drewN m) gr (below_on hB1.out (Nat.le_refl _) (below_drewN hBx.out.be m)) (by have := hBx.out.lo; have := hAll.out; omega) hBx.out.br.size (hBx.out.br.draws m))
        rw [← hVl.out] at hR
        go_wp2_with fail
        go_quiet (fail)
        go_wp2_with fail
        first | exact hR.out _ | (go_ret3; exact hR.out _)
end Go.Proofs.Ytehobcmjjcmfnaa
