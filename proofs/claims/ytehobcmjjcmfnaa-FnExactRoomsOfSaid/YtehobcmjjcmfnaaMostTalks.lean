/- Contracts: as many talks as can be heard; the program's and the model's, alike. -/
import Derived.Test.YtehobcmjjcmfnaaGreedyPure
import Derived.Test.YtehobcmjjcmfnaaTwo
import Derived.Test.YtehobcmjjcmfnaaFillI
namespace Go.Proofs.Ytehobcmjjcmfnaa
open Go.RowKit Go.Lst Srt Go.Shelf Greedy

def talkAt (xs : List Int) (i : Nat) : Int × Int := (xs.getD (2 * i) 0, xs.getD (2 * i + 1) 0)
def endK (xs : List Int) (x : Int) : Int := xs.getD (2 * x.toNat + 1) 0
def endF (xs : List Int) (k : Nat) : Nat := (Srt.insTo (ltK (endK xs)) (xs.length / 2) k).toNat
def heard (xs : List Int) (k : Nat) : List Nat := greedy (talkAt xs) (endF xs) k
def heardL (xs : List Int) : List Int := if talksOk xs then (heard xs (xs.length / 2)).map (fun (j : Nat) => (j : Int)) else []
def plC (L : List Nat) : List Value := L.map (fun (j : Nat) => Value.int .i64 (j : Int))
def tkC (xs : List Int) (L : List Nat) : List Value := (flatP (L.map (talkAt xs))).map (Value.int .i64)
theorem plC_snoc (L : List Nat) (p : Nat) : plC (L ++ [p]) = plC L ++ [.int .i64 (p : Int)] := by simp [plC]
theorem tkC_snoc (xs : List Int) (L : List Nat) (p : Nat) : tkC xs (L ++ [p]) = tkC xs L ++ [.int .i64 (xs.getD (2 * p) 0), .int .i64 (xs.getD (2 * p + 1) 0)] := by
  unfold tkC
  rw [List.map_append, List.map_singleton, flatP_snoc, List.map_append]; rfl
theorem heard_len (xs : List Int) (k : Nat) : (heard xs k).length ≤ k := greedy_len _ _ k
theorem heardL_len (xs : List Int) : (heardL xs).length ≤ 1048576 := by
  unfold heardL
  split
  · rename_i h
    have h1 := (talks_of h).2.1
    have h2 := heard_len xs (xs.length / 2)
    rw [List.length_map]; omega
  · simp
theorem endF_low (xs : List Int) (k : Nat) (hk : k < xs.length / 2) : endF xs k < xs.length / 2 := by
  have := (Srt.insTo_done (totK (xs.length / 2) (endK xs))).1.low k hk
  unfold endF; omega
theorem endF_all (xs : List Int) (b : Nat) (hb : b < xs.length / 2) : ∃ l, l < xs.length / 2 ∧ endF xs l = b := by
  obtain ⟨l, hl, e⟩ := (Srt.insTo_done (totK (xs.length / 2) (endK xs))).1.all b hb
  exact ⟨l, hl, by unfold endF; omega⟩
theorem endF_ord (xs : List Int) (i j : Nat) (h1 : i < j) (h2 : j < xs.length / 2) : (talkAt xs (endF xs i)).2 < (talkAt xs (endF xs j)).2 ∨ ((talkAt xs (endF xs i)).2 = (talkAt xs (endF xs j)).2 ∧ endF xs i < endF xs j) := by
  have h := (Srt.insTo_done (totK (xs.length / 2) (endK xs))).2 i j (Nat.zero_le _) h1 h2
  have l1 := (Srt.insTo_done (totK (xs.length / 2) (endK xs))).1.low i (by omega)
  have l2 := (Srt.insTo_done (totK (xs.length / 2) (endK xs))).1.low j h2
  generalize hlt : ltK (endK xs) = lt at *
  have hk : ∀ x y, lt x y = true → endK xs x < endK xs y ∨ (endK xs x = endK xs y ∧ x < y) := fun x y q => by
    rw [← hlt] at q
    unfold ltK at q
    simpa only [Bool.or_eq_true, Bool.and_eq_true, decide_eq_true_eq] using q
  have h := hk _ _ h
  unfold endF
  rw [hlt]
  unfold talkAt
  show endK xs _ < endK xs _ ∨ _
  generalize Srt.insTo lt (xs.length / 2) = ff at *
  have e : ∀ z : Int, 0 ≤ z → endK xs z = xs.getD (2 * z.toNat + 1) 0 := fun _ _ => rfl
  rcases h with h | ⟨h, h'⟩
  · exact .inl h
  · exact .inr ⟨h, by omega⟩
set_option maxHeartbeats 1000000 in
theorem compareEnds_any (a0 a1 b0 b1 : Int) (w : World) : Calls Try.prog 55 #[.agg #[.int .i64 a0, .int .i64 a1], .agg #[.int .i64 b0, .int .i64 b1]] w fun e w' => e = .returned (.int .i64 (cmpV a1 b1)) ∧ Below w.heap.size w w' := by
  have hC := Lib.hid (fun w' => compareI_any a1 b1 w')
  have hB := Lib.hid (below_alloc (below_alloc (Below.refl w.heap.size w) (.cells #[.int .i64 a0, .int .i64 a1] 71)) (.cells #[.int .i64 b0, .int .i64 b1] 71))
  generalize cmpV a1 b1 = z at *
  go_enter Try.func55, Try.ntmps55
  go_wp2_with (go_at_call 35; (with_reducible refine (hC.out _).mono ?_); rintro e w' ⟨rfl, rfl⟩)
  go_ret
  exact ⟨rfl, hB.out⟩
/-- The places of the talks by a comparison of one of their two numbers. -/
theorem talkPlaces_any (F : Nat) (K : Int → Int) (xs : List Int) (n : Nat) (w1 : World) (v' : Value) (A : Nat) (hn : xs.length = 2 * n) (n1 : 1 ≤ n) (n32 : n ≤ 32) (ho : w1.ownsRow A 71 2 v' n (xs.map (Value.int .i64)))
    (eF : ∀ args w, (callFunc F args).run Try.prog w = .ok (.enter F args) w) (hF : ∀ (x y : Nat) w, Calls Try.prog F #[.agg #[.int .i64 (xs.getD (2 * x) 0), .int .i64 (xs.getD (2 * x + 1) 0)], .agg #[.int .i64 (xs.getD (2 * y) 0), .int .i64 (xs.getD (2 * y + 1) 0)]] w fun e w' => e = .returned (.int .i64 (cmpV (K x) (K y))) ∧ Below w.heap.size w w') :
    ∃ g c, v' = .slice (some ⟨g, 0, none⟩) n c ∧ A ≤ g ∧ g < w1.heap.size ∧ n ≤ c ∧ c ≤ maxLen ∧ (∀ k j, k < n → j < 2 → w1.cell? ⟨g, k * 2 + j, none⟩ = some (.int .i64 (xs.getD (2 * k + j) 0))) ∧
        Calls Try.prog 51 #[v', .func (.func F) #[] #[]] w1 fun e w' => ∃ g f, e = .returned (.slice (some ⟨g, 0, none⟩) n n) ∧ w1.heap.size ≤ g ∧ w'.ownsRow w1.heap.size 2 1 (.slice (some ⟨g, 0, none⟩) n n) n (cellsF n f) ∧ Srt.Done (ltK K) n f ∧ Below w1.heap.size w1 w' := by
  have hlt := ho.lt
  rcases ho.2 with ⟨_, h0⟩ | ⟨g, c, cur, rfl, hA, hg, hc1, hc2, _⟩
  · omega
  have hcell : ∀ k j, k < n → j < 2 → w1.cell? ⟨g, k * 2 + j, none⟩ = some (.int .i64 (xs.getD (2 * k + j) 0)) := fun k j hk hj => by
    rw [ho.cellAt (k * 2 + j) (by omega), List.getElem?_map, show k * 2 + j = 2 * k + j by omega, List.getElem?_eq_getElem (show 2 * k + j < xs.length by omega)]
    rw [List.getD_eq_getElem?_getD, List.getElem?_eq_getElem (show 2 * k + j < xs.length by omega)]; rfl
  refine ⟨g, c, rfl, (hlt g rfl).1, (hlt g rfl).2, by omega, hc2, hcell, ?_⟩
  exact placesT_any F g 0 c n (fun k j => xs.getD (2 * k + j) 0) (fun x y => cmpV (K x) (K y)) (ltK K) w1 (hlt g rfl).2 (fun k j hk hj => by rw [Nat.zero_add]; exact hcell k j hk hj) (by omega) hc2 (by omega) (by omega) (totK _ _)
    eF (fun x y _ _ w' => hF x y w')
    (fun x y hxy hy => by rw [cmpV_neg, ltK_later _ (by omega)])
set_option maxHeartbeats 8000000 in
set_option maxRecDepth 100000 in
theorem implMostTalks_any (B : Nat) (v : Value) (xs : List Int) (w : World) (h : LstI B w v xs) (hB : B ≤ w.heap.size) :
    Calls Try.prog 26 #[v] w (ListPost (heardL xs) (talksOk xs) w) := by
  have hT := Lib.hid (talksOf_any B v xs w h hB)
  obtain ⟨a, cap, rfl, hl, hcap, hcm, _⟩ := h.at_
  clear h
  cases hq : talksOk xs
  · rw [hq] at hT
    have hN : Hid (∀ w', Below w.heap.size w w' → ListPost (heardL xs) false w (.returned (.tuple #[.slice none 0 0, .bool false])) w') := Lib.hid fun w' hb => list_no (by unfold heardL; rw [hq]; rfl) rfl hb
    clear hq
    generalize ListPost (heardL xs) false w = Q at *
    generalize xs.length = n at *
    go_enter Try.func26, Try.ntmps26
    go_wp2_with fail
    refine hT.out.mono ?_
    rintro e w1 ⟨hx, hb⟩
    rcases hx with ⟨_, rfl⟩ | ⟨h0, _⟩
    · have hB1 := Lib.hid hb
      clear hb hT
      go_wp2_with fail
      first | exact hN.out _ hB1.out | (go_ret2; exact hN.out _ hB1.out)
    · cases h0
  · obtain ⟨q1, q2, q3, q4, q5⟩ := talks_of hq
    rw [hq] at hT
    obtain ⟨n, hn⟩ : ∃ n, n = xs.length / 2 := ⟨_, rfl⟩
    rw [← hn] at hT
    have hY : Hid (∀ (wm : World) (W : World) (pv tv : Value), Below w.heap.size w wm → Two wm W 2 1 71 2 pv tv (heard xs n).length (heard xs n).length (plC (heard xs n)) (tkC xs (heard xs n)) → ListPost (heardL xs) true w (.returned (.tuple #[pv, .bool true])) W) := Lib.hid fun wm W pv tv hb ht => by
      refine list_yes rfl hb.size (n := (heard xs n).length) (by unfold heardL; rw [hq, if_pos rfl, List.length_map, hn]) ?_ (by have := heard_len xs n; omega) (below_on hb (Nat.le_refl _) ht.be)
      have := ht.one
      unfold heardL
      rw [hq, if_pos rfl, List.map_map, ← hn]
      exact this
    have hPl : Hid (∀ w1 v', Below w.heap.size w w1 → w1.ownsRow w.heap.size 71 2 v' n (xs.map (Value.int .i64)) → _) := Lib.hid fun w1 v' hb ho => talkPlaces_any 55 (endK xs) xs n w1 v' w.heap.size (by omega) (by omega) (by omega) ho (enters_of Try.func55 (by kernel_rfl) rfl) (fun x y w' => compareEnds_any _ _ _ _ w')
    have hFl : Hid (∀ f k, Srt.Done (ltK (endK xs)) n f → k < n → ∃ p : Nat, p < n ∧ f k = (p : Int) ∧ endF xs k = p) := Lib.hid fun f k hd hk => by
      have h1 := hd.1.low k hk
      have h2 := Srt.sorted_one (totK n (endK xs)) hd.2 (Srt.insTo_done (totK n (endK xs))).2 hd.1 (Srt.insTo_done (totK n (endK xs))).1 k hk
      refine ⟨(f k).toNat, by omega, by omega, ?_⟩
      unfold endF
      rw [← hn, ← h2]
    have hG : Hid (∀ k p, endF xs k = p → heard xs (k + 1) = if ((heard xs k).map (talkAt xs)).any (meetT (xs.getD (2 * p) 0, xs.getD (2 * p + 1) 0)) then heard xs k else heard xs k ++ [p]) := Lib.hid fun k p e => by
      show greedy _ _ (k + 1) = _
      unfold greedy free
      rw [e, List.any_map]
      show (if (!(heard xs k).any fun j => meetT (talkAt xs p) (talkAt xs j)) then _ else _) = if (heard xs k).any (fun j => meetT (talkAt xs p) (talkAt xs j)) then _ else _
      cases (heard xs k).any fun j => meetT (talkAt xs p) (talkAt xs j) <;> rfl
    have hGl := Lib.hid (heard_len xs)
    have hG0 : Hid (heard xs 0 = []) := Lib.hid rfl
    have n32 : n ≤ 32 := by omega
    have n1 : 1 ≤ n := by omega
    clear q1 q2 q3 q4 q5 hq hn
    generalize heard xs = G at *
    generalize ltK (endK xs) = lt at *
    generalize ListPost (heardL xs) true w = Q at *
    generalize endF xs = eF at *
    generalize xs.length = xl at *
    obtain ⟨i0, hi, hz0, hz1, hz2⟩ := info_parts infoI
    obtain ⟨j0, hj, hy0, hy1, hy2⟩ := info_parts infoTalk
    go_enter Try.func26, Try.ntmps26
    go_wp2_with fail
    refine hT.out.mono ?_
    rintro e w1 ⟨hx, hb⟩
    rcases hx with ⟨h0, _⟩ | ⟨_, v', rfl, ho⟩
    · cases h0
    obtain ⟨g, c, rfl, hgA, hg, hc1, hc2, hcl, hcall⟩ := hPl.out w1 v' hb ho
    have hB1 := Lib.hid hb
    have hCells := Lib.hid hcl
    have hCall := Lib.hid hcall
    have hGg := Lib.hid hg
    unfold maxLen at hc2
    clear hb ho hcl hcall hT hPl hg hgA
    go_wp2_with (go_at_call 51; (with_reducible refine hCall.out.mono ?_); rintro e w2 ⟨g2, f, rfl, hg2, ho2, hd2, hb2⟩; have hO2 := Lib.hid ho2; have hD2 := Lib.hid hd2; have hBb := Lib.hid hb2; have hG2 := Lib.hid hg2; clear ho2 hd2 hb2 hg2)
    have hB2 := Lib.hid (below_on hB1.out (Nat.le_refl _) hBb.out)
    have hG2s := Lib.hid (hO2.out.lt g2 rfl).2
    have hPc : Hid (∀ W k, Below w2.heap.size w2 W → k < n → W.cell? ⟨g2, k, none⟩ = some (.int .i64 (f k))) := Lib.hid fun W k hW hk => by
      rw [hW.cell (p := ⟨g2, k, none⟩) (show g2 < w2.heap.size from hG2s.out), hO2.out.cellAt k (by omega)]
      exact cellsF_at f hk
    have hTc : Hid (∀ W k, Below w2.heap.size w2 W → k < n → W.cell? ⟨g, k * 2, none⟩ = some (.int .i64 (xs.getD (2 * k) 0)) ∧ W.cell? ⟨g, k * 2 + 1, none⟩ = some (.int .i64 (xs.getD (2 * k + 1) 0))) := Lib.hid fun W k hW hk => by
      have key : ∀ j, j < 2 → W.cell? ⟨g, k * 2 + j, none⟩ = some (.int .i64 (xs.getD (2 * k + j) 0)) := fun j hj => by
        rw [hW.cell (p := ⟨g, k * 2 + j, none⟩) (show g < w2.heap.size by have := hGg.out; have := hBb.out.size; omega), hBb.out.cell (p := ⟨g, k * 2 + j, none⟩) (show g < w1.heap.size from hGg.out)]
        exact hCells.out k j hk hj
      exact ⟨key 0 (by omega), key 1 (by omega)⟩
    have hT0 := Lib.hid (Two.nil w2 2 1 71 2)
    go_loopw [6, 7, 20] (fun pv tv iv wr => ∃ (pa ta : Value) (k : Nat), k ≤ n ∧ iv = .int .i64 k ∧ pv = pa ∧ tv = ta ∧ Hid (Two w2 wr 2 1 71 2 pa ta (G k).length (G k).length (plC (G k)) (tkC xs (G k)))) (fun _ _ iv _ => n - (intOf iv).toNat)
    case atStart => exact ⟨_, _, 0, Nat.zero_le _, rfl, rfl, rfl, Lib.hid (by rw [hG0.out]; exact hT0.out)⟩
    case round =>
      clear hT0
      obtain ⟨pa, ta, k, hk, rfl, rfl, rfl, hTw⟩ := hrel
      by_cases hlt : k < n
      · obtain ⟨p, hp, hfp, hep⟩ := hFl.out f k hD2.out hlt
        have c0 := hPc.out wr k hTw.out.be hlt
        rw [hfp] at c0
        obtain ⟨c1, c2⟩ := hTc.out wr p hTw.out.be hp
        have hGk := hG.out k p hep
        have hLk := hGl.out k
        have hNone : Hid (Calls Try.prog 56 #[.agg #[.int .i64 (xs.getD (2 * p) 0), .int .i64 (xs.getD (2 * p + 1) 0)], u7] wr fun e w' => e = .returned (.bool (!((G k).map (talkAt xs)).any (meetT (xs.getD (2 * p) 0, xs.getD (2 * p + 1) 0)))) ∧ Below wr.heap.size wr w') := Lib.hid (by
          refine meetsNone_any wr.heap.size _ ((G k).map (talkAt xs)) _ _ wr ?_ (Nat.le_refl _)
          have ho := Own.new hTw.out.two (by unfold maxLen; omega)
          have := ho.lstK (Nat.le_refl _)
          unfold LstT
          rw [List.length_map]
          exact this)
        have hS0 : Hid (∀ w', Below w2.heap.size w2 w' → (w'.cell? ⟨g, p * 2, none⟩ = some (.int .i64 (xs.getD (2 * p) 0)) ∧ w'.cell? ⟨g, p * 2 + 1, none⟩ = some (.int .i64 (xs.getD (2 * p + 1) 0))) ∧ Below w2.heap.size w2 w') := Lib.hid fun w' hb => ⟨hTc.out w' p hb hp, hb⟩
        clear hfp hep
        have hPS := Lib.hid (plC_snoc (G k) p)
        have hTS := Lib.hid (tkC_snoc xs (G k) p)
        generalize hanyq : ((G k).map (talkAt xs)).any (meetT (xs.getD (2 * p) 0, xs.getD (2 * p + 1) 0)) = q at *
        clear hanyq
        cases q
        · rw [if_neg (by simp)] at hGk
          have hGn := Lib.hid hGk
          clear hGk
          generalize plC (G k) = C1 at *
          generalize tkC xs (G k) = C2 at *
          generalize hLL : (G k).length = L at *
          have hLe := Lib.hid hLL
          clear hLL
          generalize xs.getD (2 * p) 0 = t0 at *
          generalize xs.getD (2 * p + 1) 0 = t1 at *
          have l1 : (p : Int) < (n : Int) := by omega
          have hd : (k : Int) < (n : Int) := by omega
          go_wp2_with (go_at_call 56; (with_reducible refine hNone.out.mono ?_); rintro e w5 ⟨rfl, hb⟩; have hT5 := Lib.hid (hTw.out.kept hb); clear hb)
          have hS5 := hS0.out w5 hT5.out.be
          go_region_held3 (fun w' => (w'.cell? ⟨g, p * 2, none⟩ = some (.int .i64 t0) ∧ w'.cell? ⟨g, p * 2 + 1, none⟩ = some (.int .i64 t1)) ∧ Below w2.heap.size w2 w') (exact hS0.out _ (Two.be (by (repeat (first | (with_reducible exact hRa.out) | (with_reducible exact hRb.out) | (with_reducible exact hT5.out) | (with_reducible apply Two.drew) | (with_reducible apply Two.alloc)))))) ((first | (refine step_two1 (w := w2) 2 1 71 2 (by decide) (by decide) (by rfl) (by rfl) i0 (.int .i64 0) 8 Try.underlying22 hi hz0 hz1 hz2 rfl (by (repeat (first | (with_reducible exact hRa.out) | (with_reducible exact hRb.out) | (with_reducible exact hT5.out) | (with_reducible apply Two.drew) | (with_reducible apply Two.alloc)))) (by rfl) (by rfl) (by (repeat (first | (with_reducible exact Whole.made _ _ _ rfl) | (with_reducible exact Whole.made _ _ _ (by simp)) | (with_reducible apply Whole.drew1) | (with_reducible apply Whole.more) | (with_reducible apply hKa.out) | (with_reducible apply hKb.out) | decide))) (by rfl) (one_int _) (by unfold maxLen; omega) (by omega) ?_; intro va wa hr hk; have hRa := Lib.hid hr; have hKa := Lib.hid hk; clear hr hk) | (refine step_two2 (w := w2) 2 1 71 2 (by decide) (by decide) (by rfl) (by rfl) j0 (.agg #[.int .i64 0, .int .i64 0]) 16 Try.underlying66 hj hy0 hy1 hy2 rfl (by (repeat (first | (with_reducible exact hRa.out) | (with_reducible exact hRb.out) | (with_reducible exact hT5.out) | (with_reducible apply Two.drew) | (with_reducible apply Two.alloc)))) (by rfl) (by rfl) (by (repeat (first | (with_reducible exact Whole.made _ _ _ rfl) | (with_reducible exact Whole.made _ _ _ (by simp)) | (with_reducible apply Whole.drew1) | (with_reducible apply Whole.more) | (with_reducible apply hKa.out) | (with_reducible apply hKb.out) | decide))) (by rfl) (two_ints _ _) (by unfold maxLen; omega) (by omega) ?_; intro vb wb hr hk; have hRb := Lib.hid hr; have hKb := Lib.hid hk; clear hr hk)))
          all_goals
            go_wp2_with fail
            go_roundw
            case rel => exact ⟨_, _, k + 1, by omega, by go_num, rfl, rfl, Lib.hid (by rw [hGn.out, hPS.out, hTS.out, List.length_append, hLe.out]; first | exact hRb.out | exact hRa.out | exact hRb.out.drew | exact hRa.out.drew)⟩
            case measure => simp [intOf]; omega
        · rw [if_pos rfl] at hGk
          have hGn := Lib.hid hGk
          clear hGk
          have l1 : (p : Int) < (n : Int) := by omega
          have hd : (k : Int) < (n : Int) := by omega
          generalize xs.getD (2 * p) 0 = t0 at *
          generalize xs.getD (2 * p + 1) 0 = t1 at *
          go_wp2_with (go_at_call 56; (with_reducible refine hNone.out.mono ?_); rintro e w5 ⟨rfl, hb⟩; have hT5 := Lib.hid (hTw.out.kept hb); clear hb)
          go_roundw
          case rel => exact ⟨_, _, k + 1, by omega, by go_num, rfl, rfl, Lib.hid (by rw [hGn.out]; exact hT5.out)⟩
          case measure => simp [intOf]; omega
      · obtain rfl : k = n := by omega
        have hR := Lib.hid (hY.out w2 wr _ _ hB2.out hTw.out)
        go_wp2_with fail
        first | exact hR.out | (go_ret2; exact hR.out)
set_option maxHeartbeats 4000000 in
set_option maxRecDepth 100000 in
theorem l07Meet_any (b o m cap i j : Nat) (P : Nat → Int × Int) (w : World) (hm : m ≤ 64) (hi : 2 * i + 1 < m) (hj : 2 * j + 1 < m) (hc : ∀ k, 2 * k + 1 < m → w.cell? ⟨b, o + 2 * k, none⟩ = some (.int .i64 (P k).1) ∧ w.cell? ⟨b, o + (2 * k + 1), none⟩ = some (.int .i64 (P k).2)) :
    Calls Try.prog 54 #[.slice (some ⟨b, o, none⟩) m cap, .int .i64 i, .int .i64 j] w (Ret (.bool (meetT (P i) (P j))) w) := by
  obtain ⟨c1, c2⟩ := hc i hi
  obtain ⟨d1, d2⟩ := hc j hj
  unfold meetT
  generalize P i = pi at *
  generalize P j = pj at *
  obtain ⟨p0, p1⟩ := pi
  obtain ⟨r0, r1⟩ := pj
  simp only at *
  clear hc
  have wi : IntKind.i64.wrap (2 * (i : Int)) = ((2 * i : Nat) : Int) := by rw [show (2 * (i : Int)) = ((2 * i : Nat) : Int) by omega]; exact IntWalk.i64_in _ (by omega)
  have wj : IntKind.i64.wrap (2 * (j : Int)) = ((2 * j : Nat) : Int) := by rw [show (2 * (j : Int)) = ((2 * j : Nat) : Int) by omega]; exact IntWalk.i64_in _ (by omega)
  generalize 2 * i = ai at *
  generalize 2 * j = aj at *
  have e1 : IntKind.i64.wrap ((ai : Int) + 1) = (ai : Int) + 1 := IntWalk.i64_in _ (by omega)
  have e2 : IntKind.i64.wrap ((aj : Int) + 1) = (aj : Int) + 1 := IntWalk.i64_in _ (by omega)
  have t1 : ((ai : Int) + 1).toNat = ai + 1 := by omega
  have t2 : ((aj : Int) + 1).toNat = aj + 1 := by omega
  have n1 : (0 : Int) ≤ (ai : Int) + 1 := by omega
  have n2 : (0 : Int) ≤ (aj : Int) + 1 := by omega
  have l1 : (ai : Int) < (m : Int) := by omega
  have l2 : (aj : Int) < (m : Int) := by omega
  have l3 : (ai : Int) + 1 < (m : Int) := by omega
  have l4 : (aj : Int) + 1 < (m : Int) := by omega
  cases h1 : decide (p0 < r1)
  · rw [Bool.false_and]
    have g1 : ¬ p0 < r1 := of_decide_eq_false h1
    go_enter Try.func54, Try.ntmps54
    go_wp2_with fail
    go_quiet (fail)
    go_wp2_with fail
    go_ret
    exact Ret.later _ _ _
  · rw [Bool.true_and]
    have g1 : p0 < r1 := of_decide_eq_true h1
    go_enter Try.func54, Try.ntmps54
    go_wp2_with fail
    go_quiet (fail)
    go_wp2_with fail
    go_ret
    exact Ret.later _ _ _
def lenV : Value → Nat
  | .slice _ n _ => n
  | _ => 0
theorem any_take {L : List Nat} {p : Nat → Bool} {j x : Nat} (h : L[j]? = some x) : (L.take (j + 1)).any p = ((L.take j).any p || p x) := by
  rw [List.take_add_one, h, List.any_append]
  simp
theorem row_open1 {w : World} {A n : Nat} {e : TypeId} {v : Value} {cs : List Value} (h : w.ownsRow A e 1 v n cs) (hn : 1 ≤ n) : ∃ g cap, v = .slice (some ⟨g, 0, none⟩) n cap ∧ A ≤ g ∧ g < w.heap.size ∧ n ≤ cap ∧ cap ≤ maxLen := by
  have hlt := h.lt
  rcases h.2 with ⟨rfl, h0⟩ | ⟨g, cap, cur, rfl, hA, _, h1, h2, _⟩
  · omega
  · exact ⟨g, cap, rfl, hA, (hlt g rfl).2, by omega, h2⟩
theorem ownRow_slice {w : World} {A e k n : Nat} {v : Value} {cs : List Value} (h : w.ownsRow A e k v n cs) : ∃ a c, v = .slice a n c := by
  rcases h.2 with ⟨rfl, rfl⟩ | ⟨g, cap, cur, rfl, _⟩
  · exact ⟨_, _, rfl⟩
  · exact ⟨_, _, rfl⟩
set_option maxHeartbeats 8000000 in
set_option maxRecDepth 100000 in
theorem specMostTalks_any (B : Nat) (v : Value) (xs : List Int) (w : World) (h : LstI B w v xs) (hB : B ≤ w.heap.size) :
    Calls Try.prog 25 #[v] w (ListPost (heardL xs) (talksOk xs) w) := by
  have hT := Lib.hid (l07Talks_any B v xs w h)
  obtain ⟨a, cap, rfl, hl, hcap, hcm, hc⟩ := h.at_
  clear h
  cases hq : talksOk xs
  · rw [hq] at hT
    have hN : Hid (∀ w', Below w.heap.size w w' → ListPost (heardL xs) false w (.returned (.tuple #[.slice none 0 0, .bool false])) w') := Lib.hid fun w' hb => list_no (by unfold heardL; rw [hq]; rfl) rfl hb
    clear hq hc
    generalize ListPost (heardL xs) false w = Q at *
    generalize xs.length = n at *
    go_enter Try.func25, Try.ntmps25
    go_wp2_with (go_at_call 49; (with_reducible refine hT.out.mono ?_); rintro e w' ⟨m, rfl, rfl⟩; have hB1 := Lib.hid (below_drewN (Below.refl w.heap.size w) m))
    first | exact hN.out _ hB1.out | (go_ret2; exact hN.out _ hB1.out)
  · obtain ⟨q1, q2, q3, q4, q5⟩ := talks_of hq
    rw [hq] at hT
    obtain ⟨n, hn⟩ : ∃ n, n = xs.length / 2 := ⟨_, rfl⟩
    have hlen : xs.length = 2 * n := by omega
    have hEnd : Hid (∀ W oa, Below w.heap.size w W → W.ownsRow w.heap.size 2 1 oa (heard xs n).length (plC (heard xs n)) → ListPost (heardL xs) true w (.returned (.tuple #[oa, .bool true])) W) := Lib.hid fun W oa hb ho => by
      refine list_yes rfl (Nat.le_refl _) (n := (heard xs n).length) (by unfold heardL; rw [hq, if_pos rfl, List.length_map, hn]) ?_ (by have := heard_len xs n; omega) hb
      unfold heardL
      rw [hq, if_pos rfl, List.map_map, ← hn]
      exact ho
    obtain ⟨b, o, x0, rfl, hb0, -⟩ := hc 0 (by omega)
    have hCells : Hid (∀ W k, Below w.heap.size w W → 2 * k + 1 < xs.length → W.cell? ⟨b, o + 2 * k, none⟩ = some (.int .i64 (talkAt xs k).1) ∧ W.cell? ⟨b, o + (2 * k + 1), none⟩ = some (.int .i64 (talkAt xs k).2)) := Lib.hid fun W k hW hk => by
      obtain ⟨b', o', x, he, _, hx, c⟩ := hc (2 * k) (by omega)
      injection he with he
      injection he with e1 e2 _
      subst e1 e2
      obtain ⟨b', o', y, he, _, hy, c'⟩ := hc (2 * k + 1) (by omega)
      injection he with he
      injection he with e1 e2 _
      subst e1 e2
      rw [hW.cell (p := ⟨b, o + 2 * k, none⟩) (show b < w.heap.size by omega), hW.cell (p := ⟨b, o + (2 * k + 1), none⟩) (show b < w.heap.size by omega)]
      unfold talkAt
      rw [getD_of hx, getD_of hy]
      exact ⟨c, c'⟩
    have hMeet : Hid (∀ W i j, Below w.heap.size w W → i < n → j < n → Calls Try.prog 54 #[.slice (some ⟨b, o, none⟩) xs.length cap, .int .i64 i, .int .i64 j] W (Ret (.bool (meetT (talkAt xs i) (talkAt xs j))) W)) := Lib.hid fun W i j hW hi hj =>
      l07Meet_any b o xs.length cap i j (talkAt xs) W q2 (by omega) (by omega) (fun k hk => hCells.out W k hW hk)
    have hSelf : Hid (∀ i, i < n → meetT (talkAt xs i) (talkAt xs i) = true) := Lib.hid fun i hi => by
      unfold meetT talkAt
      rw [decide_eq_true (q5 i (by omega))]; rfl
    have hNext : Hid (∀ k, k ≤ n → (∀ l, l < k → free (talkAt xs) (heard xs k) (endF xs l) = false) → _) := Lib.hid fun k hk hp => greedy_next (P := talkAt xs) (f := endF xs) (n := n) (k := k) (fun l hl => by rw [hn]; exact endF_low xs l (by omega)) (fun b hb => by
      obtain ⟨l, hl, e⟩ := endF_all xs b (by omega)
      exact ⟨l, by omega, e⟩) (fun i j h1 h2 => endF_ord xs i j h1 (by omega)) (fun b hb => q5 b (by omega)) hk hp
    have hGf : Hid (∀ k, ∀ j ∈ heard xs k, k ≤ n → j < n) := Lib.hid fun k j hj hk => by
      obtain ⟨l, hl, e⟩ := greedy_from _ _ k j hj
      have := endF_low xs l (by omega)
      omega
    have hBest := Lib.hid (bestTo_is (talkAt xs))
    have hBs : Hid (∀ L i, bestTo (talkAt xs) L (i + 1) = if free (talkAt xs) L i && (decide (bestTo (talkAt xs) L i < 0) || decide ((talkAt xs i).2 < (talkAt xs (bestTo (talkAt xs) L i).toNat).2)) then (i : Int) else bestTo (talkAt xs) L i) := Lib.hid fun L i => rfl
    have hB0 : Hid (∀ L, bestTo (talkAt xs) L 0 = -1) := Lib.hid fun _ => rfl
    have hGl := Lib.hid (heard_len xs)
    have hG0 : Hid (heard xs 0 = []) := Lib.hid rfl
    have hFree : Hid (∀ L i, free (talkAt xs) L i = !(L.any fun j => meetT (talkAt xs i) (talkAt xs j))) := Lib.hid fun _ _ => rfl
    change Hid (∀ k, k ≤ n → (∀ l, l < k → free (talkAt xs) (heard xs k) (endF xs l) = false) → (bestTo (talkAt xs) (heard xs k) n = -1 ∧ heard xs n = heard xs k) ∨ ∃ b m : Nat, b < n ∧ bestTo (talkAt xs) (heard xs k) n = (b : Int) ∧ k ≤ m ∧ m < n ∧ heard xs (m + 1) = heard xs k ++ [b] ∧ ∀ l, l < m + 1 → free (talkAt xs) (heard xs (m + 1)) (endF xs l) = false) at hNext
    have n32 : n ≤ 32 := by omega
    have n1 : 1 ≤ n := by omega
    clear q1 q2 q3 q4 q5 hq hn hc hb0
    generalize heard xs = G at *
    generalize ListPost (heardL xs) true w = Q at *
    generalize endF xs = eF at *
    generalize talkAt xs = P at *
    generalize hm : xs.length = m at *
    have hM := Lib.hid hlen
    clear hm hlen
    have m64 : m ≤ 64 := by have := hM.out; omega
    have hquo : (m : Int).tdiv 2 = (n : Int) := by rw [Int.tdiv_eq_ediv_of_nonneg (by omega)]; have := hM.out; omega
    have hO0 := Lib.hid (fun d => show ((w.drewN d).alloc (Obj.cells #[] 2)).ownsRow w.heap.size 2 1 (.slice (some ⟨(w.drewN d).heap.size, 0, none⟩) 0 0) 0 [] from World.ownsRow_lit (w.drewN d) #[] 0 (by simp) (Nat.zero_le _) rfl)
    have hBB0 := Lib.hid (fun d => (below_drewN (Below.refl w.heap.size w) d).alloc (by simp) (.cells #[] 2))
    obtain ⟨i0, hi, hz0, hz1, hz2⟩ := info_parts infoI
    unfold maxLen at hl hcm
    go_enter Try.func25, Try.ntmps25
    go_wp2_with (go_at_call 49; (with_reducible refine hT.out.mono ?_); rintro e w' ⟨d0, rfl, rfl⟩)
    have hO1 := Lib.hid (hO0.out d0)
    have hBB1 := Lib.hid (hBB0.out d0)
    go_loopw [5] (fun ov wr => ∃ (oa : Value) (k : Nat), k ≤ n ∧ ov = oa ∧ Hid (∀ l, l < k → free P (G k) (eF l) = false) ∧ Hid (wr.ownsRow w.heap.size 2 1 oa (G k).length (plC (G k))) ∧ Hid (Below w.heap.size w wr)) (fun ov _ => n + 1 - lenV ov)
    case atStart => exact ⟨_, 0, Nat.zero_le _, rfl, Lib.hid (fun l hl => by omega), Lib.hid (by rw [hG0.out]; exact hO1.out), hBB1⟩
    case round =>
      clear hO0 hBB0 hO1 hBB1
      obtain ⟨oa, k, hk, rfl, hFr, hO, hBw⟩ := hrel
      obtain ⟨a, c, rfl⟩ := ownRow_slice hO.out
      generalize wr = wo at *
      have hNx := Lib.hid (hNext.out k hk hFr.out)
      have hLk := hGl.out k
      have hLn : Hid (∀ j x, (G k)[j]? = some x → x < n) := Lib.hid fun j x hx => hGf.out k x (List.mem_of_getElem? hx) hk
      have hEn := Lib.hid (fun (W : World) (oa : Value) (e : G n = G k) => hEnd.out W oa)
      generalize hL : G k = L at *
      have hGk := Lib.hid hL
      clear hL hFr
      have hOut : Hid (∀ d j, j < L.length → ∃ g x, a = some ⟨g, 0, none⟩ ∧ L[j]? = some x ∧ (wo.drewN d).cell? ⟨g, j, none⟩ = some (.int .i64 ((x : Nat) : Int))) := Lib.hid fun d j hj => by
        obtain ⟨g, cp, e, hA, hlt, -⟩ := row_open1 hO.out (by omega)
        injection e with e1 e2 e3
        subst e1 e3
        refine ⟨g, L[j], rfl, List.getElem?_eq_getElem hj, ?_⟩
        rw [World.cell?_drewN, hO.out.cellAt j (by omega)]
        unfold plC
        rw [List.getElem?_map, List.getElem?_eq_getElem hj]; rfl
      generalize hLl : L.length = ll at *
      have hLe := Lib.hid hLl
      clear hLl
      go_wp2_with fail
      go_loopw [6, 7] (fun bv iv wr => ∃ i d : Nat, i ≤ n ∧ iv = .int .i64 i ∧ bv = .int .i64 (bestTo P L i) ∧ wr = wo.drewN d) (fun _ iv _ => n - (intOf iv).toNat)
      case atStart => exact ⟨0, 0, Nat.zero_le _, rfl, by rw [hB0.out], rfl⟩
      case round =>
        obtain ⟨i, d, hin, rfl, rfl, rfl⟩ := hrel
        by_cases hlt : i < n
        · obtain ⟨M, hMM⟩ : ∃ M : Nat → Bool, ∀ j, meetT (P i) (P j) = M j := ⟨_, fun _ => rfl⟩
          have hMt : Hid (∀ d j, j < n → Calls Try.prog 54 #[.slice (some ⟨b, o, none⟩) m cap, .int .i64 i, .int .i64 (j : Nat)] (wo.drewN d) (Ret (.bool (M j)) (wo.drewN d))) := Lib.hid fun d j hj => by rw [← hMM j]; exact hMeet.out _ i j (below_drewN hBw.out d) hlt hj
          have hSf := (hMM i).symm.trans (hSelf.out i hlt)
          have hBsi := Lib.hid (hBs.out L i)
          have hFi : Hid (free P L i = !(L.any M)) := Lib.hid (by rw [hFree.out]; congr 2; exact funext hMM)
          have hbb := Lib.hid (hBest.out L i)
          have hCi := Lib.hid (fun z (hz : z < n) => hCells.out wo z hBw.out (by have := hM.out; omega))
          clear hMM
          go_wp2_with fail
          go_loopw [8, 24] (fun fv kv wr => ∃ j e : Nat, j ≤ ll ∧ kv = .int .i64 j ∧ fv = .bool (!((L.take j).any M)) ∧ wr = wo.drewN e) (fun _ kv _ => ll - (intOf kv).toNat)
          case atStart => exact ⟨0, d, Nat.zero_le _, rfl, rfl, rfl⟩
          case round =>
            obtain ⟨j, e, hj, rfl, rfl, rfl⟩ := hrel
            by_cases hlj : j < ll
            · obtain ⟨g, x, rfl, hx, c0⟩ := hOut.out e j hlj
              have hxn := hLn.out j x hx
              have hTk := any_take (p := M) hx
              have hC := Lib.hid (fun d => hMt.out d x hxn)
              clear hx
              have hdj : (j : Int) < ((ll : Nat) : Int) := by omega
              generalize (L.take j).any M = sofar at *
              by_cases hix : i = x
              · have d1 : ((i : Int) == (x : Int)) = true := by rw [beq_iff_eq]; omega
                rw [← hix, hSf, Bool.or_true] at hTk
                have hTq := Lib.hid hTk
                have hIx := Lib.hid hix
                clear hTk hix
                go_wp2_with fail
                go_roundw
                case rel => exact ⟨j + 1, _, by omega, by go_num, by rw [hTq.out]; rfl, rfl⟩
                case measure => simp [intOf]; omega
              · have d1 : ((i : Int) == (x : Int)) = false := by rw [beq_eq_false_iff_ne]; omega
                generalize M x = q at *
                have hIx := Lib.hid hix
                clear hix
                cases q
                · rw [Bool.or_false] at hTk
                  have hTq := Lib.hid hTk
                  clear hTk
                  go_wp2_with (go_at_call 54; (with_reducible refine (hC.out _).mono ?_); rintro e' w' ⟨m', rfl, rfl⟩)
                  go_roundw
                  case rel => exact ⟨j + 1, _, by omega, by go_num, by rw [hTq.out], by first | rfl | exact World.drewN_drewN ..⟩
                  case measure => simp [intOf]; omega
                · rw [Bool.or_true] at hTk
                  have hTq := Lib.hid hTk
                  clear hTk
                  go_wp2_with (go_at_call 54; (with_reducible refine (hC.out _).mono ?_); rintro e' w' ⟨m', rfl, rfl⟩)
                  go_roundw
                  case rel => exact ⟨j + 1, _, by omega, by go_num, by rw [hTq.out]; rfl, by first | rfl | exact World.drewN_drewN ..⟩
                  case measure => simp [intOf]; omega
            · obtain rfl : ll = j := by omega
              rw [List.take_of_length_le (show L.length ≤ ll by have := hLe.out; omega), ← hFi.out]
              have hBs2 := hBsi.out
              have hb2 := hbb.out
              have hCe := Lib.hid (fun z hz => hCi.out z hz)
              clear hBsi hbb hFi hMt hSf hCi
              generalize free P L i = fr at *
              generalize bestTo P L i = be at *
              have hNi := Lib.hid hlt
              cases fr
              · rw [Bool.false_and, if_neg (by simp)] at hBs2
                have hE := Lib.hid hBs2
                clear hBs2 hb2 hlt
                go_wp2_with fail
                go_quiet (fail)
                go_wp2_with fail
                go_roundw
                case rel => exact ⟨i + 1, _, by have := hNi.out; omega, by go_num, by rw [hE.out], by first | rfl | exact World.drewN_drewN ..⟩
                case measure => simp [intOf]; have := hNi.out; omega
              · rw [Bool.true_and] at hBs2
                rcases hb2 with ⟨rfl, -⟩ | ⟨z, hz, rfl, -⟩
                · rw [if_pos (by simp)] at hBs2
                  have hE := Lib.hid hBs2
                  clear hBs2 hlt
                  go_wp2_with fail
                  go_quiet (fail)
                  go_wp2_with fail
                  go_roundw
                  case rel => exact ⟨i + 1, _, by have := hNi.out; omega, by go_num, by rw [hE.out], by first | rfl | exact World.drewN_drewN ..⟩
                  case measure => simp [intOf]; have := hNi.out; omega
                · rw [decide_eq_false (show ¬ (z : Int) < 0 by omega), Bool.false_or, Int.toNat_natCast] at hBs2
                  obtain ⟨-, c1⟩ := hCe.out i (by omega)
                  obtain ⟨-, c2⟩ := hCe.out z (by omega)
                  have g0 : decide ((z : Int) < 0) = false := decide_eq_false (by omega)
                  have l0 : 2 * i + 1 < m ∧ 2 * z + 1 < m := by have := hM.out; omega
                  have wi : IntKind.i64.wrap (2 * (i : Int)) = ((2 * i : Nat) : Int) := by rw [show (2 * (i : Int)) = ((2 * i : Nat) : Int) by omega]; exact IntWalk.i64_in _ (by omega)
                  have wz : IntKind.i64.wrap (2 * (z : Int)) = ((2 * z : Nat) : Int) := by rw [show (2 * (z : Int)) = ((2 * z : Nat) : Int) by omega]; exact IntWalk.i64_in _ (by omega)
                  generalize 2 * i = ai at *
                  generalize 2 * z = az at *
                  generalize (P i).2 = p1 at *
                  generalize (P z).2 = p2 at *
                  have e1 : IntKind.i64.wrap ((ai : Int) + 1) = (ai : Int) + 1 := IntWalk.i64_in _ (by omega)
                  have e2 : IntKind.i64.wrap ((az : Int) + 1) = (az : Int) + 1 := IntWalk.i64_in _ (by omega)
                  have t1 : ((ai : Int) + 1).toNat = ai + 1 := by omega
                  have t2 : ((az : Int) + 1).toNat = az + 1 := by omega
                  have n1' : (0 : Int) ≤ (ai : Int) + 1 := by omega
                  have n2' : (0 : Int) ≤ (az : Int) + 1 := by omega
                  have l3 : (ai : Int) + 1 < (m : Int) := by omega
                  have l4 : (az : Int) + 1 < (m : Int) := by omega
                  clear l0 hlt hz
                  by_cases hlt2 : p1 < p2
                  · rw [decide_eq_true hlt2, if_pos rfl] at hBs2
                    have dq : decide (p1 < p2) = true := decide_eq_true hlt2
                    have hE := Lib.hid hBs2
                    clear hBs2
                    go_wp2_with fail
                    go_quiet (fail)
                    go_wp2_with fail
                    go_roundw
                    case rel => exact ⟨i + 1, _, by have := hNi.out; omega, by go_num, by rw [hE.out], by first | rfl | exact World.drewN_drewN ..⟩
                    case measure => simp [intOf]; have := hNi.out; omega
                  · rw [decide_eq_false hlt2, if_neg (by simp)] at hBs2
                    have dq : decide (p1 < p2) = false := decide_eq_false hlt2
                    have hE := Lib.hid hBs2
                    clear hBs2
                    go_wp2_with fail
                    go_quiet (fail)
                    go_wp2_with fail
                    go_roundw
                    case rel => exact ⟨i + 1, _, by have := hNi.out; omega, by go_num, by rw [hE.out], by first | rfl | exact World.drewN_drewN ..⟩
                    case measure => simp [intOf]; have := hNi.out; omega
        · obtain rfl : i = n := by omega
          rcases hNx.out with ⟨e1, e2⟩ | ⟨z, mm, hz, e1, hkm, hmn, e2, hf2⟩
          · rw [e1]
            have hR := Lib.hid (hEn.out (wo.drewN d) (.slice a ll c) e2 (below_drewN hBw.out d) (by rw [e2, hLe.out]; exact hO.out))
            clear hNx e1 e2
            go_wp2_with fail
            first | exact hR.out | (go_ret2; exact hR.out)
          · rw [e1]
            have hOd := Lib.hid (show (wo.drewN d).ownsRow w.heap.size 2 1 (.slice a ll c) ll (plC L) from hO.out)
            have hBd := Lib.hid (below_drewN hBw.out d)
            have hF2 := Lib.hid hf2
            have hE2 := Lib.hid e2
            have hZm := Lib.hid (And.intro hmn hkm)
            have hsz := Lib.hid hBd.out.size
            have g0 : decide ((z : Int) < 0) = false := decide_eq_false (by omega)
            have hPs := Lib.hid (plC_snoc L z)
            generalize wo.drewN d = wd at *
            clear hNx e1 e2 hf2 hmn hkm
            generalize plC L = C1 at *
            go_wp2_with (at_builtin; refine wpList_append_own _ rfl _ _ _ rfl w.heap.size 2 i0 (.int .i64 0) 1 8 Try.underlying22 hi hz0 hz1 hz2 rfl (by decide) _ ll _ rfl (hOd.out.alloc _) ⟨wd.heap.size, 0, none⟩ 1 1 [.int .i64 (z : Int)] rfl rfl (news1 wd _ _) (one_int _) (by unfold maxLen; omega) (by omega) (by rw [World.size_alloc]; have := hsz.out; omega) ?_; intro v8 w8 hown8 hgrow8 hnil8; have hB8 := Lib.hid ((hBd.out.alloc hsz.out (.cells #[.int .i64 (z : Int)] 2)).grown hgrow8 (by rw [World.size_alloc]; have := hsz.out; omega) (fun g hg => (hOd.out.lt g hg).1)); have hO8 := Lib.hid hown8; clear hown8 hgrow8 hnil8)
            obtain ⟨a8, c8, rfl⟩ := ownRow_slice hO8.out
            go_roundw
            case rel => exact ⟨_, mm + 1, by have := hZm.out; omega, rfl, hF2, Lib.hid (by rw [hE2.out, List.length_append, hLe.out, hPs.out]; exact hO8.out), hB8⟩
            case measure => simp [lenV]; omega
theorem mostTalks_both (xs : List Int) (_ : ∀ x ∈ xs, (Lit.int .i64 x).wf = true) : ∃ (r0 : List Int) (r1 : Bool), r0.length ≤ 1048576 ∧
    (∀ (B : Nat) (v : Value) (w : World), LstI B w v xs → B ≤ w.heap.size → Calls Try.prog 25 #[v] w fun e w' => ∃ v', e = .returned (.tuple #[v', .bool r1]) ∧ Lst.Own w.heap.size w'.heap.size w' v' 2 1 r0.length (r0.map (Value.int .i64)) ∧ Below w.heap.size w w') ∧
    (∀ (B : Nat) (v : Value) (w : World), LstI B w v xs → B ≤ w.heap.size → Calls Try.prog 26 #[v] w fun e w' => ∃ v', e = .returned (.tuple #[v', .bool r1]) ∧ Lst.Own w.heap.size w'.heap.size w' v' 2 1 r0.length (r0.map (Value.int .i64)) ∧ Below w.heap.size w w') :=
  ⟨heardL xs, talksOk xs, heardL_len xs, fun B v w h hB => specMostTalks_any B v xs w h hB, fun B v w h hB => implMostTalks_any B v xs w h hB⟩
end Go.Proofs.Ytehobcmjjcmfnaa
