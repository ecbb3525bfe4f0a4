/- Contracts: jobs given to machines, the longest ones first; the program's and the model's, alike. -/
import Derived.Test.YtehobcmjjcmfnaaPlaces
import Derived.Test.YtehobcmjjcmfnaaPlan
import Derived.Test.YtehobcmjjcmfnaaFillI
import Derived.Test.YtehobcmjjcmfnaaInRows
namespace Go.Proofs.Ytehobcmjjcmfnaa
open Go.RowKit Go.Lst Go.Plan Srt Go.Shelf

theorem row_openL {w : World} {A n : Nat} {e : TypeId} {v : Value} {cs : List Value} (h : w.ownsRow A e 1 v n cs) (hn : 1 ≤ n) : ∃ g cap, v = .slice (some ⟨g, 0, none⟩) n cap ∧ A ≤ g ∧ g < w.heap.size ∧ n ≤ cap ∧ cap ≤ maxLen := by
  have hlt := h.lt
  rcases h.2 with ⟨rfl, h0⟩ | ⟨g, cap, cur, rfl, hA, _, h1, h2, _⟩
  · omega
  · exact ⟨g, cap, rfl, hA, (hlt g rfl).2, by omega, h2⟩
theorem cells_map (n : Nat) (f : Nat → Int) : cellsF n f = ((List.range n).map f).map (Value.int .i64) := by
  unfold cellsF
  rw [List.map_map]; rfl
theorem cellsF_snoc (n : Nat) (f : Nat → Int) : cellsF (n + 1) f = cellsF n f ++ [.int .i64 (f n)] := by
  unfold cellsF
  rw [List.range_succ, List.map_append]; rfl
theorem ints_wf {z : Int} (h1 : -9223372036854775808 ≤ z) (h2 : z ≤ 9223372036854775807) : (Lit.int .i64 z).wf = true := by
  have e1 : IntKind.i64.min = -9223372036854775808 := rfl
  have e2 : IntKind.i64.max = 9223372036854775807 := rfl
  show (decide (IntKind.i64.min ≤ z) && decide (z ≤ IntKind.i64.max)) = true
  rw [e1, e2, decide_eq_true h1, decide_eq_true h2]; rfl
/-- The sorted places are an order. -/
theorem done_ord {lt : Int → Int → Bool} {n : Nat} {f : Nat → Int} (hT : Tot n lt) (h : Srt.Done lt n f) : isOrd ((List.range n).map f) n = true := by
  have hl : ((List.range n).map f).length = n := by simp
  unfold isOrd
  rw [hl, decide_eq_true rfl, Bool.true_and]
  refine (ordUpTo_iff _ _ n (by omega)).2 ⟨fun x hx => ?_, ?_⟩
  · rw [List.take_of_length_le (by omega)] at hx
    obtain ⟨k, hk, rfl⟩ := List.mem_map.1 hx
    have := h.1.low k (List.mem_range.1 hk)
    omega
  · rw [List.take_of_length_le (by omega), List.nodup_iff_pairwise_ne, List.pairwise_iff_getElem]
    intro i j hi hj hij e
    simp only [List.getElem_map, List.getElem_range] at e
    have := h.2.inj hT ⟨Nat.zero_le _, by omega⟩ ⟨Nat.zero_le _, by omega⟩ e
    omega
/-- The longest ones first. -/
def longK (ts : List Int) (x : Int) : Int := -(ts.getD x.toNat 0)
def longO (ts : List Int) : List Int := (List.range ts.length).map (Srt.insTo (ltK (longK ts)) ts.length)
theorem longO_done (ts : List Int) : Srt.Done (ltK (longK ts)) ts.length (Srt.insTo (ltK (longK ts)) ts.length) := Srt.insTo_done (totK _ _)
theorem longO_ord (ts : List Int) : isOrd (longO ts) ts.length = true := done_ord (totK _ _) (longO_done ts)
theorem longO_of {ts : List Int} {f : Nat → Int} (h : Srt.Done (ltK (longK ts)) ts.length f) : cellsF ts.length f = (longO ts).map (Value.int .i64) := by
  rw [h.one (totK _ _) (longO_done ts), cells_map]; rfl
theorem longO_len (ts : List Int) : (longO ts).length = ts.length := by simp [longO]
theorem longO_wf (ts : List Int) (hn : ts.length ≤ 1024) : ∀ x ∈ longO ts, (Lit.int .i64 x).wf = true := fun x hx => by
  obtain ⟨k, hk, rfl⟩ := List.mem_map.1 hx
  have h := (longO_done ts).1.low k (List.mem_range.1 hk)
  exact ints_wf (by omega) (by omega)
theorem planPost_from {ts o : List Int} {m : Int} {w w1 w' : World} {e : Ending} (hb : Below w.heap.size w w1) (h : PlanPost ts o m w1 e w') : PlanPost ts o m w e w' := by
  obtain ⟨v', he, ho, hb'⟩ := h
  exact ⟨v', he, ho.mono hb.size (Nat.le_refl _), below_on hb (Nat.le_refl _) hb'⟩
set_option maxHeartbeats 1000000 in
theorem longCmp_any (a b : Int) (w : World) : Calls Try.prog 34 #[.int .i64 a, .int .i64 b] w fun e w' => e = .returned (.int .i64 (cmpV b a)) ∧ w = w' := by
  have hC := Lib.hid (fun w' => compareI_any b a w')
  generalize cmpV b a = z at *
  go_enter Try.func34, Try.ntmps34
  go_wp2_with (go_at_call 35; (with_reducible refine (hC.out _).mono ?_); rintro e w' ⟨rfl, rfl⟩)
  go_ret
  exact ⟨rfl, rfl⟩
set_option maxHeartbeats 2000000 in
theorem implLongestFirst_any (B : Nat) (v1 : Value) (ts : List Int) (m : Int) (w : World) (h1 : LstI B w v1 ts) (hB : B ≤ w.heap.size) :
    Calls Try.prog 11 #[v1, .int .i64 m] w (PlanPost ts (longO ts) m w) := by
  have hT := Lib.hid (areTimes_any B v1 ts m w h1)
  cases hq : areTimes ts m
  · have hP : Hid (PlanPost ts (longO ts) m w (.returned (.tuple #[.slice none 0 0, .int .i64 0, .bool false])) w) := Lib.hid
      ⟨_, by unfold planLast planOk; rw [hq]; rfl, by unfold planRes planOk; rw [hq]; exact own_nil, Below.refl _ _⟩
    rw [hq] at hT
    obtain ⟨a1, cap1, hv1, hl1, _, _, hc1⟩ := h1.at_
    subst hv1
    generalize PlanPost ts (longO ts) m w = Q at *
    clear h1 hq hc1
    generalize ts.length = n at *
    go_enter Try.func11, Try.ntmps11
    go_wp2_with (go_at_call 32; refine (hT.out).mono ?_; rintro e w' ⟨rfl, rfl⟩)
    go_ret3
    exact hP.out
  · have hq' := hq
    simp only [areTimes, Bool.and_eq_true] at hq'
    have hok2 := okTimes_of hq'.1
    rw [hq] at hT
    have hPl := Lib.hid (placesI_any B 34 v1 ts (fun a b => cmpV b a) (ltK (longK ts)) w h1 hB hok2.1 (by omega) (totK _ _) (enters_of Try.func34 (by kernel_rfl) rfl) (fun a c w => longCmp_any a c w)
      (fun x y hxy hy => by
        rw [cmpV_neg, ltK_later _ (by omega)]
        unfold longK
        rw [Int.toNat_natCast, Int.toNat_natCast]
        congr 1
        exact propext ⟨fun h => by omega, fun h => by omega⟩))
    have hLi : Hid (∀ w1 g f, Below w.heap.size w w1 → w.heap.size ≤ g → w1.ownsRow w.heap.size 2 1 (.slice (some ⟨g, 0, none⟩) ts.length ts.length) ts.length (cellsF ts.length f) → Srt.Done (ltK (longK ts)) ts.length f →
        Calls Try.prog 36 #[v1, .slice (some ⟨g, 0, none⟩) ts.length ts.length, .int .i64 m] w1 fun e w' => ∃ v' z q, e = .returned (.tuple #[v', .int .i64 z, .bool q]) ∧ PlanPost ts (longO ts) m w (.returned (.tuple #[v', .int .i64 z, .bool q])) w') := Lib.hid fun w1 g f hb hg ho hd => by
      rw [longO_of hd] at ho
      have hO2 : LstI w1.heap.size w1 (.slice (some ⟨g, 0, none⟩) ts.length ts.length) (longO ts) := by
        have h2 : Lst.Own w.heap.size w1.heap.size w1 (.slice (some ⟨g, 0, none⟩) ts.length ts.length) 2 1 (longO ts).length ((longO ts).map (Value.int .i64)) := by rw [longO_len]; exact Lst.Own.new ho (by unfold maxLen; omega)
        exact h2.lstI (Nat.le_refl _)
      refine (implListPlan_any w1.heap.size v1 _ ts (longO ts) m w1 ((h1.below hb hB).mono (Nat.le_trans hB hb.size)) hO2 (Nat.le_refl _) (longO_wf ts (by omega))).mono fun e w' hp => ?_
      have hp2 := planPost_from hb hp
      obtain ⟨v', he, h3⟩ := hp
      subst he
      exact ⟨_, _, _, rfl, hp2⟩
    obtain ⟨a1, cap1, hv1, hl1, _, _, hc1⟩ := h1.at_
    subst hv1
    generalize PlanPost ts (longO ts) m w = Q at *
    generalize ltK (longK ts) = lt at *
    clear h1 hq hc1 hq' hok2
    generalize ts.length = n at *
    go_enter Try.func11, Try.ntmps11
    go_wp2_with (first | (go_at_call 32; (with_reducible refine (hT.out).mono ?_); rintro e w' ⟨rfl, rfl⟩) | (go_at_call 33; (with_reducible refine (hPl.out).mono ?_); rintro e w1 ⟨g, f, rfl, hg, ho, hd, hb⟩; have hL := Lib.hid (hLi.out w1 g f hb hg ho hd); clear hg ho hd hb) | (go_at_call 36; (with_reducible refine (hL.out).mono ?_); rintro e w2 ⟨v', z, q, rfl, hp⟩; have hP := Lib.hid hp; clear hp))
    go_ret3
    exact hP.out
set_option maxHeartbeats 4000000 in
set_option maxRecDepth 100000 in
theorem l02Longest_any (B : Nat) (v1 : Value) (ts : List Int) (M : Nat) (w : World) (h1 : LstI B w v1 ts) (hB : B ≤ w.heap.size) (hok : okTimes ts = true) (m1 : 1 ≤ M) (m2 : M ≤ 8) :
    Calls Try.prog 31 #[v1, .int .i64 M] w (Plan2Post ts (longO ts) M w) := by
  have hok2 := okTimes_of hok
  have hPl : Hid (∀ w1 v, Below w.heap.size w w1 → w1.ownsRow w.heap.size 2 1 v ts.length (cellsF ts.length (Srt.insTo (ltK (longK ts)) ts.length)) → Calls Try.prog 60 #[v1, v, .int .i64 M] w1 fun e w' => ∃ v' z, e = .returned (.tuple #[v', .int .i64 z]) ∧ Plan2Post ts (longO ts) M w (.returned (.tuple #[v', .int .i64 z])) w') := Lib.hid fun w1 v hb ho => by
    rw [longO_of (longO_done ts)] at ho
    have hO2 : LstI w1.heap.size w1 v (longO ts) := by
      have h2 : Lst.Own w.heap.size w1.heap.size w1 v 2 1 (longO ts).length ((longO ts).map (Value.int .i64)) := by rw [longO_len]; exact Lst.Own.new ho (by unfold maxLen; omega)
      exact h2.lstI (Nat.le_refl _)
    refine (l02Plan_any w1.heap.size v1 v ts (longO ts) M w1 ((h1.below hb hB).mono (Nat.le_trans hB hb.size)) hO2 (Nat.le_refl _) hok m1 m2 (longO_ord ts)).mono fun e w' hp => ?_
    obtain ⟨v', he, h3, h4⟩ := hp
    subst he
    exact ⟨_, _, rfl, v', rfl, h3.mono hb.size (Nat.le_refl _), below_on hb (Nat.le_refl _) h4⟩
  obtain ⟨a1, cap1, rfl, hl1, _, _, hc1⟩ := h1.at_
  obtain ⟨b, o, rfl, hbB⟩ := lstI_block h1 (by omega)
  have hCell : Hid (∀ w1 k, Below w.heap.size w w1 → k < ts.length → w1.cell? ⟨b, o + k, none⟩ = some (.int .i64 (ts.getD k 0))) := Lib.hid fun w1 k hw hk => by
    obtain ⟨b', o', x, he, hb, hx, hcell⟩ := hc1 k hk
    injection he with he
    injection he with e1 e2 _
    subst e1 e2
    rw [getD_of hx, hw.cell (p := ⟨b, o + k, none⟩) (show b < w.heap.size by omega)]
    exact hcell
  -- the sorted beginning, and what is known of its places
  have hLt : Hid (∀ x y : Nat, x < y → ltK (longK ts) (y : Int) (x : Int) = decide (ts.getD x 0 < ts.getD y 0)) := Lib.hid fun x y h => by
    rw [ltK_later _ (by omega)]
    unfold longK
    rw [Int.toNat_natCast, Int.toNat_natCast]
    congr 1
    exact propext ⟨fun h => by omega, fun h => by omega⟩
  have hFx : Hid (∀ i, Srt.insTo (ltK (longK ts)) i i = (i : Int) ∧ ∀ k, k < i → ∃ q : Nat, q < i ∧ Srt.insTo (ltK (longK ts)) i k = (q : Int)) := Lib.hid fun i => by
    have hr := (Srt.sorted_to (totK ts.length (longK ts)) i).1
    refine ⟨hr.out i (.inr (Nat.le_refl _)), fun k hk => ?_⟩
    obtain ⟨l, _, l2, e⟩ := hr.from' k (Nat.zero_le _) hk
    exact ⟨l, l2, e⟩
  have hNext : Hid (∀ i, Srt.insTo (ltK (longK ts)) (i + 1) = toLeft (Srt.insTo (ltK (longK ts)) i) i (Srt.insC (ltK (longK ts)) (Srt.insTo (ltK (longK ts)) i) i i)) := Lib.hid fun i => rfl
  generalize hlt : ltK (longK ts) = lt at *
  have n24 : ts.length ≤ 24 := hok2.2.1
  clear hlt h1 hc1 hok hok2 m1
  generalize Plan2Post ts (longO ts) M w = Q at *
  obtain ⟨i0, hi, hz0, hz1, hz2⟩ := info_parts infoI
  generalize ts.length = n at *
  unfold maxLen at hl1
  have hO0 := Lib.hid (show (w.alloc (Obj.cells #[] 2)).ownsRow w.heap.size 2 1 (.slice (some ⟨w.heap.size, 0, none⟩) 0 0) 0 (cellsF 0 (Srt.insTo lt 0)) from World.ownsRow_lit w #[] 0 (Nat.le_refl _) (Nat.zero_le _) rfl)
  have hB0 := Lib.hid (below_alloc (Below.refl w.heap.size w) (.cells #[] 2))
  go_enter Try.func31, Try.ntmps31
  go_wp2_with fail
  go_loopw [6, 7] (fun ov iv wr => ∃ i : Nat, i ≤ n ∧ iv = .int .i64 i ∧ Hid (wr.ownsRow w.heap.size 2 1 ov i (cellsF i (Srt.insTo lt i))) ∧ Hid (Below w.heap.size w wr)) (fun _ iv _ => n - (intOf iv).toNat)
  case atStart => exact ⟨0, Nat.zero_le _, rfl, hO0, hB0⟩
  case round =>
    clear hO0 hB0
    obtain ⟨i, hi24, rfl, hO, hBw⟩ := hrel
    by_cases hlt : i < n
    · have hd : (i : Int) < (n : Int) := by omega
      have hsz := Lib.hid hBw.out.size
      go_wp2_with (at_builtin; refine wpList_append_own _ rfl _ _ _ rfl w.heap.size 2 i0 (.int .i64 0) 1 8 Try.underlying22 hi hz0 hz1 hz2 rfl (by decide) _ i _ rfl (hO.out.alloc _) ⟨wr.heap.size, 0, none⟩ 1 1 [.int .i64 (i : Int)] rfl rfl (news1 wr _ _) (one_int _) (by unfold maxLen; omega) (by omega) (by rw [World.size_alloc]; have := hsz.out; omega) ?_; intro v8 w8 hown8 hgrow8 hnil8; have hB8 := Lib.hid ((hBw.out.alloc hsz.out (.cells #[.int .i64 (i : Int)] 2)).grown hgrow8 (by rw [World.size_alloc]; have := hsz.out; omega) (fun g hg => (hO.out.lt g hg).1)); have hO8 := Lib.hid (show w8.ownsRow w.heap.size 2 1 v8 (i + 1) (cellsF (i + 1) (Srt.insTo lt i)) by rw [cellsF_snoc, (hFx.out i).1]; exact hown8); clear hown8 hgrow8 hnil8)
      obtain ⟨g, c, rfl, hg1, hg2, hc1, hc2⟩ := row_openL hO8.out (by omega)
      unfold maxLen at hc2
      have hGe := Lib.hid hg1
      have hR8 := Lib.hid (show Row w.heap.size g (i + 1) c w8 w8 (toLeft (Srt.insTo lt i) i i) from ⟨by rw [toLeft_zero]; exact hO8.out, grown_refl _ _⟩)
      clear hg2
      go_loopw [8] (fun kv wk => ∃ k : Nat, k ≤ i ∧ kv = .int .i64 k ∧ Hid (Srt.insC lt (Srt.insTo lt i) i k = Srt.insC lt (Srt.insTo lt i) i i) ∧ Hid (Row w.heap.size g (i + 1) c w8 wk (toLeft (Srt.insTo lt i) i k))) (fun kv _ => (intOf kv).toNat)
      case atStart => exact ⟨i, Nat.le_refl _, rfl, Lib.hid rfl, hR8⟩
      case round =>
        clear hR8
        obtain ⟨k, hki, rfl, hI, hRk⟩ := hrel
        have hBk := Lib.hid (hB8.out.grown hRk.out.kept hB8.out.size (fun q e => by injection e with e; rw [← e]; exact hGe.out))
        by_cases hk0 : 0 < k
        · obtain ⟨f0, fl⟩ := hFx.out i
          obtain ⟨q, hq, hfq⟩ := fl (k - 1) (by omega)
          have c1 := hRk.out.cell (k := k) (by omega)
          have c2 := hRk.out.cell (k := k - 1) (by omega)
          have f1 := hRk.out.frozen k
          have f2 := hRk.out.frozen (k - 1)
          have v1 : toLeft (Srt.insTo lt i) i k k = (i : Int) := by unfold toLeft; rw [if_pos rfl]; exact f0
          have v2 : toLeft (Srt.insTo lt i) i k (k - 1) = (q : Int) := by unfold toLeft; rw [if_neg (by omega), if_neg (by omega)]; exact hfq
          rw [v1] at c1
          rw [v2] at c2
          have t1 := hCell.out wr i hBk.out (by omega)
          have t2 := hCell.out wr q hBk.out (by omega)
          have hLq := hLt.out q i hq
          have hRm := Lib.hid (fun dm => hRk.out.drewN dm)
          have hS := Lib.hid (fun dm => (by
            have h2 := (hRk.out.drewN dm).set k (toLeft (Srt.insTo lt i) i k (k - 1))
            have h3 := h2.set (k - 1) (toLeft (Srt.insTo lt i) i k k)
            rw [swap_upd] at h3
            have h4 := toLeft_step (Srt.insTo lt i) i (k - 1) (by omega)
            rw [show k - 1 + 1 = k by omega] at h4
            rw [h4, v1, v2] at h3
            exact h3 : Row w.heap.size g (i + 1) c w8 (((wr.drewN dm).setCell ⟨g, k, none⟩ (.int .i64 (q : Int))).setCell ⟨g, k - 1, none⟩ (.int .i64 (i : Int))) (toLeft (Srt.insTo lt i) i (k - 1))))
          have hIn : Hid (Srt.insC lt (Srt.insTo lt i) i k = if lt (i : Int) (q : Int) then Srt.insC lt (Srt.insTo lt i) i (k - 1) else k) := Lib.hid (by
            obtain ⟨k', rfl⟩ : ∃ k', k = k' + 1 := ⟨k - 1, by omega⟩
            show (if lt (Srt.insTo lt i i) (Srt.insTo lt i k') then _ else _) = _
            rw [f0, show Srt.insTo lt i k' = (q : Int) from hfq]; rfl)
          rw [hLq] at hIn
          clear f0 fl hfq v1 v2 hLq
          generalize ts.getD i 0 = ti at *
          generalize ts.getD q 0 = tq at *
          have l1 : (i : Int) < (n : Int) := by omega
          have l2 : (q : Int) < (n : Int) := by omega
          have l3 : (k : Int) < ((i + 1 : Nat) : Int) := by omega
          have l4 : (k : Int) - 1 < ((i + 1 : Nat) : Int) := by omega
          have z1 : (0 : Int) ≤ (k : Int) - 1 := by omega
          have t3 : ((k : Int) - 1).toNat = k - 1 := by omega
          have hwk : IntKind.i64.wrap ((k : Int) - 1) = (k : Int) - 1 := IntWalk.i64_in _ (by omega)
          have hdk : (0 : Int) < (k : Int) := by omega
          have hdk2 : decide ((0 : Int) < (k : Int)) = true := decide_eq_true hdk
          generalize hi1 : i + 1 = i1 at *
          by_cases hgt : tq < ti
          · have hg1' : decide (tq < ti) = true := decide_eq_true hgt
            have hI2 := Lib.hid (show Srt.insC lt (Srt.insTo lt i) i (k - 1) = Srt.insC lt (Srt.insTo lt i) i i by
              have := hIn.out
              rw [hg1', if_pos rfl] at this
              rw [← this]; exact hI.out)
            have hK1 := Lib.hid (show k - 1 < i1 ∧ k < i1 by omega)
            have hi2 := Lib.hid hi1
            clear hI hIn hi1
            go_wp2_with fail
            go_quiet (fail)
            go_wp2_with fail
            go_roundw
            case rel => exact ⟨k - 1, by omega, by go_num, hI2, Lib.hid (hS.out _)⟩
            case measure => simp [intOf]; omega
          · have hg1' : decide (tq < ti) = false := decide_eq_false hgt
            have hfin := Lib.hid (show toLeft (Srt.insTo lt i) i k = Srt.insTo lt i1 by
              rw [← hi1, hNext.out i]
              have := hIn.out
              rw [hg1', if_neg (by simp)] at this
              rw [← hI.out, this])
            have hi2 := Lib.hid hi1
            clear hI hIn hi1
            go_wp2_with fail
            go_quiet (fail)
            go_wp2_with fail
            go_roundw
            case rel => exact ⟨i1, by have := hi2.out; omega, by have := hi2.out; go_num, Lib.hid (by rw [← hfin.out]; exact (hRm.out _).own), Lib.hid (below_drewN hBk.out _)⟩
            case measure => simp [intOf]; have := hi2.out; omega
        · obtain rfl : k = 0 := by omega
          have hfin := Lib.hid (show toLeft (Srt.insTo lt i) i 0 = Srt.insTo lt (i + 1) by
            rw [hNext.out i, ← hI.out]; rfl)
          have hdk2 : decide ((0 : Int) < ((0 : Nat) : Int)) = false := by decide
          have hRm := Lib.hid (fun dm => hRk.out.drewN dm)
          go_wp2_with fail
          go_quiet (fail)
          go_wp2_with fail
          go_roundw
          case rel => exact ⟨i + 1, by omega, by go_num, Lib.hid (by rw [← hfin.out]; exact (hRm.out _).own), Lib.hid (below_drewN hBk.out _)⟩
          case measure => simp [intOf]; omega
    · obtain rfl : i = n := by omega
      have hL := Lib.hid (hPl.out wr _ hBw.out hO.out)
      go_wp2_with (go_at_call 60; (with_reducible refine (hL.out).mono ?_); rintro e w2 ⟨v', z, rfl, hp⟩; have hP := Lib.hid hp; clear hp)
      first | exact hP.out | (go_ret2; exact hP.out)
set_option maxHeartbeats 2000000 in
theorem specLongestFirst_any (B : Nat) (v1 : Value) (ts : List Int) (m : Int) (w : World) (h1 : LstI B w v1 ts) (hB : B ≤ w.heap.size) :
    Calls Try.prog 9 #[v1, .int .i64 m] w (PlanPost ts (longO ts) m w) := by
  have hT := Lib.hid (l02Times_any B v1 ts w h1)
  cases hq : areTimes ts m
  · have hP : Hid (PlanPost ts (longO ts) m w (.returned (.tuple #[.slice none 0 0, .int .i64 0, .bool false])) w) := Lib.hid
      ⟨_, by unfold planLast planOk; rw [hq]; rfl, by unfold planRes planOk; rw [hq]; exact own_nil, Below.refl _ _⟩
    obtain ⟨a1, cap1, hv1, hl1, _, _, hc1⟩ := h1.at_
    subst hv1
    generalize PlanPost ts (longO ts) m w = Q at *
    unfold areTimes at hq
    cases hok : okTimes ts
    · rw [hok] at hT
      clear h1 hq hc1 hok
      generalize ts.length = n at *
      go_enter Try.func9, Try.ntmps9
      go_wp2_with (go_at_call 29; (with_reducible refine (hT.out).mono ?_); rintro e w' ⟨rfl, rfl⟩)
      go_ret3
      exact hP.out
    · have hm : inB m 1 8 = false := by rw [hok] at hq; simpa using hq
      rw [hok] at hT
      clear h1 hq hc1 hok
      generalize ts.length = n at *
      go_enter Try.func9, Try.ntmps9
      go_wp2_with (first | (go_at_call 29; (with_reducible refine (hT.out).mono ?_); rintro e w' ⟨rfl, rfl⟩) | (go_at_call 30; refine (l02Machines_any _ _).mono ?_; rw [hm]; rintro e w' ⟨rfl, rfl⟩))
      go_ret3
      exact hP.out
  · have hq' := hq
    simp only [areTimes, Bool.and_eq_true] at hq'
    obtain ⟨hok, hm⟩ := hq'
    obtain ⟨m1, m2⟩ := inB_true hm
    obtain ⟨M, rfl⟩ : ∃ M : Nat, m = M := ⟨m.toNat, by omega⟩
    have hL := Lib.hid (l02Longest_any B v1 ts M w h1 hB hok (by omega) (by omega))
    have hPo : planOk ts (longO ts) (M : Int) = true := by unfold planOk; rw [hq, longO_ord]; rfl
    have hP : Hid (∀ e w', Plan2Post ts (longO ts) M w e w' → ∃ (v' : Value) (z : Int), e = .returned (.tuple #[v', .int .i64 z]) ∧ PlanPost ts (longO ts) M w (.returned (.tuple #[v', .int .i64 z, .bool true])) w') := Lib.hid fun e w' ⟨v', he, ho, hb⟩ => by
      refine ⟨v', _, he, v', ?_, ?_, hb⟩
      · unfold planLast; rw [hPo, if_pos rfl, Int.toNat_natCast]
      · unfold planRes; rw [hPo, if_pos rfl, Int.toNat_natCast, (planTo_length _ _ _ _).1]; exact ho
    rw [hok] at hT
    obtain ⟨a1, cap1, hv1, hl1, _, _, hc1⟩ := h1.at_
    subst hv1
    generalize PlanPost ts (longO ts) (M : Int) w = Q at *
    generalize Plan2Post ts (longO ts) M w = Q2 at *
    clear h1 hq hc1 hok hPo m1 m2
    generalize ts.length = n at *
    go_enter Try.func9, Try.ntmps9
    go_wp2_with (first | (go_at_call 29; (with_reducible refine (hT.out).mono ?_); rintro e w' ⟨rfl, rfl⟩) | (go_at_call 30; refine (l02Machines_any _ _).mono ?_; rw [hm]; rintro e w' ⟨rfl, rfl⟩) | (go_at_call 31; (with_reducible refine (hL.out).mono ?_); intro e w2 hp; obtain ⟨v', z, rfl, hf⟩ := hP.out e w2 hp; have hR := Lib.hid hf; clear hf hp))
    go_ret3
    exact hR.out
theorem longestFirst_both (ts : List Int) (m : Int) (_ : ∀ x ∈ ts, (Lit.int .i64 x).wf = true) (_ : (Lit.int .i64 m).wf = true) : ∃ (r0 : List Int) (r1 : Int) (r2 : Bool), r0.length ≤ 1048576 ∧
    (∀ (B : Nat) (v1 : Value) (w : World), LstI B w v1 ts → B ≤ w.heap.size → Calls Try.prog 9 #[v1, .int .i64 m] w fun e w' => ∃ v', e = .returned (.tuple #[v', .int .i64 r1, .bool r2]) ∧ Lst.Own w.heap.size w'.heap.size w' v' 2 1 r0.length (r0.map (Value.int .i64)) ∧ Below w.heap.size w w') ∧
    (∀ (B : Nat) (v1 : Value) (w : World), LstI B w v1 ts → B ≤ w.heap.size → Calls Try.prog 11 #[v1, .int .i64 m] w fun e w' => ∃ v', e = .returned (.tuple #[v', .int .i64 r1, .bool r2]) ∧ Lst.Own w.heap.size w'.heap.size w' v' 2 1 r0.length (r0.map (Value.int .i64)) ∧ Below w.heap.size w w') :=
  ⟨planRes ts (longO ts) m, planLast ts (longO ts) m, planOk ts (longO ts) m, planRes_length ts (longO ts) m, fun B v1 w h1 hB => specLongestFirst_any B v1 ts m w h1 hB, fun B v1 w h1 hB => implLongestFirst_any B v1 ts m w h1 hB⟩
end Go.Proofs.Ytehobcmjjcmfnaa
