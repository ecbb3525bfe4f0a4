/- Contracts: a table that is turned. -/
import Derived.Test.YthliapjnfcahlaaEvents
import Derived.Test.YthliapjnfcahlaaShopRows
namespace Go.Proofs.Ythliapjnfcahlaa
open Go.RowKit Go.Lst

def canTurn (ts : List Int) (p by_ : Int) : Bool := okEvents ts p && inB by_ (-1000) 1000
def turnAt (ts : List Int) (p by_ : Int) (i : Nat) : Int := remG (ts.getD i 0 + by_) p
def turnRes (ts : List Int) (p by_ : Int) : List Int := if canTurn ts p by_ then fillI (turnAt ts p by_) ts.length else []
theorem canTurn_of {ts : List Int} {p by_ : Int} (h : canTurn ts p by_ = true) : okEvents ts p = true ∧ inB by_ (-1000) 1000 = true := by
  simpa only [canTurn, Bool.and_eq_true] using h
theorem turnRes_length (ts : List Int) (p by_ : Int) : (turnRes ts p by_).length ≤ 1048576 := by
  unfold turnRes
  split
  · rename_i h
    have := okEvents_of (canTurn_of h).1
    rw [fillI_length]
    omega
  · simp
/-- What has been told, and noughts behind it. -/
def fillZ (f : Nat → Int) (k n : Nat) : List Int := fillI f k ++ List.replicate (n - k) 0
theorem fillZ_length {f : Nat → Int} {k n : Nat} (h : k ≤ n) : (fillZ f k n).length = n := by
  unfold fillZ
  rw [List.length_append, fillI_length, List.length_replicate]; omega
theorem fillZ_zero (f : Nat → Int) (n : Nat) : fillZ f 0 n = List.replicate n 0 := by
  unfold fillZ fillI; simp
theorem fillZ_all (f : Nat → Int) (n : Nat) : fillZ f n n = fillI f n := by
  unfold fillZ; simp
theorem fillZ_set (f : Nat → Int) {k n : Nat} (h : k < n) : (fillZ f k n).set k (f k) = fillZ f (k + 1) n := by
  unfold fillZ
  rw [List.set_append_right _ _ (by rw [fillI_length]; exact Nat.le_refl _), fillI_length, Nat.sub_self, fillI_succ, List.append_assoc]
  congr 1
  have : n - k = (n - (k + 1)) + 1 := by omega
  rw [this, List.replicate_succ]; rfl

set_option maxHeartbeats 4000000 in
theorem implTurn_any (B : Nat) (v : Value) (ts : List Int) (p by_ : Int) (w : World) (h : LstI B w v ts) (hB : B ≤ w.heap.size) :
    Calls Try.prog 38 #[v, .int .i64 p, .int .i64 by_] w (ListPost (turnRes ts p by_) (canTurn ts p by_) w) := by
  have hT := Lib.hid (areEventTimes_any B v ts p w h)
  obtain ⟨a, cap, rfl, hl, _, _, hc⟩ := h.at_
  clear h
  cases hq : canTurn ts p by_
  · have hP := Lib.hid (list_no (r := turnRes ts p by_) (ok := false) (w := w) (w' := w) (by unfold turnRes; rw [hq]; rfl) rfl (Below.refl _ _))
    generalize ListPost (turnRes ts p by_) false w = Q at *
    unfold canTurn at hq
    clear hc
    cases hq1 : okEvents ts p
    · rw [hq1] at hT
      generalize ts.length = n at *
      unfold maxLen at hl
      clear hq hq1
      go_enter Try.func38, Try.ntmps38
      go_wp2_with (go_at_call 69; (with_reducible refine (hT.out).mono ?_); rintro e w' ⟨rfl, rfl⟩)
      first | exact hP.out | (go_ret2; exact hP.out)
    · rw [hq1] at hT
      rw [hq1, Bool.true_and] at hq
      generalize ts.length = n at *
      unfold maxLen at hl
      clear hq1
      go_enter Try.func38, Try.ntmps38
      go_wp2_with (first | (go_at_call 69; (with_reducible refine (hT.out).mono ?_); rintro e w' ⟨rfl, rfl⟩) | (go_at_call 55; refine (isWithin_any _ _ _ _).mono ?_; rintro e w' ⟨rfl, rfl⟩))
      first | exact hP.out | (go_ret2; exact hP.out)
  · obtain ⟨hq1, hq2⟩ := canTurn_of hq
    obtain ⟨n1, n12, p1, p60, ht⟩ := okEvents_of hq1
    have hby1 := (inB_true hq2).1
    have hby2 := (inB_true hq2).2
    rw [hq1] at hT
    have hP : Hid (∀ w' (l : List Int), l = fillZ (turnAt ts p by_) ts.length ts.length → w'.ownsRow w.heap.size 2 1 (.slice (some ⟨w.heap.size, 0, none⟩) ts.length ts.length) ts.length (l.map (Value.int .i64)) → Below w.heap.size w w' → ListPost (turnRes ts p by_) true w (.returned (.tuple #[.slice (some ⟨w.heap.size, 0, none⟩) ts.length ts.length, .bool true])) w') := Lib.hid fun w' l hS ho hb => by
      have hr : turnRes ts p by_ = l := by unfold turnRes; rw [hq, if_pos rfl, hS, fillZ_all]
      rw [hr]
      exact list_yes rfl (Nat.le_refl _) (by rw [hS, fillZ_length (Nat.le_refl _)]) ho (by omega) hb
    have hSet : Hid (∀ k x, k < ts.length → ts[k]? = some x → 0 ≤ x ∧ x ≤ p - 1 ∧ (fillZ (turnAt ts p by_) k ts.length).set k (remG (x + by_) p) = fillZ (turnAt ts p by_) (k + 1) ts.length) := Lib.hid fun k x hk hx => by
      refine ⟨(ht k x hx).1, (ht k x hx).2, ?_⟩
      rw [← fillZ_set _ hk]
      unfold turnAt
      rw [getD_of hx]
    have hLen : Hid (∀ k, k ≤ ts.length → (fillZ (turnAt ts p by_) k ts.length).length = ts.length) := Lib.hid fun k hk => fillZ_length hk
    have hZe := Lib.hid (fillZ_zero (turnAt ts p by_) ts.length)
    have hC := Lib.hid hc
    obtain ⟨i0, hi, hz0, hz1, hz2⟩ := info_parts infoI
    generalize ListPost (turnRes ts p by_) true w = Q at *
    clear hc hq hq1 ht
    generalize fillZ (turnAt ts p by_) = FZ at *
    generalize ts.length = n at *
    unfold maxLen at hl
    go_enter Try.func38, Try.ntmps38
    go_wp2_with (first | (go_at_call 69; (with_reducible refine (hT.out).mono ?_); rintro e w' ⟨rfl, rfl⟩) | (go_at_call 55; refine (isWithin_any _ _ _ _).mono ?_; rintro e w' ⟨rfl, rfl⟩) | (at_make; refine wpList_make_full _ rfl _ _ _ rfl w.heap.size _ i0 (.int .i64 0) 1 Try.underlying38 hi hz0 hz1 _ _ _ _ n rfl rfl rfl rfl ?c1 ?c2 ?c3 ?_))
    case c1 => rw [hz2]; omega
    case c2 => unfold maxLen; omega
    case c3 => exact Nat.le_refl _
    intro w2 hown2 hg2
    have hB2 := Lib.hid ((Below.refl w.heap.size w).grown hg2 (Nat.le_refl _) (fun k hk => by cases hk))
    have hO2 := Lib.hid (zeros_row hown2)
    clear hown2 hg2 hz0 hz1 hz2 hi
    generalize hgg : w.heap.size = g at *
    have hGG := Lib.hid hgg
    clear hgg hq2
    go_wp2_with fail
    go_loopw [25] (fun ii wr => ∃ (k : Nat) (l : List Int), k ≤ n ∧ ii = .int .i64 k ∧ Hid (l = FZ k n) ∧ Hid (wr.ownsRow g 2 1 (.slice (some ⟨g, 0, none⟩) n n) n (l.map (Value.int .i64))) ∧ Hid (Below g w wr)) (fun ii _ => n - (intOf ii).toNat)
    case atStart => exact ⟨0, _, Nat.zero_le _, rfl, Lib.hid hZe.out.symm, hO2, hB2⟩
    case round =>
      clear hB2 hO2
      obtain ⟨k, l, hk, rfl, hS, hO, hB⟩ := hrel
      by_cases hlt : k < n
      · obtain ⟨b1, o1, x, rfl, hb1, hx, p0⟩ := hC.out k hlt
        obtain ⟨x0, x1, hset⟩ := hSet.out k x hlt hx
        have hln := hLen.out k hk
        rw [← hS.out] at hset hln
        rw [← hB.out.cell (p := ⟨b1, o1 + k, none⟩) (show b1 < g by have := hGG.out; omega)] at p0
        have hd : wr.cell? ⟨g, k, none⟩ = some (.int .i64 (l.getD k 0)) := by rw [row_cell hO.out (by omega)]
        have hfr : wr.frozen? ⟨g, k, none⟩ = false := hO.out.frozenAt k
        have hw1 : IntKind.i64.wrap (x + by_) = x + by_ := IntWalk.i64_in _ (by omega)
        have hS3 := Lib.hid hset
        have hst := row_set hO.out k (remG (x + by_) p)
        have hO4 := Lib.hid hst.1
        have hB4 := Lib.hid (hB.out.setCell (p := ⟨g, k, none⟩) (Nat.le_refl _) (.int .i64 (remG (x + by_) p)))
        clear hx hst hset hln hO hB
        go_wp2_with (go_at_call 75; refine (remainderOf_any _ _ _ p1 p60).mono ?_; rintro e w' ⟨rfl, rfl⟩)
        go_roundw
        case rel => exact ⟨k + 1, _, by omega, by go_num, hS3, hO4, hB4⟩
        case measure => simp [intOf]; omega
      · have hkn := Lib.hid (show k = n by omega)
        have hR := Lib.hid (hP.out wr l (by have := hS.out; rw [hkn.out] at this; exact this) hO.out hB.out)
        clear hO hB hS
        go_wp2_with fail
        first | exact hR.out | (go_ret2; exact hR.out)
set_option maxHeartbeats 4000000 in
theorem specTurn_any (B : Nat) (v : Value) (ts : List Int) (p by_ : Int) (w : World) (h : LstI B w v ts) (hB : B ≤ w.heap.size) :
    Calls Try.prog 37 #[v, .int .i64 p, .int .i64 by_] w (ListPost (turnRes ts p by_) (canTurn ts p by_) w) := by
  have hT := Lib.hid (l05Table_any B v ts p w h)
  obtain ⟨a, cap, rfl, hl, _, _, hc⟩ := h.at_
  clear h
  cases hq : canTurn ts p by_
  · have hP := Lib.hid (list_no (r := turnRes ts p by_) (ok := false) (w := w) (w' := w) (by unfold turnRes; rw [hq]; rfl) rfl (Below.refl _ _))
    generalize ListPost (turnRes ts p by_) false w = Q at *
    unfold canTurn at hq
    clear hc
    cases hq1 : okEvents ts p
    · rw [hq1] at hT
      generalize ts.length = n at *
      unfold maxLen at hl
      clear hq hq1
      go_enter Try.func37, Try.ntmps37
      go_wp2_with (go_at_call 76; (with_reducible refine (hT.out).mono ?_); rintro e w' ⟨rfl, rfl⟩)
      first | exact hP.out | (go_ret2; exact hP.out)
    · rw [hq1] at hT
      rw [hq1, Bool.true_and] at hq
      generalize ts.length = n at *
      unfold maxLen at hl
      clear hq1
      go_enter Try.func37, Try.ntmps37
      go_wp2_with (first | (go_at_call 76; (with_reducible refine (hT.out).mono ?_); rintro e w' ⟨rfl, rfl⟩) | (go_at_call 72; refine (l00In_any _ _ _ _).mono ?_; rintro e w' ⟨rfl, rfl⟩))
      first | exact hP.out | (go_ret2; exact hP.out)
  · obtain ⟨hq1, hq2⟩ := canTurn_of hq
    obtain ⟨n1, n12, p1, p60, ht⟩ := okEvents_of hq1
    have hby1 := (inB_true hq2).1
    have hby2 := (inB_true hq2).2
    rw [hq1] at hT
    have hP : Hid (∀ (w' : World) (v : Value), w'.ownsRow w.heap.size 2 1 v ts.length ((fillI (turnAt ts p by_) ts.length).map (Value.int .i64)) → Below w.heap.size w w' → ListPost (turnRes ts p by_) true w (.returned (.tuple #[v, .bool true])) w') := Lib.hid fun w' v ho hb => by
      have hr : turnRes ts p by_ = fillI (turnAt ts p by_) ts.length := by unfold turnRes; rw [hq, if_pos rfl]
      rw [hr]
      exact list_yes rfl (Nat.le_refl _) (fillI_length _ _) ho (by omega) hb
    have hSet : Hid (∀ k x, k < ts.length → ts[k]? = some x → 0 ≤ x ∧ x ≤ p - 1 ∧ turnAt ts p by_ k = remG (x + by_) p) := Lib.hid fun k x hk hx => by
      refine ⟨(ht k x hx).1, (ht k x hx).2, ?_⟩
      unfold turnAt
      rw [getD_of hx]
    have hFs := Lib.hid (fillI_succ (turnAt ts p by_))
    have hC := Lib.hid hc
    obtain ⟨i0, hi, hz0, hz1, hz2⟩ := info_parts infoI
    generalize ListPost (turnRes ts p by_) true w = Q at *
    clear hc hq hq1 ht
    generalize turnAt ts p by_ = F at *
    generalize ts.length = n at *
    unfold maxLen at hl
    go_enter Try.func37, Try.ntmps37
    go_wp2_with (first | (go_at_call 76; (with_reducible refine (hT.out).mono ?_); rintro e w' ⟨rfl, rfl⟩) | (go_at_call 72; refine (l00In_any _ _ _ _).mono ?_; rintro e w' ⟨rfl, rfl⟩))
    have hO0 := Lib.hid (show (w.alloc (Obj.cells #[] 2)).ownsRow w.heap.size 2 1 (.slice (some ⟨w.heap.size, 0, none⟩) 0 0) 0 ((fillI F 0).map (Value.int .i64)) from World.ownsRow_lit w #[] 0 (Nat.le_refl _) (Nat.zero_le _) rfl)
    have hB0 := Lib.hid (show Below w.heap.size w (w.alloc (Obj.cells #[] 2)) from below_alloc (Below.refl _ _) _)
    generalize w.alloc (Obj.cells #[] 2) = w4 at *
    generalize hgg : w.heap.size = g at *
    have hGG := Lib.hid hgg
    clear hgg hq2
    go_loopw [8, 22] (fun gv iv wr => ∃ (i : Nat), i ≤ n ∧ iv = .int .i64 i ∧ Hid (wr.ownsRow g 2 1 gv i ((fillI F i).map (Value.int .i64))) ∧ Hid (Below g w wr)) (fun _ iv _ => n - (intOf iv).toNat)
    case atStart => exact ⟨0, Nat.zero_le _, rfl, hO0, hB0⟩
    case round =>
      clear hO0 hB0
      obtain ⟨k, hk, rfl, hO, hB7⟩ := hrel
      by_cases hlt : k < n
      · obtain ⟨b1, o1, x, rfl, hb1, hx, p0⟩ := hC.out k hlt
        obtain ⟨x0, x1, hset⟩ := hSet.out k x hlt hx
        rw [← hB7.out.cell (p := ⟨b1, o1 + k, none⟩) (show b1 < g by have := hGG.out; omega)] at p0
        have hgs := Lib.hid (show g ≤ wr.heap.size by have := hB7.out.size; rw [hGG.out] at this; exact this)
        have a1 := tmod_in (x := x + by_) p1
        have hp0 : ¬ p = 0 := by omega
        have hpb : (p == 0) = false := by simpa using hp0
        have hw1 : IntKind.i64.wrap (x + by_) = x + by_ := IntWalk.i64_in _ (by omega)
        have b1 := remG_in (x := x + by_) p1
        obtain ⟨A, hA⟩ : ∃ A, (x + by_).tmod p = A := ⟨_, rfl⟩
        obtain ⟨R, hR⟩ : ∃ R, remG (x + by_) p = R := ⟨_, rfl⟩
        have hw2 : IntKind.i64.wrap ((x + by_).tmod p) = A := by rw [hA]; exact IntWalk.i64_in _ (by omega)
        have hw3 : IntKind.i64.wrap (A + p) = A + p := IntWalk.i64_in _ (by omega)
        have hw4 : (A + p).tmod p = R := by rw [← hA, tm_eq2 p1, hR]
        have hw5 : (A + p) % p = R := by rw [← hA, tm_eq, hR]
        have hw6 : IntKind.i64.wrap R = R := IntWalk.i64_in _ (by omega)
        have hv0 := Lib.hid (show F k = R by rw [hset, hR])
        rw [hA] at a1
        clear b1 hR
        clear hx hset
        go_wp2_with (at_builtin; refine wpList_append_own _ rfl _ _ _ rfl g 2 i0 (.int .i64 0) 1 8 Try.underlying38 hi hz0 hz1 hz2 rfl (by decide) _ k _ rfl (hO.out.alloc _) ⟨wr.heap.size, 0, none⟩ 1 1 [.int .i64 R] rfl rfl (news1 wr _ _) (one_int _) (by unfold maxLen; omega) (by omega) (grow_le hgs.out _) ?_; intro v8 w8 hown8 hgrow8 hnil8; have hB8 := Lib.hid (below_app hB7.out hO.out hgrow8 hgs.out (Nat.le_refl _)); have hO8 := Lib.hid (show w8.ownsRow g 2 1 v8 (k + 1) ((fillI F (k + 1)).map (Value.int .i64)) by rw [hFs.out, List.map_append, hv0.out]; exact hown8); clear hown8 hgrow8 hnil8)
        go_roundw
        case rel => exact ⟨k + 1, by omega, by go_num, hO8, hB8⟩
        case measure => simp [intOf]; omega
      · obtain rfl : n = k := by omega
        have hR := Lib.hid (hP.out wr _ hO.out hB7.out)
        clear hO hB7
        go_wp2_with fail
        first | exact hR.out | (go_ret2; exact hR.out)
theorem turnTable_both (ts : List Int) (p by_ : Int) (_ : ∀ x ∈ ts, (Lit.int .i64 x).wf = true) (_ : (Lit.int .i64 p).wf = true) (_ : (Lit.int .i64 by_).wf = true) : ∃ (r0 : List Int) (r1 : Bool), r0.length ≤ 1048576 ∧
    (∀ (B : Nat) (v1 : Value) (w : World), LstI B w v1 ts → B ≤ w.heap.size → Calls Try.prog 37 #[v1, .int .i64 p, .int .i64 by_] w fun e w' => ∃ v', e = .returned (.tuple #[v', .bool r1]) ∧ Own w.heap.size w'.heap.size w' v' 2 1 r0.length (r0.map (Value.int .i64)) ∧ Below w.heap.size w w') ∧
    (∀ (B : Nat) (v1 : Value) (w : World), LstI B w v1 ts → B ≤ w.heap.size → Calls Try.prog 38 #[v1, .int .i64 p, .int .i64 by_] w fun e w' => ∃ v', e = .returned (.tuple #[v', .bool r1]) ∧ Own w.heap.size w'.heap.size w' v' 2 1 r0.length (r0.map (Value.int .i64)) ∧ Below w.heap.size w w') :=
  ⟨turnRes ts p by_, canTurn ts p by_, turnRes_length ts p by_, fun B v1 w h1 hB => specTurn_any B v1 ts p by_ w h1 hB, fun B v1 w h1 hB => implTurn_any B v1 ts p by_ w h1 hB⟩
end Go.Proofs.Ythliapjnfcahlaa
