/- Lists of what is saved: a word for them, and contracts of the law's own functions on them (measured, compared). -/
import Derived.Test.YtnffkfknnnknoaaSaved
namespace Go.Proofs.Ytnffkfknnnknoaa
open Go.RowKit Go.Lst

def vone (x : SavedD) : Nat := x.name.size + tsz x.tasks + x.starts.length
def vin : List SavedD → Nat
  | [] => 0
  | x :: xs => vone x + vin xs
theorem vin_take {xs : List SavedD} {k : Nat} {x : SavedD} (hx : xs[k]? = some x) : vin (xs.take (k + 1)) = vin (xs.take k) + vone x := by
  induction xs generalizing k with
  | nil => simp at hx
  | cons y ys ih =>
    cases k with
    | zero => obtain rfl : y = x := by simpa using hx
              simp [vin]
    | succ k => have := ih (k := k) (by simpa using hx)
                simp only [List.take_succ_cons, vin, this]; omega
theorem vin_take_le (xs : List SavedD) (k : Nat) : vin (xs.take k) ≤ vin xs := by
  induction xs generalizing k with
  | nil => simp
  | cons y ys ih =>
    cases k with
    | zero => simp [vin]
    | succ k => have := ih k; simp only [List.take_succ_cons, vin]; omega
def vsz (xs : List SavedD) : Nat := xs.length + vin xs

/-- The slice v holds the ones saved. -/
def LstSavedS (B : Nat) (w : World) (v : Value) (xs : List SavedD) : Prop := ∃ a cap, v = .slice a xs.length cap ∧ xs.length ≤ maxLen ∧ xs.length ≤ cap ∧ cap ≤ maxLen ∧
  ∀ (k : Nat) (x : SavedD), xs[k]? = some x → ∃ b o vt vs, a = some ⟨b, o, none⟩ ∧ b < B ∧ w.cell? ⟨b, o + k * 3, none⟩ = some (.string x.name) ∧ w.cell? ⟨b, o + k * 3 + 1, none⟩ = some vt ∧
    w.cell? ⟨b, o + k * 3 + 2, none⟩ = some vs ∧ LstTask B w vt x.tasks ∧ LstI B w vs x.starts ∧ x.name.size ≤ maxLen
theorem LstSavedS.below {B B' : Nat} {w w' : World} {v : Value} {xs : List SavedD} (h : LstSavedS B w v xs) (hb : Below B' w w') (hB : B ≤ B') : LstSavedS B w' v xs := by
  obtain ⟨a, cap, hv, hl, h1, h2, hc⟩ := h
  refine ⟨a, cap, hv, hl, h1, h2, fun k x hx => ?_⟩
  obtain ⟨b, o, vt, vs, ha, hlt, c0, c1, c2, l0, l1, hp⟩ := hc k x hx
  refine ⟨b, o, vt, vs, ha, hlt, ?_, ?_, ?_, l0.below hb hB, l1.below hb hB, hp⟩
  · rw [hb.cell (p := ⟨b, o + k * 3, none⟩) (show b < B' by omega)]; exact c0
  · rw [hb.cell (p := ⟨b, o + k * 3 + 1, none⟩) (show b < B' by omega)]; exact c1
  · rw [hb.cell (p := ⟨b, o + k * 3 + 2, none⟩) (show b < B' by omega)]; exact c2
theorem LstSavedS.mono {B B' : Nat} {w : World} {v : Value} {xs : List SavedD} (h : LstSavedS B w v xs) (hB : B ≤ B') : LstSavedS B' w v xs := by
  obtain ⟨a, cap, hv, hl, h1, h2, hc⟩ := h
  refine ⟨a, cap, hv, hl, h1, h2, fun k x hx => ?_⟩
  obtain ⟨b, o, vt, vs, ha, hlt, c0, c1, c2, l0, l1, hp⟩ := hc k x hx
  exact ⟨b, o, vt, vs, ha, by omega, c0, c1, c2, l0.mono hB, l1.mono hB, hp⟩
theorem LstSavedS.at_ {B : Nat} {w : World} {v : Value} {xs : List SavedD} (h : LstSavedS B w v xs) : ∃ a cap, v = .slice a xs.length cap ∧ xs.length ≤ maxLen ∧ xs.length ≤ cap ∧ cap ≤ maxLen ∧
    ∀ k, k < xs.length → ∃ b o x vt vs, a = some ⟨b, o, none⟩ ∧ b < B ∧ xs[k]? = some x ∧ w.cell? ⟨b, o + k * 3, none⟩ = some (.string x.name) ∧ w.cell? ⟨b, o + k * 3 + 1, none⟩ = some vt ∧
      w.cell? ⟨b, o + k * 3 + 2, none⟩ = some vs ∧ LstTask B w vt x.tasks ∧ LstI B w vs x.starts ∧ x.name.size ≤ maxLen := by
  obtain ⟨a, cap, hv, hl, h1, h2, hc⟩ := h
  refine ⟨a, cap, hv, hl, h1, h2, fun k hk => ?_⟩
  have e1 : xs[k]? = some xs[k] := List.getElem?_eq_getElem _
  obtain ⟨b, o, vt, vs, ha, hlt, hr⟩ := hc k _ e1
  exact ⟨b, o, _, vt, vs, ha, hlt, e1, hr⟩
/-- A copy of the call's own: it hangs on the blocks from A to B alone. -/
def OwnSavedS (A B : Nat) (w : World) (v : Value) (xs : List SavedD) : Prop := ∀ w' : World, (∀ g, A ≤ g → g < B → w'.heap[g]? = w.heap[g]?) → LstSavedS B w' v xs
theorem OwnSavedS.below {A B C : Nat} {w w' : World} {v : Value} {xs : List SavedD} (h : OwnSavedS A B w v xs) (hb : Below C w w') (hC : B ≤ C) : OwnSavedS A B w' v xs :=
  fun w'' hs => h w'' fun g h1 h2 => (hs g h1 h2).trans (hb.block g (by omega))
theorem OwnSavedS.lst {A B B' : Nat} {w : World} {v : Value} {xs : List SavedD} (h : OwnSavedS A B w v xs) (hB : B ≤ B') : LstSavedS B' w v xs := (h w (fun _ _ _ => rfl)).mono hB

theorem ret_intz {p q : Int} (h : p = q) : Ending.returned (.int .i64 p) = .returned (.int .i64 q) := by rw [h]
set_option maxHeartbeats 2000000 in
theorem szSavedL_any (B : Nat) (V : Value) (d : SavedD) (left : Int) (w : World) (h : LstSaved B w V d) (hB : B ≤ w.heap.size) (hp : d.name.size ≤ maxLen) (g0 : 0 ≤ left) (g1 : left ≤ 1048576) :
    Calls Try.prog 5 #[V, .int .i64 left] w fun e w' => e = .returned (.int .i64 (if (vone d : Int) ≤ left then left - vone d else -1)) ∧ Below w.heap.size w w' := by
  obtain ⟨vt, vs, rfl, ht, hs⟩ := h
  have hT1 := Lib.hid (fun w' (hb : Below w.heap.size w w') left h0 h1 => szTaskS_fits B vt d.tasks left w' (ht.below hb hB) (Nat.le_trans hB hb.size) h0 h1)
  have hT2 := Lib.hid (fun w' (hb : Below w.heap.size w w') left h0 h1 h2 => szTaskS_over B vt d.tasks left w' (ht.below hb hB) (Nat.le_trans hB hb.size) h0 h1 h2)
  have hV : vone d = d.name.size + tsz d.tasks + d.starts.length := rfl
  obtain ⟨a1, c1, rfl, l1, -⟩ := ht
  obtain ⟨a2, c2, rfl, l2, -⟩ := hs
  have m2 := l2
  generalize d.tasks.length = n1 at *
  generalize d.starts.length = n2 at *
  generalize d.name = nm at *
  generalize tsz d.tasks = z at *
  generalize vone d = V at *
  unfold maxLen at l1 l2 hp
  have hb0 := Lib.hid (below_alloc (Below.refl w.heap.size w) (.cells #[.string nm, .slice a1 n1 c1, .slice a2 n2 c2] 25))
  have hX := Lib.hid (Whole.made w 25 #[.string nm, .slice a1 n1 c1, .slice a2 n2 c2] (b := w.heap.size) rfl)
  by_cases e1 : left < nm.size
  · rw [if_neg (by omega)]
    clear hV
    go_enter Try.func5, Try.ntmps5
    go_wp2_with fail
    go_ret
    exact ⟨rfl, hb0.out⟩
  by_cases e2 : left - nm.size < z
  · rw [if_neg (by omega)]
    clear hV
    have hC := Lib.hid (hT2.out _ hb0.out (left - nm.size) e2 (by omega) (by omega))
    clear hT1 hT2 hX
    go_enter Try.func5, Try.ntmps5
    go_wp2_with (go_at_call 15; (with_reducible refine (hC.out).mono ?_); rintro e w' ⟨rfl, hb⟩; have hB1 := Lib.hid (below_on hb0.out (Nat.le_refl _) hb); clear hb)
    go_ret
    exact ⟨rfl, hB1.out⟩
  have hC := Lib.hid (hT1.out _ hb0.out (left - nm.size) (by omega) (by omega))
  clear hT1 hT2
  by_cases e3 : left - nm.size - z < n2
  · rw [if_neg (by omega)]
    clear hV
    have hD := Lib.hid (fun w => szInt64S_over a2 n2 c2 (left - nm.size - z) w e3 (by omega) m2 (by omega))
    go_enter Try.func5, Try.ntmps5
    go_wp2_with (first | (go_at_call 15; (with_reducible refine (hC.out).mono ?_); rintro e w' ⟨rfl, hb⟩; have hB1 := Lib.hid (below_on hb0.out (Nat.le_refl _) hb); have hX1 := Lib.hid (hX.out.kept hb); have x2 := hX1.out.at_ (i := 2) rfl; clear hb) | (go_at_call 16; (with_reducible refine (hD.out _).mono ?_); rintro e w' ⟨rfl, rfl⟩))
    go_ret
    exact ⟨rfl, hB1.out⟩
  rw [if_pos (by omega)]
  have hVv := Lib.hid hV
  clear hV
  have hD := Lib.hid (fun w => szInt64S_fits a2 n2 c2 (left - nm.size - z) w (by omega) (by omega))
  go_enter Try.func5, Try.ntmps5
  go_wp2_with (first | (go_at_call 15; (with_reducible refine (hC.out).mono ?_); rintro e w' ⟨rfl, hb⟩; have hB1 := Lib.hid (below_on hb0.out (Nat.le_refl _) hb); have hX1 := Lib.hid (hX.out.kept hb); have x2 := hX1.out.at_ (i := 2) rfl; clear hb) | (go_at_call 16; (with_reducible refine (hD.out _).mono ?_); rintro e w' ⟨rfl, rfl⟩))
  go_ret
  exact ⟨ret_intz (by rw [hVv.out]; omega), hB1.out⟩
set_option maxHeartbeats 2000000 in
set_option maxRecDepth 100000 in
theorem szSavedS_any (B : Nat) (v : Value) (xs : List SavedD) (left : Int) (w : World) (hL : LstSavedS B w v xs) (hB : B ≤ w.heap.size) (h1 : left ≤ 1048576) (h0 : 0 ≤ left) :
    Calls Try.prog 10 #[v, .int .i64 left] w fun e w' => e = .returned (.int .i64 (if (vsz xs : Int) ≤ left then left - vsz xs else -1)) ∧ Below w.heap.size w w' := by
  obtain ⟨a, cap, rfl, hl, _, _, hc⟩ := hL.at_
  have hT : Hid (∀ (k : Nat) (x : SavedD), xs[k]? = some x → vin (xs.take (k + 1)) = vin (xs.take k) + vone x) := Lib.hid fun k x hx => vin_take hx
  have hU : Hid (∀ k, vin (xs.take k) ≤ vin xs) := Lib.hid fun k => vin_take_le xs k
  have hZ : Hid (vin (xs.take 0) = 0) := Lib.hid (by simp [vin])
  have hA : Hid (∀ k, k = xs.length → vin (xs.take k) = vin xs) := Lib.hid fun k hk => by rw [hk, List.take_length]
  have hV : Hid (vsz xs = xs.length + vin xs) := Lib.hid rfl
  have hC := Lib.hid hc
  clear hc hL
  obtain ⟨r, hr⟩ : ∃ r, r = (if (vsz xs : Int) ≤ left then left - vsz xs else -1) := ⟨_, rfl⟩
  rw [← hr]
  have hR1 : Hid ((vsz xs : Int) ≤ left → r = left - vsz xs) := Lib.hid fun h => by rw [hr, if_pos h]
  have hR2 : Hid (left < (vsz xs : Int) → r = -1) := Lib.hid fun h => by rw [hr, if_neg (by omega)]
  clear hr
  generalize xs.length = n at *
  unfold maxLen at hl
  by_cases hfirst : left < (n : Int)
  · have hF := Lib.hid (hR2.out (by rw [hV.out]; omega))
    go_enter Try.func10, Try.ntmps10
    go_wp2_with fail
    go_ret
    exact ⟨ret_intz hF.out.symm, Below.refl _ _⟩
  have hn' : (n : Int) ≤ 1048576 := by omega
  go_enter Try.func10, Try.ntmps10
  go_wp2_with fail
  go_loopw [1, 5] (fun lf i wr => ∃ k : Nat, k ≤ n ∧ i = .int .i64 k ∧ lf = .int .i64 (left - n - vin (xs.take k)) ∧ 0 ≤ left - n - vin (xs.take k) ∧ Hid (Below w.heap.size w wr)) (fun _ i _ => n - (intOf i).toNat)
  case atStart => exact ⟨0, Nat.zero_le _, rfl, by rw [hZ.out]; simp, by rw [hZ.out]; simp; omega, Lib.hid (Below.refl _ _)⟩
  case round =>
    obtain ⟨k, hk, rfl, rfl, hpos, hB1⟩ := hrel
    by_cases hlt : k < n
    · obtain ⟨b, o, x, vt, vs, rfl, hb, hx, c0, c1, c2, l0, l1, hp⟩ := hC.out k hlt
      rw [← hB1.out.cell (p := ⟨b, o + k * 3, none⟩) (show b < w.heap.size by omega)] at c0
      rw [← hB1.out.cell (p := ⟨b, o + k * 3 + 1, none⟩) (show b < w.heap.size by omega)] at c1
      rw [← hB1.out.cell (p := ⟨b, o + k * 3 + 2, none⟩) (show b < w.heap.size by omega)] at c2
      have hq1 := hT.out k x hx
      have hE := Lib.hid (show (vin (xs.take (k + 1)) : Int) = vin (xs.take k) + vone x by omega)
      have hle : left - (n : Int) - vin (xs.take k) ≤ 1048576 := by omega
      have hs : (vin (xs.take k) : Int) ≤ 1048576 := by omega
      have hJ := Lib.hid (szSavedL_any B (savedV x.name vt vs) x (left - n - vin (xs.take k)) wr ⟨vt, vs, rfl, l0.below hB1.out hB, l1.below hB1.out hB⟩ (Nat.le_trans hB hB1.out.size) hp hpos hle)
      obtain ⟨ab, nb, rfl, _⟩ := l0.at_
      obtain ⟨al, nl, rfl, _⟩ := l1.at_
      clear hq1 hx l0 l1 hp
      by_cases hb0 : (vone x : Int) ≤ left - n - vin (xs.take k)
      · rw [if_pos hb0] at hJ
        go_wp2_with fail
        refine (hJ.out).mono ?_
        rintro e w1 ⟨rfl, hw1⟩
        have hB2 := Lib.hid (below_on hB1.out (Nat.le_refl _) hw1)
        clear hw1 hB1 hJ
        go_wp2_with fail
        go_roundw
        case rel => exact ⟨k + 1, by omega, by go_num, by rw [hE.out]; exact congrArg _ (by omega), by rw [hE.out]; omega, hB2⟩
        case measure => simp [intOf]; omega
      · rw [if_neg hb0] at hJ
        have hF := Lib.hid (hR2.out (by have := hU.out (k + 1); have := hE.out; have := hV.out; omega))
        go_wp2_with fail
        refine (hJ.out).mono ?_
        rintro e w1 ⟨rfl, hw1⟩
        have hB2 := Lib.hid (below_on hB1.out (Nat.le_refl _) hw1)
        clear hw1 hB1 hJ
        go_wp2_with fail
        go_ret
        exact ⟨ret_intz hF.out.symm, hB2.out⟩
    · have hkn := Lib.hid (hA.out k (by omega))
      have hF := Lib.hid (show r = left - n - vin (xs.take k) by have := hkn.out; have := hV.out; rw [hR1.out (by omega)]; omega)
      go_wp2_with fail
      go_ret
      exact ⟨ret_intz hF.out.symm, hB1.out⟩
theorem szSavedS_fits (B : Nat) (v : Value) (xs : List SavedD) (left : Int) (w : World) (hL : LstSavedS B w v xs) (hB : B ≤ w.heap.size) (h : (vsz xs : Int) ≤ left) (h1 : left ≤ 1048576) :
    Calls Try.prog 10 #[v, .int .i64 left] w fun e w' => e = .returned (.int .i64 (left - vsz xs)) ∧ Below w.heap.size w w' := by
  have := szSavedS_any B v xs left w hL hB h1 (by omega)
  rwa [if_pos h] at this
theorem szSavedS_over (B : Nat) (v : Value) (xs : List SavedD) (left : Int) (w : World) (hL : LstSavedS B w v xs) (hB : B ≤ w.heap.size) (h : left < (vsz xs : Int)) (h1 : left ≤ 1048576) (h0 : 0 ≤ left) :
    Calls Try.prog 10 #[v, .int .i64 left] w fun e w' => e = .returned (.int .i64 (-1)) ∧ Below w.heap.size w w' := by
  have := szSavedS_any B v xs left w hL hB h1 h0
  rwa [if_neg (by omega)] at this
set_option maxHeartbeats 2000000 in
theorem eqSavedS_yes (B : Nat) (v1 v2 : Value) (xs : List SavedD) (w : World) (h1 : LstSavedS B w v1 xs) (h2 : LstSavedS B w v2 xs) (hB : B ≤ w.heap.size := by exact Nat.le_refl _) :
    Calls Try.prog 14 #[v1, v2] w fun e w' => e = .returned (.bool true) ∧ Below w.heap.size w w' := by
  obtain ⟨a1, cap1, rfl, hl1, _, _, hc1⟩ := h1.at_
  obtain ⟨a2, cap2, rfl, hl2, _, _, hc2⟩ := h2.at_
  have hC1 := Lib.hid hc1
  have hC2 := Lib.hid hc2
  clear hc1 hc2 hl2 h1 h2
  generalize xs.length = n at *
  unfold maxLen at hl1
  go_enter Try.func14, Try.ntmps14
  go_wp2
  go_loopw [5] (fun i wr => ∃ k : Nat, k ≤ n ∧ i = .int .i64 k ∧ Hid (Below w.heap.size w wr)) (fun i _ => n - (intOf i).toNat)
  case atStart => exact ⟨0, Nat.zero_le _, rfl, Lib.hid (Below.refl _ _)⟩
  case round =>
    obtain ⟨k, hk, rfl, hB1⟩ := hrel
    by_cases hlt : k < n
    · obtain ⟨b1, o1, x, vt1, vs1, rfl, hb1, hx1, p0, p1, p2, l0, l1, _⟩ := hC1.out k hlt
      obtain ⟨b2, o2, x2, vt2, vs2, rfl, hb2, hx2, q0, q1, q2, m0, m1, _⟩ := hC2.out k hlt
      obtain rfl : x = x2 := by rw [hx1] at hx2; exact Option.some.inj hx2
      rw [← hB1.out.cell (p := ⟨b1, o1 + k * 3, none⟩) (show b1 < w.heap.size by omega)] at p0
      rw [← hB1.out.cell (p := ⟨b1, o1 + k * 3 + 1, none⟩) (show b1 < w.heap.size by omega)] at p1
      rw [← hB1.out.cell (p := ⟨b1, o1 + k * 3 + 2, none⟩) (show b1 < w.heap.size by omega)] at p2
      rw [← hB1.out.cell (p := ⟨b2, o2 + k * 3, none⟩) (show b2 < w.heap.size by omega)] at q0
      rw [← hB1.out.cell (p := ⟨b2, o2 + k * 3 + 1, none⟩) (show b2 < w.heap.size by omega)] at q1
      rw [← hB1.out.cell (p := ⟨b2, o2 + k * 3 + 2, none⟩) (show b2 < w.heap.size by omega)] at q2
      have hB2 := Lib.hid (show Below w.heap.size w wr.drew from hB1.out.drew)
      have hJ := Lib.hid (eqSaved_yes B (savedV x.name vt1 vs1) (savedV x.name vt2 vs2) x wr.drew ⟨vt1, vs1, rfl, l0.below hB2.out hB, l1.below hB2.out hB⟩ ⟨vt2, vs2, rfl, m0.below hB2.out hB, m1.below hB2.out hB⟩ (Nat.le_trans hB hB2.out.size))
      clear hb1 hb2 hx1 hx2 l0 l1 m0 m1
      go_wp2_with fail
      go_still_tail 8, (by kernel_rfl)
      change wpList _ _ _ _ _ wr.drew
      generalize wr.drew = w2 at *
      go_wp2_with fail
      refine (hJ.out).mono ?_
      rintro e w3 ⟨rfl, hb3⟩
      have hB3 := Lib.hid (below_on hB2.out (Nat.le_refl _) hb3)
      clear hb3 hB2 hB1
      go_wp2_with fail
      go_roundw
      case rel => exact ⟨k + 1, by omega, by go_num, hB3⟩
      case measure => simp [intOf]; omega
    · go_wp2
      go_ret
      exact ⟨rfl, hB1.out⟩
end Go.Proofs.Ytnffkfknnnknoaa
