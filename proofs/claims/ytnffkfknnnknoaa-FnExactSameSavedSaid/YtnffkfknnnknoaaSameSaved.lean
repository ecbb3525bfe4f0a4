/- Contracts: two lists of what is saved compared, in the program and in the model. -/
import Derived.Test.YtnffkfknnnknoaaSavedS
import Derived.Test.YtnffkfknnnknoaaSameOne
namespace Go.Proofs.Ytnffkfknnnknoaa
open Go.RowKit Go.Lst

theorem text_eq_of {a b : ByteArray} (h : a.toList = b.toList) : a = b := Go.WideShapes.bytes_inj (by rwa [ByteArray.toList_eq, ByteArray.toList_eq] at h)
instance : DecidableEq SavedD := fun x y => decidable_of_iff (x.name = y.name ∧ x.tasks = y.tasks ∧ x.starts = y.starts) (by cases x; cases y; simp only [SavedD.mk.injEq])
theorem savedEq (x y : SavedD) : decide (x = y) = (decide (x.name = y.name) && decide (x.tasks = y.tasks) && decide (x.starts = y.starts)) := by
  cases x; cases y
  rw [Bool.eq_iff_iff]
  simp only [SavedD.mk.injEq, decide_eq_true_eq, Bool.and_eq_true, and_assoc]
set_option maxHeartbeats 2000000 in
theorem savedOne_any (B : Nat) (x y : SavedD) (U V : Value) (w : World) (hB : B ≤ w.heap.size) (h1 : LstSaved B w U x) (h2 : LstSaved B w V y) :
    Calls Try.prog 28 #[U, V] w fun e w' => e = .returned (.bool (decide (x = y))) ∧ Below w.heap.size w w' := by
  rw [savedEq]
  obtain ⟨ut, us, rfl, ht1, hs1⟩ := h1
  obtain ⟨vt, vs, rfl, ht2, hs2⟩ := h2
  have hT := Lib.hid (fun w' (hb : Below w.heap.size w w') => implSameTasks_any w.heap.size ut vt x.tasks y.tasks w' ((ht1.mono hB).below hb (Nat.le_refl _)) ((ht2.mono hB).below hb (Nat.le_refl _)) hb.size)
  have hS := Lib.hid (fun w' (hb : Below w.heap.size w w') => sliceEqI_any B us vs x.starts y.starts w' (hs1.below hb hB) (hs2.below hb hB))
  obtain ⟨a1, c1, rfl, -⟩ := ht1
  obtain ⟨a2, c2, rfl, -⟩ := hs1
  obtain ⟨a3, c3, rfl, -⟩ := ht2
  obtain ⟨a4, c4, rfl, -⟩ := hs2
  unfold sameTasks at hT
  generalize decide (x.tasks = y.tasks) = q1 at *
  generalize decide (x.starts = y.starts) = q2 at *
  generalize x.tasks.length = n1 at *
  generalize x.starts.length = n2 at *
  generalize y.tasks.length = n3 at *
  generalize y.starts.length = n4 at *
  generalize x.name = p1 at *
  generalize y.name = p2 at *
  have X1 := Lib.hid ((Whole.made w 30 #[.string p1, .slice a1 n1 c1, .slice a2 n2 c2] (b := w.heap.size) rfl).more (.cells #[.string p2, .slice a3 n3 c3, .slice a4 n4 c4] 30))
  have X2 := Lib.hid (Whole.made (w.alloc (.cells #[.string p1, .slice a1 n1 c1, .slice a2 n2 c2] 30)) 30 #[.string p2, .slice a3 n3 c3, .slice a4 n4 c4] (b := w.heap.size + 1) (by simp))
  have B2 := Lib.hid (below_alloc (below_alloc (Below.refl w.heap.size w) (.cells #[.string p1, .slice a1 n1 c1, .slice a2 n2 c2] 30)) (.cells #[.string p2, .slice a3 n3 c3, .slice a4 n4 c4] 30))
  by_cases hp : p1 = p2
  case neg =>
    have hF := Lib.hid (decide_eq_false hp)
    have hb1 : (p1.toList == p2.toList) = false := by rw [beq_eq_false_iff_ne]; exact fun h => hp (text_eq_of h)
    go_enter Try.func28, Try.ntmps28
    go_wp2_with fail
    go_ret
    exact ⟨ret_bool (by rw [hF.out]; rfl), B2.out⟩
  subst hp
  have hF := Lib.hid (show decide (p1 = p1) = true from decide_eq_true rfl)
  have hb1 : (p1.toList == p1.toList) = true := by rw [beq_iff_eq]
  rw [hF.out]
  cases q1
  · go_enter Try.func28, Try.ntmps28
    go_wp2_with (go_at_call 29; (with_reducible refine (hT.out _ B2.out).mono ?_); rintro e w3 ⟨rfl, hb3⟩; have B3 := Lib.hid (below_on B2.out (Nat.le_refl _) hb3); clear hb3)
    go_ret
    exact ⟨ret_bool (by simp), B3.out⟩
  · go_enter Try.func28, Try.ntmps28
    go_wp2_with (first | (go_at_call 29; (with_reducible refine (hT.out _ B2.out).mono ?_); rintro e w3 ⟨rfl, hb3⟩; have B3 := Lib.hid (below_on B2.out (Nat.le_refl _) hb3); have Y1 := Lib.hid (X1.out.kept hb3); have Y2 := Lib.hid (X2.out.kept hb3); have u2 := Y1.out.at_ (i := 2) rfl; have v2 := Y2.out.at_ (i := 2) rfl; clear hb3) | (go_at_call 30; (with_reducible refine (hS.out _ B3.out).mono ?_); rintro e w4 ⟨j4, rfl, rfl⟩; have B4 := Lib.hid (Lst.Below.drewN B3.out j4)))
    go_ret
    exact ⟨ret_bool (by simp), B4.out⟩
def sameSaved (xs ys : List SavedD) : Bool := decide (xs = ys)
theorem sameS_len {xs ys : List SavedD} (h : xs.length ≠ ys.length) : sameSaved xs ys = false := eqL_len h
theorem sameS_at {xs ys : List SavedD} {k : Nat} {x y : SavedD} (hx : xs[k]? = some x) (hy : ys[k]? = some y) (h : decide (x = y) = false) : sameSaved xs ys = false := eqL_at hx hy (of_decide_eq_false h)
theorem sameS_all {xs ys : List SavedD} (hl : xs.length = ys.length) (h : ∀ i x y, i < xs.length → xs[i]? = some x → ys[i]? = some y → x = y) : sameSaved xs ys = true := eqL_all hl h
theorem pairsS {B : Nat} {a1 a2 : Option Addr} {w : World} {xs ys : List SavedD} {c1 c2 : Nat} (h1 : LstSavedS B w (.slice a1 xs.length c1) xs) (h2 : LstSavedS B w (.slice a2 ys.length c2) ys) (hl : xs.length = ys.length) :
    ∀ k, k < xs.length → ∃ (b1 o1 b2 o2 : Nat) (x y : SavedD) (ut1 us1 ut2 us2 : Option Addr) (ct1 cs1 ct2 cs2 : Nat), a1 = some ⟨b1, o1, none⟩ ∧ a2 = some ⟨b2, o2, none⟩ ∧ b1 < B ∧ b2 < B ∧ xs[k]? = some x ∧ ys[k]? = some y ∧
      (w.cell? ⟨b1, o1 + k * 3, none⟩ = some (.string x.name) ∧ w.cell? ⟨b1, o1 + k * 3 + 1, none⟩ = some (.slice ut1 x.tasks.length ct1) ∧ w.cell? ⟨b1, o1 + k * 3 + 2, none⟩ = some (.slice us1 x.starts.length cs1)) ∧
      (w.cell? ⟨b2, o2 + k * 3, none⟩ = some (.string y.name) ∧ w.cell? ⟨b2, o2 + k * 3 + 1, none⟩ = some (.slice ut2 y.tasks.length ct2) ∧ w.cell? ⟨b2, o2 + k * 3 + 2, none⟩ = some (.slice us2 y.starts.length cs2)) ∧
      LstTask B w (.slice ut1 x.tasks.length ct1) x.tasks ∧ LstI B w (.slice us1 x.starts.length cs1) x.starts ∧ LstTask B w (.slice ut2 y.tasks.length ct2) y.tasks ∧ LstI B w (.slice us2 y.starts.length cs2) y.starts := fun k hk => by
  obtain ⟨a1', cap1', e1, _, _, _, hc1⟩ := h1.at_
  obtain ⟨a2', cap2', e2, _, _, _, hc2⟩ := h2.at_
  injection e1 with e1 _ _
  injection e2 with e2 _ _
  subst e1 e2
  obtain ⟨b1, o1, x, vt1, vs1, ha1, hb1, hx, p0, p1, p2, l1, l2, _⟩ := hc1 k hk
  obtain ⟨b2, o2, y, vt2, vs2, ha2, hb2, hy, q0, q1, q2, l3, l4, _⟩ := hc2 k (by omega)
  obtain ⟨ut1, ct1, rfl, _⟩ := id l1
  obtain ⟨us1, cs1, rfl, _⟩ := id l2
  obtain ⟨ut2, ct2, rfl, _⟩ := id l3
  obtain ⟨us2, cs2, rfl, _⟩ := id l4
  exact ⟨b1, o1, b2, o2, x, y, ut1, us1, ut2, us2, ct1, cs1, ct2, cs2, ha1, ha2, hb1, hb2, hx, hy, ⟨p0, p1, p2⟩, ⟨q0, q1, q2⟩, l1, l2, l3, l4⟩
set_option maxHeartbeats 4000000 in
theorem equalSaved_any (B : Nat) (v1 v2 : Value) (xs ys : List SavedD) (w : World) (h1 : LstSavedS B w v1 xs) (h2 : LstSavedS B w v2 ys) (hB : B ≤ w.heap.size) :
    Calls Try.prog 27 #[v1, v2, .func (.func 28) #[] #[]] w fun e w' => e = .returned (.bool (sameSaved xs ys)) ∧ Below w.heap.size w w' := by
  obtain ⟨a1, cap1, rfl, hl1, _, _, _⟩ := h1.at_
  obtain ⟨a2, cap2, rfl, hl2, _, _, _⟩ := h2.at_
  by_cases hl : xs.length = ys.length
  · have hX := Lib.hid (pairsS h1 h2 hl)
    have hAll : Hid (∀ k, k = xs.length → (∀ i x y, i < k → xs[i]? = some x → ys[i]? = some y → x = y) → sameSaved xs ys = true) := Lib.hid fun k hk hp => sameS_all hl fun i x y hi => hp i x y (by omega)
    have hNe : Hid (∀ (k : Nat) (x y : SavedD), xs[k]? = some x → ys[k]? = some y → decide (x = y) = false → sameSaved xs ys = false) := Lib.hid fun k x y hx hy h => sameS_at hx hy h
    rw [← hl]
    clear h1 h2 hl hl2
    generalize xs.length = n at *
    generalize sameSaved xs ys = res at *
    unfold maxLen at hl1
    go_enter Try.func27, Try.ntmps27
    go_wp2_with fail
    go_loopw [17] (fun i wr => ∃ k : Nat, k ≤ n ∧ i = .int .i64 k ∧ Hid (∀ i x y, i < k → xs[i]? = some x → ys[i]? = some y → x = y) ∧ Hid (Below w.heap.size w wr)) (fun i _ => n - (intOf i).toNat)
    case atStart => exact ⟨0, Nat.zero_le _, rfl, Lib.hid (fun i x y hi _ _ => by omega), Lib.hid (Below.refl _ _)⟩
    case round =>
      obtain ⟨k, hk, rfl, hP, hBr⟩ := hrel
      by_cases hlt : k < n
      · obtain ⟨b1, o1, b2, o2, x, y, ub1, ul1, ub2, ul2, cb1, cl1, cb2, cl2, rfl, rfl, hb1, hb2, hx, hy, ⟨p0, p1, p2⟩, ⟨q0, q1, q2⟩, l1, l2, l3, l4⟩ := hX.out k hlt
        have hXx := Lib.hid hx
        have hYy := Lib.hid hy
        have hbw : b1 < w.heap.size ∧ b2 < w.heap.size := by omega
        rw [← hBr.out.cell (p := ⟨b1, _, none⟩) hbw.1] at p0 p1 p2
        rw [← hBr.out.cell (p := ⟨b2, _, none⟩) hbw.2] at q0 q1 q2
        have hOne : Hid (∀ w5, Below w.heap.size w w5 → _) := Lib.hid fun w5 hb => savedOne_any B x y (savedV x.name (.slice ub1 x.tasks.length cb1) (.slice ul1 x.starts.length cl1)) (savedV y.name (.slice ub2 y.tasks.length cb2) (.slice ul2 y.starts.length cl2)) w5 (Nat.le_trans hB hb.size) ⟨_, _, rfl, l1.below hb hB, l2.below hb hB⟩ ⟨_, _, rfl, l3.below hb hB, l4.below hb hB⟩
        have hws : w.heap.size ≤ wr.heap.size := hBr.out.size
        have hB6 := Lib.hid (show Below w.heap.size w ((wr.alloc (.cells #[.string x.name, .slice ub1 x.tasks.length cb1, .slice ul1 x.starts.length cl1] 30)).alloc (.cells #[.string y.name, .slice ub2 y.tasks.length cb2, .slice ul2 y.starts.length cl2] 30)) from (hBr.out.alloc hws _).alloc (by simp; omega) _)
        have hA := below_alloc (Below.refl wr.heap.size wr) (.cells #[.string x.name, .slice ub1 x.tasks.length cb1, .slice ul1 x.starts.length cl1] 30)
        have hb2r : b2 < wr.heap.size := by omega
        have r0 := (hA.cell (p := ⟨b2, o2 + k * 3, none⟩) hb2r).trans q0
        have r1 := (hA.cell (p := ⟨b2, o2 + k * 3 + 1, none⟩) hb2r).trans q1
        have r2 := (hA.cell (p := ⟨b2, o2 + k * 3 + 2, none⟩) hb2r).trans q2
        clear hA
        clear hx hy l1 l2 l3 l4
        cases hq : decide (x = y)
        · have hF := Lib.hid (hNe.out k x y hXx.out hYy.out hq)
          rw [hq] at hOne
          go_wp2_with fail
          with_reducible refine (hOne.out _ hB6.out).mono ?_
          rintro e w7 ⟨rfl, hb7⟩
          have hB7 := Lib.hid (below_on hB6.out (Nat.le_refl _) hb7)
          clear hb7
          go_wp2_with fail
          go_ret
          exact ⟨ret_bool hF.out.symm, hB7.out⟩
        · have hE := Lib.hid (of_decide_eq_true hq)
          rw [hq] at hOne
          have hP2 : Hid (∀ i x y, i < k + 1 → xs[i]? = some x → ys[i]? = some y → x = y) := Lib.hid fun i x' y' hi hx hy => by
            by_cases h1 : i < k
            · exact hP.out i x' y' h1 hx hy
            · have : i = k := by omega
              subst this
              rw [hXx.out] at hx; rw [hYy.out] at hy
              cases hx; cases hy
              exact hE.out
          go_wp2_with fail
          with_reducible refine (hOne.out _ hB6.out).mono ?_
          rintro e w7 ⟨rfl, hb7⟩
          have hB7 := Lib.hid (below_on hB6.out (Nat.le_refl _) hb7)
          clear hb7
          go_wp2_with fail
          go_roundw
          case rel => exact ⟨k + 1, by omega, by go_num, hP2, hB7⟩
          case measure => simp [intOf]; omega
      · have hF := Lib.hid (hAll.out k (by omega) hP.out)
        go_wp2_with fail
        go_ret
        exact ⟨ret_bool hF.out.symm, hBr.out⟩
  · have hV := Lib.hid (sameS_len hl)
    have hne : ((xs.length : Int) != (ys.length : Int)) = true := by rw [bne_iff_ne]; omega
    have hne2 : (xs.length != ys.length) = true := by rw [bne_iff_ne]; omega
    generalize xs.length = n1 at *
    generalize ys.length = n2 at *
    unfold maxLen at hl1 hl2
    clear hl h1 h2
    go_enter Try.func27, Try.ntmps27
    go_wp2_with fail
    go_ret
    exact ⟨ret_bool (by rw [hV.out]), Below.refl _ _⟩
set_option maxHeartbeats 400000 in
theorem implSameSaved_any (B : Nat) (v1 v2 : Value) (xs ys : List SavedD) (w : World) (h1 : LstSavedS B w v1 xs) (h2 : LstSavedS B w v2 ys) (hB : B ≤ w.heap.size) :
    Calls Try.prog 13 #[v1, v2] w fun e w' => e = .returned (.bool (sameSaved xs ys)) ∧ Below w.heap.size w w' := by
  have hJ := Lib.hid (equalSaved_any B v1 v2 xs ys w h1 h2 hB)
  clear h1 h2
  generalize sameSaved xs ys = q at *
  go_enter Try.func13, Try.ntmps13
  go_wp2_with fail
  with_reducible refine (hJ.out).mono ?_
  rintro e w' ⟨rfl, hb⟩
  have hB1 := Lib.hid hb
  clear hb
  go_wp2_with fail
  go_ret
  exact ⟨rfl, hB1.out⟩
end Go.Proofs.Ytnffkfknnnknoaa
