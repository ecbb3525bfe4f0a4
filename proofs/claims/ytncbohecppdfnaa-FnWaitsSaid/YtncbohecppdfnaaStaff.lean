/- Contracts: how likely one waits, by the program, and how many servers a load needs. -/
import Derived.Test.YtncbohecppdfnaaServe
import Derived.Test.YtncbohecppdfnaaFloatSub
namespace Go.Proofs.Ytncbohecppdfnaa
open Go.RowKit Go.Lst FloatKit

def above (a : Nat) (n : Int) : Bool := FloatKind.f32.format.order (floatOfInt .f32 n) a == some Ordering.gt
def canWait (a : Nat) (n : Int) : Bool := canServe a n && above a n
def waitF (a : Nat) (n : Nat) : Nat := fop .quo .f32 (blockF a n) (fop .sub .f32 1065353216 (fop .mul .f32 (fop .quo .f32 a (floatOfInt .f32 (n : Int))) (fop .sub .f32 1065353216 (blockF a n))))
def waitRes (a : Nat) (n : Int) : Nat := if canWait a n then waitF a n.toNat else 0
theorem load_real {a : Nat} (h : okLoad a = true) : isNaN Ieee.single a = false := by
  cases hn : isNaN Ieee.single a
  · rfl
  · unfold okLoad at h
    rw [show FloatKind.f32.format.order a 0 = none from order_nan_left _ _ _ hn] at h
    cases h
theorem few_real : ∀ k : Nat, k < 97 → isNaN Ieee.single (floatOfInt .f32 (k : Int)) = false := by decide +kernel
theorem not_above {a : Nat} {n : Int} (h : canServe a n = true) : (FloatKind.f32.format.order a (floatOfInt .f32 n) == some Ordering.gt || FloatKind.f32.format.order a (floatOfInt .f32 n) == some Ordering.eq) = !above a n := by
  obtain ⟨h1, n1, n96⟩ := canServe_of h
  obtain ⟨m, rfl⟩ : ∃ m : Nat, n = m := ⟨n.toNat, by omega⟩
  have ha := load_real h1
  have hm := few_real m (by omega)
  have e1 := (order_total ha hm).1
  have e2 := (order_total hm ha).2.1
  unfold above
  exact e1.trans (by rw [← e2]; rfl)
theorem wait_chain {a r b p1 p2 p3 p4 p5 F : Nat} (hr : Eqv Ieee.single r b) (h1 : Eqv FloatKind.f32.format p1 (fop .quo .f32 a F)) (h2 : Eqv FloatKind.f32.format p2 (fop .sub .f32 1065353216 r)) (h3 : Eqv FloatKind.f32.format p3 (fop .mul .f32 p1 p2)) (h4 : Eqv FloatKind.f32.format p4 (fop .sub .f32 1065353216 p3)) (h5 : Eqv FloatKind.f32.format p5 (fop .quo .f32 r p4)) :
    Eqv Ieee.single p5 (fop .quo .f32 b (fop .sub .f32 1065353216 (fop .mul .f32 (fop .quo .f32 a F) (fop .sub .f32 1065353216 b)))) := by
  have e2 : Eqv FloatKind.f32.format p2 (fop .sub .f32 1065353216 b) := h2.trans (.inl (fop_eqv .sub .f32 (Eqv.refl _ _) hr))
  have e3 := h3.trans (.inl (fop_eqv .mul .f32 h1 e2))
  have e4 := h4.trans (.inl (fop_eqv .sub .f32 (Eqv.refl _ _) e3))
  exact h5.trans (.inl (fop_eqv .quo .f32 hr e4))
set_option maxHeartbeats 4000000 in
set_option maxRecDepth 100000 in
theorem implWait_any (a : Nat) (n : Int) (w : World) : Calls Try.prog 32 #[.float .f32 a, .int .i64 n] w (RetBk (waitRes a n) (canWait a n) w) := by
  have hB := Lib.hid (fun w' => implBlock_any a n w')
  have hNo : Hid (canWait a n = false → ∀ m, RetBk (waitRes a n) (canWait a n) w (.returned (.tuple #[.float .f32 0, .bool false])) (w.drewN m)) := Lib.hid fun h m => by rw [h]; exact ⟨0, m, rfl, by unfold waitRes; rw [h]; exact Eqv.refl _ _, by omega, rfl⟩
  have hYes : Hid (canWait a n = true → ∀ p m, Eqv Ieee.single p (waitF a n.toNat) → p < 4294967296 → RetBk (waitRes a n) (canWait a n) w (.returned (.tuple #[.float .f32 p, .bool true])) (w.drewN m)) := Lib.hid fun h p m hp hl => by rw [h]; exact ⟨p, m, rfl, by unfold waitRes; rw [h, if_pos rfl]; exact hp, hl, rfl⟩
  generalize RetBk (waitRes a n) (canWait a n) w = Q at *
  unfold RetBk at hB
  cases hq : canServe a n
  · have hN := Lib.hid (hNo.out (by unfold canWait; rw [hq]; rfl))
    rw [hq] at hB
    clear hq hNo hYes
    go_enter Try.func32, Try.ntmps32
    go_wp2_with (go_at_call 30; (with_reducible refine (hB.out _).mono ?_); rintro e w' ⟨r, j, rfl, _, _, rfl⟩)
    first | exact hN.out _ | (go_ret2; exact hN.out _)
  · have hA := not_above hq
    obtain ⟨_, n1, n96⟩ := canServe_of hq
    obtain ⟨m, rfl⟩ : ∃ m : Nat, n = m := ⟨n.toNat, by omega⟩
    cases ha : above a m
    · have hN := Lib.hid (hNo.out (by unfold canWait; rw [hq, ha]; rfl))
      rw [hq] at hB
      rw [ha] at hA
      clear hq ha hNo hYes
      go_enter Try.func32, Try.ntmps32
      go_wp2_with (go_at_call 30; (with_reducible refine (hB.out _).mono ?_); rintro e w' ⟨r, j, rfl, _, _, rfl⟩)
      first | exact hN.out _ | (go_ret2; exact hN.out _)
    · have hY := Lib.hid (hYes.out (by unfold canWait; rw [hq, ha]; rfl))
      have hBF : blockRes a (m : Int) = blockF a m := by unfold blockRes; rw [hq, if_pos rfl]; rfl
      rw [hBF, hq] at hB
      rw [ha] at hA
      clear hq ha hNo hYes hBF
      go_enter Try.func32, Try.ntmps32
      go_wp2_with (first | (go_at_call 30; (with_reducible refine (hB.out _).mono ?_); rintro e w' ⟨r, j, rfl, hr, _, rfl⟩; have hR := Lib.hid hr; clear hr) | (refine wpList_farith rfl _ _ _ _ _ rfl _ _ _ rfl rfl (by rfl) ?_; intro p1 j1 hp l1; have E1 : Hid (Eqv FloatKind.f32.format p1 (fop .quo .f32 a (floatOfInt .f32 (m : Int)))) := (by with_reducible exact Lib.hid hp); clear hp l1) | (refine wpList_farith rfl _ _ _ _ _ rfl _ _ _ rfl rfl (by rfl) ?_; intro p2 j2 hp l2; have E2 : Hid (Eqv FloatKind.f32.format p2 (fop .sub .f32 1065353216 r)) := (by with_reducible exact Lib.hid hp); clear hp l2) | (refine wpList_farith rfl _ _ _ _ _ rfl _ _ _ rfl rfl (by rfl) ?_; intro p3 j3 hp l3; have E3 : Hid (Eqv FloatKind.f32.format p3 (fop .mul .f32 p1 p2)) := (by with_reducible exact Lib.hid hp); clear hp l3) | (refine wpList_farith rfl _ _ _ _ _ rfl _ _ _ rfl rfl (by rfl) ?_; intro p4 j4 hp l4; have E4 : Hid (Eqv FloatKind.f32.format p4 (fop .sub .f32 1065353216 p3)) := (by with_reducible exact Lib.hid hp); clear hp l4) | (refine wpList_farith rfl _ _ _ _ _ rfl _ _ _ rfl rfl (by rfl) ?_; intro p5 j5 hp l5; have E5 : Hid (Eqv FloatKind.f32.format p5 (fop .quo .f32 r p4)) := (by with_reducible exact Lib.hid hp); have L5 := Lib.hid l5; clear hp l5))
      have hF := Lib.hid (fun j => hY.out p5 j (by exact wait_chain hR.out E1.out E2.out E3.out E4.out E5.out) L5.out)
      first | exact hF.out _ | (go_ret2; exact hF.out _)
def shareF (c : Nat) : Bool := (FloatKind.f32.format.order c 0 == some Ordering.gt || FloatKind.f32.format.order c 0 == some Ordering.eq) && (FloatKind.f32.format.order c 1065353216 == some Ordering.lt || FloatKind.f32.format.order c 1065353216 == some Ordering.eq)
def atMost (r c : Nat) : Bool := FloatKind.f32.format.order r c == some Ordering.lt || FloatKind.f32.format.order r c == some Ordering.eq
theorem atMost_eqv {r r' c : Nat} (h : Eqv Ieee.single r r') : (FloatKind.f32.format.order r c == some Ordering.lt || FloatKind.f32.format.order r c == some Ordering.eq) = atMost r' c := by
  unfold atMost
  rw [show FloatKind.f32.format.order r c = FloatKind.f32.format.order r' c from Eqv.order h (Eqv.refl _ c)]
def fitsK (a c : Nat) (k : Nat) : Bool := canWait a (k : Int) && atMost (waitF a k) c
def findFrom (f : Nat → Bool) : Nat → Nat → Nat
  | 0, _ => 0
  | m + 1, i => if f (i + 1) then i + 1 else findFrom f m (i + 1)
theorem find_skip (f : Nat → Bool) (n : Nat) : ∀ k, k ≤ n → (∀ j, j < k → f (j + 1) = false) → findFrom f n 0 = findFrom f (n - k) k
  | 0, _, _ => rfl
  | k + 1, hk, h => by
    rw [find_skip f n k (by omega) fun j hj => h j (by omega), show n - k = (n - (k + 1)) + 1 by omega]
    show (if f (k + 1) then k + 1 else _) = _
    rw [h k (by omega)]; rfl
theorem find_yes {f : Nat → Bool} {n k : Nat} (hk : k < n) (h : ∀ j, j < k → f (j + 1) = false) (hf : f (k + 1) = true) : findFrom f n 0 = k + 1 := by
  rw [find_skip f n k (by omega) h, show n - k = (n - (k + 1)) + 1 by omega]
  show (if f (k + 1) then k + 1 else _) = _
  rw [hf]; rfl
theorem find_no {f : Nat → Bool} {n : Nat} (h : ∀ j, j < n → f (j + 1) = false) : findFrom f n 0 = 0 := by
  rw [find_skip f n n (Nat.le_refl _) h, Nat.sub_self]; rfl
def staffN (a c : Nat) : Nat := if shareF c then findFrom (fitsK a c) 96 0 else 0
def staffOk (a c : Nat) : Bool := !(staffN a c == 0)
def StaffPost (a c : Nat) (w : World) : Ending → World → Prop := Ret (.tuple #[.int .i64 (staffN a c : Int), .bool (staffOk a c)]) w
theorem staff_no {a c : Nat} (h : staffN a c = 0) (w : World) (m : Nat) : StaffPost a c w (.returned (.tuple #[.int .i64 0, .bool false])) (w.drewN m) := by
  unfold StaffPost staffOk; rw [h]; exact Ret.later _ _ _
theorem staff_yes {a c k : Nat} (h : staffN a c = k + 1) (w : World) (m : Nat) : StaffPost a c w (.returned (.tuple #[.int .i64 ((k : Int) + 1), .bool true])) (w.drewN m) := by
  unfold StaffPost staffOk; rw [h]; exact Ret.later _ _ _
theorem staff_bad {a c : Nat} (h : shareF c = false) : staffN a c = 0 := by unfold staffN; rw [h]; rfl
theorem staff_load {a c : Nat} (h : okLoad a = false) : staffN a c = 0 := by
  unfold staffN
  split
  · exact find_no fun j _ => by unfold fitsK canWait canServe; rw [h]; rfl
  · rfl
theorem fits_is {a c : Nat} (h : okLoad a = true) {k : Nat} (hk : k < 96) : fitsK a c (k + 1) = (above a ((k : Int) + 1) && atMost (waitF a (k + 1)) c) := by
  have : canServe a ((k + 1 : Nat) : Int) = true := by
    unfold canServe; rw [h]; simp [inB]; omega
  unfold fitsK canWait
  rw [this, Bool.true_and]; rfl
theorem fits_wait {a c : Nat} {k : Nat} (h : canWait a ((k : Int) + 1) = true) : waitRes a ((k : Int) + 1) = waitF a (k + 1) ∧ fitsK a c (k + 1) = atMost (waitF a (k + 1)) c := by
  refine ⟨?_, ?_⟩
  · unfold waitRes; rw [h, if_pos rfl]; rfl
  · show (canWait a ((k : Int) + 1) && _) = _
    rw [h]; rfl
set_option maxHeartbeats 4000000 in
set_option maxRecDepth 100000 in
theorem implStaff_any (a c : Nat) (w : World) : Calls Try.prog 34 #[.float .f32 a, .float .f32 c] w (StaffPost a c w) := by
  cases hsh : shareF c
  · have hN := Lib.hid (staff_no (staff_bad (a := a) hsh) w)
    generalize StaffPost a c w = Q at *
    unfold shareF at hsh
    cases k1 : (FloatKind.f32.format.order c 0 == some Ordering.gt || FloatKind.f32.format.order c 0 == some Ordering.eq) <;> cases k2 : (FloatKind.f32.format.order c 1065353216 == some Ordering.lt || FloatKind.f32.format.order c 1065353216 == some Ordering.eq)
    all_goals
      rw [k1, k2] at hsh
      first | (cases hsh; done) | (clear hsh; go_enter Try.func34, Try.ntmps34; go_wp2_with fail; first | exact hN.out 0 | (go_ret2; exact hN.out 0))
  have hW := Lib.hid (fun n w' => implWait_any a n w')
  have hY : Hid (∀ k m, k < 96 → (∀ j, j < k → fitsK a c (j + 1) = false) → fitsK a c (k + 1) = true → StaffPost a c w (.returned (.tuple #[.int .i64 ((k : Int) + 1), .bool true])) (w.drewN m)) := Lib.hid fun k m hk h1 h2 => staff_yes (by unfold staffN; rw [hsh, if_pos rfl]; exact find_yes hk h1 h2) w m
  have hN : Hid (∀ k m, k = 96 → (∀ j, j < k → fitsK a c (j + 1) = false) → StaffPost a c w (.returned (.tuple #[.int .i64 0, .bool false])) (w.drewN m)) := Lib.hid fun k m hk h1 => staff_no (by unfold staffN; rw [hsh, if_pos rfl]; subst hk; exact find_no h1) w m
  generalize StaffPost a c w = Q at *
  unfold RetBk at hW
  unfold shareF at hsh
  have k1 : (FloatKind.f32.format.order c 0 == some Ordering.gt || FloatKind.f32.format.order c 0 == some Ordering.eq) = true := by cases h : (FloatKind.f32.format.order c 0 == some Ordering.gt || FloatKind.f32.format.order c 0 == some Ordering.eq) <;> simp_all
  have k2 : (FloatKind.f32.format.order c 1065353216 == some Ordering.lt || FloatKind.f32.format.order c 1065353216 == some Ordering.eq) = true := by rw [k1, Bool.true_and] at hsh; exact hsh
  clear hsh
  go_enter Try.func34, Try.ntmps34
  go_wp2_with fail
  clear k1 k2
  go_loopw [16] (fun kv wr => ∃ k m : Nat, k ≤ 96 ∧ kv = .int .i64 k ∧ Hid (∀ j, j < k → fitsK a c (j + 1) = false) ∧ wr = w.drewN m) (fun kv _ => 96 - (intOf kv).toNat)
  case atStart => exact ⟨0, 0, by omega, rfl, Lib.hid (fun j hj => by omega), rfl⟩
  case round =>
    obtain ⟨k, m, hk, rfl, hP, rfl⟩ := hrel
    by_cases hlt : k < 96
    · have hWk := Lib.hid (hW.out ((k : Int) + 1))
      have hkI : (k : Int) < 96 := by omega
      cases hc : canWait a ((k : Int) + 1)
      · have hP2 : Hid (∀ j, j < k + 1 → fitsK a c (j + 1) = false) := Lib.hid fun j hj => by
          by_cases h1 : j < k
          · exact hP.out j h1
          · obtain rfl : j = k := by omega
            show (canWait a ((j : Int) + 1) && _) = false
            rw [hc]; rfl
        rw [hc] at hWk
        clear hc
        go_wp2_with (go_at_call 32; (with_reducible refine (hWk.out _).mono ?_); rintro e w' ⟨r, j, rfl, hr, _, rfl⟩; clear hr)
        go_roundw
        case rel => exact ⟨k + 1, _, by omega, by go_num, hP2, by first | rfl | (simp only [World.drewN_drewN])⟩
        case measure => simp [intOf]; omega
      · have hFk := (fits_wait (c := c) hc).2
        rw [hc, (fits_wait (c := c) hc).1] at hWk
        clear hc
        cases hm : atMost (waitF a (k + 1)) c
        · rw [hm] at hFk
          have hP2 : Hid (∀ j, j < k + 1 → fitsK a c (j + 1) = false) := Lib.hid fun j hj => by
            by_cases h1 : j < k
            · exact hP.out j h1
            · obtain rfl : j = k := by omega
              exact hFk
          have hM := Lib.hid hm
          clear hFk hm
          go_wp2_with (go_at_call 32; (with_reducible refine (hWk.out _).mono ?_); rintro e w' ⟨r, j, rfl, hr, _, rfl⟩; have hz := (atMost_eqv (c := c) hr).trans hM.out; clear hr)
          go_roundw
          case rel => exact ⟨k + 1, _, by omega, by go_num, hP2, by first | rfl | (simp only [World.drewN_drewN])⟩
          case measure => simp [intOf]; omega
        · rw [hm] at hFk
          have hR := Lib.hid (fun m => hY.out k m hlt hP.out hFk)
          have hM := Lib.hid hm
          clear hFk hm
          go_wp2_with (go_at_call 32; (with_reducible refine (hWk.out _).mono ?_); rintro e w' ⟨r, j, rfl, hr, _, rfl⟩; have hz := (atMost_eqv (c := c) hr).trans hM.out; clear hr)
          first | exact hR.out _ | (go_ret2; exact hR.out _)
    · have hR := Lib.hid (fun m => hN.out k m (by omega) hP.out)
      have hk2 : ¬ (k : Int) < 96 := by omega
      go_wp2_with fail
      first | exact hR.out _ | (go_ret2; exact hR.out _)
end Go.Proofs.Ytncbohecppdfnaa
