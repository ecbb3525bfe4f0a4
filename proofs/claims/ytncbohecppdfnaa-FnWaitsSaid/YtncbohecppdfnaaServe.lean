/- Contracts: how likely one is sent away. -/
import Derived.Test.YtncbohecppdfnaaAreJobs
import Derived.Test.YtncbohecppdfnaaBits
import Derived.IntWalk
namespace Go.Proofs.Ytncbohecppdfnaa
open Go.RowKit Go.Lst FloatKit

def okLoad (a : Nat) : Bool := (FloatKind.f32.format.order a 0 == some Ordering.gt) && (FloatKind.f32.format.order a 1115684864 == some Ordering.lt || FloatKind.f32.format.order a 1115684864 == some Ordering.eq)
def canServe (a : Nat) (n : Int) : Bool := okLoad a && inB n 1 96
def blockF (a : Nat) : Nat → Nat
  | 0 => 1065353216
  | k + 1 => fop .quo .f32 (fop .mul .f32 a (blockF a k)) (fop .add .f32 (floatOfInt .f32 ((k : Int) + 1)) (fop .mul .f32 a (blockF a k)))
def blockRes (a : Nat) (n : Int) : Nat := if canServe a n then blockF a n.toNat else 0
theorem canServe_of {a : Nat} {n : Int} (h : canServe a n = true) : okLoad a = true ∧ 1 ≤ n ∧ n ≤ 96 := by
  simp only [canServe, Bool.and_eq_true] at h
  exact ⟨h.1, inB_true h.2⟩
theorem block_chain {a r b p1 p2 p3 : Nat} {z : Int} (hr : Eqv Ieee.single r b) (h1 : Eqv FloatKind.f32.format p1 (fop .mul .f32 a r)) (h2 : Eqv FloatKind.f32.format p2 (fop .add .f32 (floatOfInt .f32 z) p1)) (h3 : Eqv FloatKind.f32.format p3 (fop .quo .f32 p1 p2)) :
    Eqv Ieee.single p3 (fop .quo .f32 (fop .mul .f32 a b) (fop .add .f32 (floatOfInt .f32 z) (fop .mul .f32 a b))) := by
  have e1 : Eqv FloatKind.f32.format p1 (fop .mul .f32 a b) := h1.trans (.inl (fop_eqv .mul .f32 (Eqv.refl _ _) hr))
  have e2 : Eqv FloatKind.f32.format p2 (fop .add .f32 (floatOfInt .f32 z) (fop .mul .f32 a b)) := h2.trans (.inl (fop_eqv .add .f32 (Eqv.refl _ _) e1))
  exact h3.trans (.inl (fop_eqv .quo .f32 e1 e2))
/-- What a call returns that tells a float and whether it succeeds. -/
def FloatPost (F : Nat) (ok : Bool) (w : World) (e : Ending) (w' : World) : Prop := ∃ r, e = .returned (.tuple #[.float .f32 r, .bool ok]) ∧ Eqv Ieee.single r F ∧ Below w.heap.size w w'
theorem float_no {F : Nat} {ok : Bool} {w w' : World} (h1 : F = 0) (h2 : ok = false) (hb : Below w.heap.size w w') : FloatPost F ok w (.returned (.tuple #[.float .f32 0, .bool false])) w' := by
  subst h1 h2
  exact ⟨0, rfl, Eqv.refl _ _, hb⟩
def RetBk (F : Nat) (ok : Bool) (w : World) (e : Ending) (w' : World) : Prop := ∃ r m, e = .returned (.tuple #[.float .f32 r, .bool ok]) ∧ Eqv Ieee.single r F ∧ r < 4294967296 ∧ w' = w.drewN m
def RetBl (F : Nat) (w : World) (e : Ending) (w' : World) : Prop := ∃ r m, e = .returned (.float .f32 r) ∧ Eqv Ieee.single r F ∧ r < 4294967296 ∧ w' = w.drewN m
set_option maxHeartbeats 4000000 in
set_option maxRecDepth 100000 in
theorem implBlock_any (a : Nat) (n : Int) (w : World) : Calls Try.prog 30 #[.float .f32 a, .int .i64 n] w (RetBk (blockRes a n) (canServe a n) w) := by
  cases hq : canServe a n
  · have hP : Hid (RetBk (blockRes a n) false w (.returned (.tuple #[.float .f32 0, .bool false])) w) := Lib.hid ⟨0, 0, rfl, by unfold blockRes; rw [hq]; exact Eqv.refl _ _, by omega, rfl⟩
    generalize RetBk (blockRes a n) false w = Q at *
    unfold canServe okLoad at hq
    cases k1 : (FloatKind.f32.format.order a 0 == some Ordering.gt) <;> cases k2 : (FloatKind.f32.format.order a 1115684864 == some Ordering.lt || FloatKind.f32.format.order a 1115684864 == some Ordering.eq)
    all_goals
      rw [k1, k2] at hq
      simp only [Bool.and_true, Bool.true_and, Bool.and_false, Bool.false_and] at hq
      go_enter Try.func30, Try.ntmps30
      go_wp2_with (go_at_call 38; refine (isWithin_any _ _ _ _).mono ?_; rintro e w' ⟨rfl, rfl⟩)
      first | exact hP.out | (go_ret2; exact hP.out)
  · obtain ⟨hok, n1, n96⟩ := canServe_of hq
    have hin : inB n 1 96 = true := by simp [inB]; omega
    obtain ⟨m, rfl⟩ : ∃ m : Nat, n = m := ⟨n.toNat, by omega⟩
    have hN : Hid (∀ k r p1 p2 p3, Eqv Ieee.single r (blockF a k) → Eqv FloatKind.f32.format p1 (fop .mul .f32 a r) → Eqv FloatKind.f32.format p2 (fop .add .f32 (floatOfInt .f32 ((k : Int) + 1)) p1) → Eqv FloatKind.f32.format p3 (fop .quo .f32 p1 p2) → Eqv Ieee.single p3 (blockF a (k + 1))) := Lib.hid fun k r p1 p2 p3 h0 h1 h2 h3 => block_chain h0 h1 h2 h3
    have hP2 : Hid (∀ k r j, k = m → Eqv Ieee.single r (blockF a k) → r < 4294967296 → RetBk (blockRes a m) true w (.returned (.tuple #[.float .f32 r, .bool true])) (w.drewN j)) := Lib.hid fun k r j hk he hl => by
      subst hk; exact ⟨r, j, rfl, by unfold blockRes; rw [hq, if_pos rfl]; exact he, hl, rfl⟩
    generalize RetBk (blockRes a m) true w = Q at *
    have h0 : Hid (Eqv Ieee.single 1065353216 (blockF a 0)) := Lib.hid (Eqv.refl _ _)
    clear hq
    generalize blockF a = F at *
    unfold okLoad at hok
    have k1 : (FloatKind.f32.format.order a 0 == some Ordering.gt) = true := by cases h : (FloatKind.f32.format.order a 0 == some Ordering.gt) <;> simp_all
    have k2 : (FloatKind.f32.format.order a 1115684864 == some Ordering.lt || FloatKind.f32.format.order a 1115684864 == some Ordering.eq) = true := by rw [k1, Bool.true_and] at hok; exact hok
    clear hok
    go_enter Try.func30, Try.ntmps30
    go_wp2_with (go_at_call 38; refine (isWithin_any _ _ _ _).mono ?_; rintro e w' ⟨rfl, rfl⟩)
    clear k1 k2
    go_loopw [6, 22] (fun bv kv wr => ∃ k j r : Nat, k ≤ m ∧ kv = .int .i64 k ∧ bv = .float .f32 r ∧ Hid (Eqv Ieee.single r (F k)) ∧ Hid (r < 4294967296) ∧ wr = w.drewN j) (fun _ kv _ => m - (intOf kv).toNat)
    case atStart => exact ⟨0, 0, _, Nat.zero_le _, rfl, rfl, h0, Lib.hid (by omega), rfl⟩
    case round =>
      obtain ⟨k, j, r, hk, rfl, rfl, hR, hL, rfl⟩ := hrel
      by_cases hlt : k < m
      · have hkI : (k : Int) < m := by omega
        go_wp2_with (first | (refine wpList_farith rfl _ _ _ _ _ rfl _ _ _ rfl rfl (by rfl) ?_; intro p1 j1 hp l1; have E1 : Hid (Eqv FloatKind.f32.format p1 (fop .mul .f32 a r)) := (by with_reducible exact Lib.hid hp); clear hp l1) | (refine wpList_farith rfl _ _ _ _ _ rfl _ _ _ rfl rfl (by rfl) ?_; intro p2 j2 hp l2; have E2 : Hid (Eqv FloatKind.f32.format p2 (fop .add .f32 (floatOfInt .f32 ((k : Int) + 1)) p1)) := (by with_reducible exact Lib.hid hp); clear hp l2) | (refine wpList_farith rfl _ _ _ _ _ rfl _ _ _ rfl rfl (by rfl) ?_; intro p3 j3 hp l3; have E3 : Hid (Eqv FloatKind.f32.format p3 (fop .quo .f32 p1 p2)) := (by with_reducible exact Lib.hid hp); have L3 := Lib.hid l3; clear hp l3))
        have hR2 := Lib.hid (hN.out k r p1 p2 p3 hR.out E1.out E2.out E3.out)
        go_roundw
        case rel => exact ⟨k + 1, _, p3, by omega, by go_num, rfl, hR2, L3, by first | rfl | (simp only [World.drewN_drewN])⟩
        case measure => simp [intOf]; omega
      · have hkn := Lib.hid (show k = m by omega)
        have hF := Lib.hid (fun j => hP2.out k r j hkn.out hR.out hL.out)
        go_wp2_with fail
        first | exact hF.out _ | (go_ret2; exact hF.out _)
end Go.Proofs.Ytncbohecppdfnaa
