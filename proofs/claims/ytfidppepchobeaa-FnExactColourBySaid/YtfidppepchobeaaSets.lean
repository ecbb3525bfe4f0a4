/- Contracts: sets of what clashes. -/
import Derived.Test.YtfidppepchobeaaPairPure
import Derived.Test.YtfidppepchobeaaCallsPure
import Derived.Test.YtfidppepchobeaaPost
namespace Go.Proofs.Ytfidppepchobeaa
open Go.RowKit Go.Lst

theorem grown_drew (w : World) (r : Option Nat) : w.grownBy w.drew r := ⟨rfl, rfl, rfl, Nat.le_refl _, fun _ _ _ => rfl⟩
set_option maxHeartbeats 4000000 in
set_option maxRecDepth 100000 in
theorem add_any (A g e a b : Nat) (ps : List (Int × Int)) (w : World) (h : w.ownsRow A 3 1 (.slice (some ⟨g, 0, none⟩) e e) e ((setsN e ps).map (Value.int .i64))) (he : e ≤ 12) (ha : a < e) (hb : b < e) (hab : a ≠ b) (hp : PairsIn e ps) :
    Calls Try.prog 101 #[.slice (some ⟨g, 0, none⟩) e e, .int .i64 a, .int .i64 b] w fun x w' => (∃ v, x = .returned v) ∧ w'.ownsRow A 3 1 (.slice (some ⟨g, 0, none⟩) e e) e ((setsN e (ps ++ [((a : Int), (b : Int))])).map (Value.int .i64)) ∧ w.grownBy w' (some g) := by
  have hla := adjN_lt he ps hp a
  have hlb := adjN_lt he ps hp b
  have hpa : ((2 ^ a : Nat) : Int) = (2 : Int) ^ a := by rw [Int.natCast_pow]; rfl
  have hpb : ((2 ^ b : Nat) : Int) = (2 : Int) ^ b := by rw [Int.natCast_pow]; rfl
  have la : 2 ^ a < 4096 := pow_less (by omega)
  have lb : 2 ^ b < 4096 := pow_less (by omega)
  have oa := or_nat (adjN ps a) (2 ^ b) hla lb
  have ob := or_nat (adjN ps b) (2 ^ a) hlb la
  rw [hpb] at oa
  rw [hpa] at ob
  have ga : (setsN e ps).getD a 0 = (adjN ps a : Int) := getD_of (setsN_get ps ha)
  have gb : (setsN e ps).getD b 0 = (adjN ps b : Int) := getD_of (setsN_get ps hb)
  have hAdd := setsN_add ps (e := e) hab
  have wb : IntKind.i64.wrap ((2 : Int) ^ b) = (2 : Int) ^ b := IntWalk.i64_in _ (by have := pow_few (show b ≤ 12 by omega); omega)
  have wa : IntKind.i64.wrap ((2 : Int) ^ a) = (2 : Int) ^ a := IntWalk.i64_in _ (by have := pow_few (show a ≤ 12 by omega); omega)
  -- the first store
  have ca := row_cell h (k := a) (by rw [setsN_length]; exact ha)
  rw [ga] at ca
  have fa : w.frozen? ⟨g, a, none⟩ = false := h.frozenAt a
  have hs1 := row_set h a ((adjN ps a ||| 2 ^ b : Nat) : Int)
  have cb := row_cell hs1.1 (k := b) (by rw [List.length_set, setsN_length]; exact hb)
  rw [List.getD_eq_getElem?_getD, List.getElem?_set_ne hab, ← List.getD_eq_getElem?_getD, gb] at cb
  have fb := hs1.1.frozenAt b
  have hEnd : Hid (∀ w2 : World, w2.ownsRow A 3 1 (.slice (some ⟨g, 0, none⟩) e e) e (((setsN e ps).set a ((adjN ps a ||| 2 ^ b : Nat) : Int)).map (Value.int .i64)) → w.grownBy w2 (some g) →
      (w2.setCell ⟨g, b, none⟩ (.int .i64 ((adjN ps b ||| 2 ^ a : Nat) : Int))).drew.ownsRow A 3 1 (.slice (some ⟨g, 0, none⟩) e e) e ((setsN e (ps ++ [((a : Int), (b : Int))])).map (Value.int .i64)) ∧ w.grownBy (w2.setCell ⟨g, b, none⟩ (.int .i64 ((adjN ps b ||| 2 ^ a : Nat) : Int))).drew (some g)) := Lib.hid fun w2 ho hgr => by
    have := row_set ho b ((adjN ps b ||| 2 ^ a : Nat) : Int)
    rw [hAdd] at this
    exact ⟨ownsRow_drewN this.1 1, grown_on (grown_on hgr this.2) (grown_drew _ _)⟩
  have cb9 : (w.setCell ⟨g, a, none⟩ (.int .i64 ((adjN ps a ||| 2 ^ b : Nat) : Int))).drew.cell? ⟨g, b, none⟩ = some (.int .i64 (adjN ps b : Int)) := cb
  have fb9 : (w.setCell ⟨g, a, none⟩ (.int .i64 ((adjN ps a ||| 2 ^ b : Nat) : Int))).drew.frozen? ⟨g, b, none⟩ = false := fb
  have hE := Lib.hid (hEnd.out (w.setCell ⟨g, a, none⟩ (.int .i64 ((adjN ps a ||| 2 ^ b : Nat) : Int))).drew (ownsRow_drewN hs1.1 1) (grown_on hs1.2 (grown_drew _ _)))
  clear h hs1 hEnd ga gb hpa hpb la lb hp hAdd cb fb
  generalize adjN ps a = za at *
  generalize adjN ps b = zb at *
  have ha2 : (a : Int) < (e : Int) := by omega
  have hb2 : (b : Int) < (e : Int) := by omega
  go_enter Try.func101, Try.ntmps101
  go_wp2_with fail
  go_still_tail 8, (by kernel_rfl)
  change wpList _ _ _ _ _ w.drew
  go_wp2_with fail
  clear ca fa
  generalize (World.setCell w _ _).drew = w3 at *
  go_still_tail 8, (by kernel_rfl)
  change wpList _ _ _ _ _ w3.drew
  go_wp2_with fail
  go_end0
  exact ⟨⟨_, rfl⟩, hE.out⟩
end Go.Proofs.Ytfidppepchobeaa
