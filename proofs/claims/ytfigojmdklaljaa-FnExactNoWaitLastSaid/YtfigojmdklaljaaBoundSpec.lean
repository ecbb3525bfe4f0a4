/- Contracts: the model's bound by jobs and machines. -/
import Derived.Test.YtfigojmdklaljaaBoundPure
import Derived.Test.YtfigojmdklaljaaMake
import Derived.Test.YtfigojmdklaljaaCount
import Derived.StillTailTactics
namespace Go.Proofs.Ytfigojmdklaljaa
open Go.RowKit Go.Lst

set_option maxHeartbeats 2000000 in
theorem l04Job_any (B b1 o1 cap1 : Nat) (ts : List Int) (m n i : Nat) (w : World) (h1 : LstI B w (.slice (some ⟨b1, o1, none⟩) (n * m) cap1) ts) (hm1 : 1 ≤ m) (hm8 : m ≤ 8) (hn24 : n ≤ 24) (hlen : ts.length = n * m)
    (ht : ∀ (i : Nat) (x : Int), ts[i]? = some x → 1 ≤ x ∧ x ≤ 10000) (hi : i < n) :
    Calls Try.prog 72 #[.slice (some ⟨b1, o1, none⟩) (n * m) cap1, .int .i64 m, .int .i64 (i : Int)] w fun e w' => e = .returned (.int .i64 (jobSum ts m i)) ∧ w = w' := by
  have hmn := mul_le24 hn24 hm8
  have hfit := row_fit (m := m) hi
  obtain ⟨_, _, hv1, hl1, hcap1, hcm1, _⟩ := h1.at_
  injection hv1 with e1 e2 e3
  subst e1 e3
  have hrl := rowOf_length (ts := ts) hlen hi
  have hS := Lib.hid (l02Sum_any B (.slice (some ⟨b1, o1 + i * m, none⟩) m (cap1 - i * m)) (rowOf ts m i) 0 w (lstI_part h1 (i * m) m (cap1 - i * m) (by omega) (by omega) (by omega)) (fun k hk => by
    have := partOf_bound ht hlen hi k (by omega)
    unfold partOf at this
    omega) (fun q x hx => by
    have hq : q < m := by have := (List.getElem?_eq_some_iff.1 hx).1; omega
    have h2 := rowOf_getD ts (i := i) hq
    rw [getD_of hx] at h2
    have := all_at ht (k := i * m + q) (by omega)
    omega))
  rw [hrl] at hS
  have hM1 : IntKind.i64.wrap ((i : Int) * (m : Int)) = ((i * m : Nat) : Int) := by
    rw [Int.natCast_mul]
    exact IntWalk.i64_in _ (by rw [← Int.natCast_mul]; omega)
  have hM2 : IntKind.i64.wrap (((i : Int) + 1) * (m : Int)) = ((i * m + m : Nat) : Int) := by
    have e : ((i : Int) + 1) * (m : Int) = ((i * m + m : Nat) : Int) := by rw [Int.add_mul, Int.one_mul]; omega
    rw [e]
    exact IntWalk.i64_in _ (by omega)
  have hR : Hid (jobSum ts m i = sumTo (rowOf ts m i) m) := Lib.hid rfl
  have hsub : i * m + m - i * m = m := by omega
  have hne : cap1 ≠ i * m := by omega
  generalize sumTo (rowOf ts m i) m = z at *
  generalize hr : i * m + m = r at *
  generalize hp : i * m = p at *
  generalize n * m = L at *
  have hpr : p ≤ r ∧ r ≤ cap1 := by omega
  clear h1 hrl ht hlen
  go_enter Try.func72, Try.ntmps72
  go_wp2_with (go_at_call 54; (with_reducible refine (hS.out).mono ?_); rintro e w' ⟨rfl, rfl⟩)
  go_ret
  exact ⟨ret_int hR.out.symm, rfl⟩
end Go.Proofs.Ytfigojmdklaljaa
