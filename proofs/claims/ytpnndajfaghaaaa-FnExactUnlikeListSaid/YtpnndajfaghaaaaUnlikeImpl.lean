/- The program's UnlikeList. UNDER WAY: only its guard stands. -/
import Derived.Test.YtpnndajfaghaaaaUnlike
import Derived.Test.YtpnndajfaghaaaaShopOf
namespace Go.Proofs.Ytpnndajfaghaaaa
open Go.RowKit Go.Lst Go.Plan

theorem rows_un (L : Nat) (m : Int) : rowsOk L m = unLen L m := by
  rw [Bool.eq_iff_iff]
  constructor
  · intro h
    obtain ⟨M, n, rfl, h1, h2, h3, h4, rfl⟩ := rowsOk_of h
    unfold unLen
    simp only [Bool.and_eq_true, decide_eq_true_eq, Int.toNat_natCast]
    have h5 : 1 * 1 ≤ n * M := Nat.mul_le_mul h3 h1
    refine ⟨?_, by omega, Nat.mul_mod_left n M, ?_⟩
    · unfold inB; simp; omega
    · rw [Nat.mul_div_cancel _ (by omega)]; exact h4
  · intro h
    unfold unLen at h
    simp only [Bool.and_eq_true, decide_eq_true_eq] at h
    obtain ⟨h1, h2, h3, h4⟩ := h
    obtain ⟨m1, m2⟩ := inB_true h1
    obtain ⟨M, rfl⟩ : ∃ M : Nat, m = M := ⟨m.toNat, by omega⟩
    rw [Int.toNat_natCast] at h3 h4
    have e1 : (L : Int) % (M : Int) = 0 := by rw [← Int.natCast_emod, h3]; rfl
    have e2 : (L : Int) / (M : Int) = ((L / M : Nat) : Int) := (Int.natCast_ediv L M).symm
    have h5 : 1 ≤ L / M := by
      rcases Nat.eq_zero_or_pos (L / M) with h0 | h0
      · have := Nat.div_add_mod L M
        rw [h0, h3, Nat.mul_zero] at this; omega
      · exact h0
    unfold rowsOk
    rw [h1, e1, e2]
    unfold inB
    simp; omega
theorem shop_un (ts : List Int) (m : Int) : canShop ts m = unOk ts m := by unfold canShop unOk; rw [rows_un]
theorem areUnlike_un (B : Nat) (v : Value) (ts : List Int) (m : Int) (w : World) (h : LstI B w v ts) :
    Calls Try.prog 59 #[v, .int .i64 m] w fun e w' => e = .returned (.bool (unOk ts m)) ∧ w = w' := by
  rw [← shop_un]; exact areUnlike_any B v ts m w h
end Go.Proofs.Ytpnndajfaghaaaa
