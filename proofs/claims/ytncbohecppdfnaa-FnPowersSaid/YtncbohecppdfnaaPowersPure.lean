/- What the tables of powers and logarithms tell of each number and of each pair. No condition. -/
import Derived.Test.YtncbohecppdfnaaPowersTab
namespace Go.Proofs.Ytncbohecppdfnaa
open Go.RowKit FloatKit

theorem exp_is (i : Nat) (h : i < 129) : eighth ((i : Int) - 64) = tabK.getD i 0 ∧ real4 (tabK.getD i 0) = true ∧ (FloatKind.f32.format.order (tabK.getD i 0) 1128792064 == some Ordering.gt) = false ∧ (FloatKind.f32.format.order (tabK.getD i 0) 3276275712 == some Ordering.lt) = false ∧
    real8 (fop .quo .f64 (widen (tabK.getD i 0)) 4643211215818981376) = true ∧ real8 (expD (tabK.getD i 0)) = true ∧ narOk (expD (tabK.getD i 0)) = true ∧ narW (expD (tabK.getD i 0)) = tabE.getD i 0 := by
  have := exps i h
  unfold expChk at this
  rw [forceP_is, Bool.and_eq_true] at this
  obtain ⟨e, this⟩ := this
  have e := beq_iff_eq.1 e
  rw [e] at this
  simp only [forceP_is, Bool.and_eq_true, Bool.not_eq_true'] at this
  obtain ⟨h1, h2, h3, h4, h5⟩ := this
  have k1 := expW_is (fop .quo .f64 (widen (tabK.getD i 0)) 4643211215818981376) (fun p => sqW 8 p fun d => real8 d && (narOk d && (narW d == tabE.getD i 0))) 12 0
  have k2 := sqW_is (expP (fop .quo .f64 (widen (tabK.getD i 0)) 4643211215818981376) 12) (fun d => real8 d && (narOk d && (narW d == tabE.getD i 0))) 8 0
  have k3 := k2.symm.trans (k1.symm.trans h5)
  simp only [Bool.and_eq_true] at k3
  exact ⟨e, h1, h2, h3, h4, k3.1, k3.2.1, beq_iff_eq.1 k3.2.2⟩
def PairIs (a b x : Nat) : Prop := real8 (fop .mul .f64 x (widen (tabE.getD (b + 32) 0))) = true ∧ real8 (gapV (fop .mul .f64 x (widen (tabE.getD (b + 32) 0))) (widen (tabE.getD (a + b) 0))) = true ∧ real8 (fop .mul .f64 4562254508917369340 (widen (tabE.getD (a + b) 0))) = true ∧
    less8 (gapV (fop .mul .f64 x (widen (tabE.getD (b + 32) 0))) (widen (tabE.getD (a + b) 0))) (fop .mul .f64 4562254508917369340 (widen (tabE.getD (a + b) 0))) = true ∧ fop .add .f32 (tabK.getD (a + 32) 0) (tabK.getD (b + 32) 0) = tabK.getD (a + b) 0
theorem row_isP (a x : Nat) : ∀ n b, rowP a x n = true → b < n → PairIs a b x
  | 0, _, _, h => by omega
  | n + 1, b, h, hb => by
    unfold rowP at h
    rw [Bool.and_eq_true] at h
    by_cases e : b = n
    · subst e
      have h := h.1
      simp only [forceP_is, Bool.and_eq_true] at h
      exact ⟨h.1, h.2.1, h.2.2.1, h.2.2.2.1, beq_iff_eq.1 h.2.2.2.2⟩
    · exact row_isP a x n b h.2 (by omega)
theorem log_facts {a : Nat} (h : a < 65) : (FloatKind.f32.format.order (tabE.getD (a + 32) 0) 0 == some Ordering.gt) = true ∧ tabE.getD (a + 32) 0 < 2139095040 ∧ ∀ w e w', RetLog (tabE.getD (a + 32) 0) w e w' → ∃ n, e = .returned (.float .f32 (tabL.getD a 0)) ∧ w' = w.drewN n := by
  have := logs a h
  unfold logChk at this
  simp only [forceP_is, logW_is, Bool.and_eq_true, decide_eq_true_eq, bne_iff_ne] at this
  obtain ⟨h0, h1, h2, h3, h4, h5⟩ := this
  refine ⟨h2, h1, ?_⟩
  rintro w e w' ⟨d, r, n, rfl, hw, hh⟩
  rw [if_neg h0, if_pos h1] at hh
  obtain ⟨hd, hr⟩ := hh
  have hn : isNaN Ieee.double (logC (redX (widen (tabE.getD (a + 32) 0))) (redE (widen (tabE.getD (a + 32) 0)))) = false := by unfold real8 at h3; simpa using h3
  obtain rfl := hd.eq hn
  rw [nar_of h4 hr, beq_iff_eq.1 h5]
  exact ⟨n, rfl, hw⟩
theorem gap_facts {a : Nat} (h : a < 65) : real4 (tabL.getD a 0) = true ∧ real8 (gapV (widen (tabL.getD a 0)) (widen (tabK.getD (a + 32) 0))) = true ∧ less8 (gapV (widen (tabL.getD a 0)) (widen (tabK.getD (a + 32) 0))) 4562254508917369340 = true := by
  have := logGaps a h
  unfold logGap at this
  simp only [forceP_is, Bool.and_eq_true] at this
  exact this
theorem pair_facts {a b : Nat} (ha : a < 65) (hb : b < 65) : PairIs a b (widen (tabE.getD (a + 32) 0)) := row_isP a (widen (tabE.getD (a + 32) 0)) 65 b (by have := rowsA a ha; unfold rowA at this; rwa [forceP_is] at this) hb
end Go.Proofs.Ytncbohecppdfnaa
