/- Contracts: a time that is drawn. -/
import Derived.Test.YtnofngnlmhdgaaaMeanTime
import Derived.Test.YtnofngnlmhdgaaaScale
import Derived.Test.YtnofngnlmhdgaaaRoot
import Derived.Test.YtnofngnlmhdgaaaOwn
import Derived.Test.YtnofngnlmhdgaaaAreJobs
import Derived.IntWalk
namespace Go.Proofs.Ytnofngnlmhdgaaa
open Go.RowKit Go.Lst FloatKit

theorem rootS_same {a a' x x' y y' r r' : Nat} (he : Eqv Ieee.single a a') (ha : a' < 4294967296) (hx : Wid a x) (hx' : Wid a' x') (hy : Eqv Ieee.double y (sqrtC x)) (hy' : Eqv Ieee.double y' (sqrtC x')) (hr : Nar y r) (hr' : Nar y' r') : Eqv Ieee.single r r' := by
  have e1 : sqrtC x = sqrtC x' := sqrtC_eqv (Wid.eqv hx hx' he)
  have e2 : Eqv Ieee.double y y' := hy.trans (by rw [e1]; exact hy'.symm)
  refine Nar.calm hr hr' e2 ?_
  have hc := root_calm ha hx'
  rcases hc with h | ⟨s, h⟩ | ⟨k, hk, h⟩
  · exact .inl (by rw [hy'.nan]; exact h)
  · have := hy'.eq (by unfold isNaN; rw [h]; rfl)
    exact .inr (.inl ⟨s, by rw [this]; exact h⟩)
  · have := hy'.eq h.1
    exact .inr (.inr ⟨k, hk, by rw [this]; exact h⟩)
def tS (seed : Nat) : Nat := (1664525 * seed + 1013904223) % 4294967296
def tU (k : Nat) : Nat := fop .quo .f32 (floatOfInt .f32 (k : Int)) 1266679808
def tW (lo hi : Nat) : Nat := fop .sub .f32 hi lo
def tC (lo mi hi : Nat) : Nat := fop .quo .f32 (fop .sub .f32 mi lo) (tW lo hi)
def tLt (lo mi hi u : Nat) : Bool := Ieee.single.order u (tC lo mi hi) == some .lt
def tA (lo mi hi u : Nat) : Nat := if tLt lo mi hi u then fop .mul .f32 (fop .mul .f32 u (tW lo hi)) (fop .sub .f32 mi lo) else fop .mul .f32 (fop .mul .f32 (fop .sub .f32 1065353216 u) (tW lo hi)) (fop .sub .f32 hi mi)
def RootR (a r : Nat) : Prop := ∃ a' x y, Eqv Ieee.single a' a ∧ a' < 4294967296 ∧ Wid a' x ∧ Eqv Ieee.double y (sqrtC x) ∧ Nar y r
def TimeP (lo mi hi u p : Nat) : Prop := ∃ r, RootR (tA lo mi hi u) r ∧ Eqv Ieee.single p (if tLt lo mi hi u then fop .add .f32 lo r else fop .sub .f32 hi r)
theorem RootR.same {a r r' : Nat} (h : RootR a r) (h' : RootR a r') : Eqv Ieee.single r r' := by
  obtain ⟨b, x, y, e1, b1, h1, h2, h3⟩ := h
  obtain ⟨b', x', y', e2, b2, h1', h2', h3'⟩ := h'
  exact rootS_same (e1.trans e2.symm) b2 h1 h1' h2 h2' h3 h3'
theorem TimeP.same {lo mi hi u p p' : Nat} (h : TimeP lo mi hi u p) (h' : TimeP lo mi hi u p') : Eqv Ieee.single p p' := by
  obtain ⟨r, h1, h2⟩ := h
  obtain ⟨r', h1', h2'⟩ := h'
  have e := h1.same h1'
  refine h2.trans (Eqv.trans ?_ h2'.symm)
  split
  · exact .inl (fop_eqv .add .f32 (Eqv.refl _ lo) e)
  · exact .inl (fop_eqv .sub .f32 (Eqv.refl _ hi) e)
theorem cq_eqv {lo mi hi s1 w1 q : Nat} (h1 : Eqv FloatKind.f32.format s1 (fop .sub .f32 mi lo)) (h2 : Eqv FloatKind.f32.format w1 (fop .sub .f32 hi lo)) (h3 : Eqv FloatKind.f32.format q (fop .quo .f32 s1 w1)) : Eqv Ieee.single q (tC lo mi hi) :=
  h3.trans (.inl (fop_eqv .quo .f32 h1 h2))
theorem lt_key {lo mi hi c u : Nat} (hc : Eqv Ieee.single c u) {q : Nat} (hq : Eqv Ieee.single q (tC lo mi hi)) : (FloatKind.f32.format.order c q == some Ordering.lt) = tLt lo mi hi u := by
  show (Ieee.single.order c q == some Ordering.lt) = _
  rw [hc.order hq]; rfl
theorem time_low {lo mi hi c u w1 s1 m1 m2 x y r p : Nat} (hl : tLt lo mi hi u = true) (hc : Eqv Ieee.single c u) (h1 : Eqv FloatKind.f32.format w1 (fop .sub .f32 hi lo)) (h2 : Eqv FloatKind.f32.format s1 (fop .sub .f32 mi lo)) (h3 : Eqv FloatKind.f32.format m1 (fop .mul .f32 c w1)) (h4 : Eqv FloatKind.f32.format m2 (fop .mul .f32 m1 s1)) (hb : m2 < 2 ^ FloatKind.f32.format.width) (hx : Wid m2 x) (hy : Eqv Ieee.double y (sqrtC x)) (hr : Nar y r) (h5 : Eqv FloatKind.f32.format p (fop .add .f32 lo r)) : TimeP lo mi hi u p := by
  refine ⟨r, ⟨m2, x, y, ?_, hb, hx, hy, hr⟩, by rw [hl, if_pos rfl]; exact h5⟩
  unfold tA
  rw [hl, if_pos rfl]
  exact h4.trans (.inl (fop_eqv .mul .f32 (h3.trans (.inl (fop_eqv .mul .f32 hc h1))) h2))
theorem time_high {lo mi hi c u w1 o1 s3 m1 m2 x y r p : Nat} (hl : tLt lo mi hi u = false) (hc : Eqv Ieee.single c u) (h1 : Eqv FloatKind.f32.format w1 (fop .sub .f32 hi lo)) (h2 : Eqv FloatKind.f32.format o1 (fop .sub .f32 1065353216 c)) (h3 : Eqv FloatKind.f32.format m1 (fop .mul .f32 o1 w1)) (h4 : Eqv FloatKind.f32.format s3 (fop .sub .f32 hi mi)) (h5 : Eqv FloatKind.f32.format m2 (fop .mul .f32 m1 s3)) (hb : m2 < 2 ^ FloatKind.f32.format.width) (hx : Wid m2 x) (hy : Eqv Ieee.double y (sqrtC x)) (hr : Nar y r) (h6 : Eqv FloatKind.f32.format p (fop .sub .f32 hi r)) : TimeP lo mi hi u p := by
  refine ⟨r, ⟨m2, x, y, ?_, hb, hx, hy, hr⟩, by rw [hl, if_neg (by simp)]; exact h6⟩
  unfold tA
  rw [hl, if_neg (by simp)]
  exact h5.trans (.inl (fop_eqv .mul .f32 (h3.trans (.inl (fop_eqv .mul .f32 (h2.trans (.inl (fop_eqv .sub .f32 (Eqv.refl _ _) hc))) h1))) h4))
def gtF (a b : Nat) : Bool := Ieee.single.order a b == some .gt
def canDraw (lo mi hi : Nat) (seed : Int) : Bool := risesF lo mi hi && gtF hi lo && inB seed 0 4294967295
def DrawSaid (lo mi hi : Nat) (seed : Int) (v : Nat) (s : Int) (ok : Bool) : Prop :=
  (canDraw lo mi hi seed = false ∧ v = 0 ∧ s = 0 ∧ ok = false) ∨ (canDraw lo mi hi seed = true ∧ ∃ p, TimeP lo mi hi (tU (tS seed.toNat / 256)) p ∧ ok = finite Ieee.single p ∧ v = (if finite Ieee.single p then p else 0) ∧ s = if finite Ieee.single p then ((tS seed.toNat : Nat) : Int) else 0)
theorem DrawSaid.same {lo mi hi : Nat} {seed : Int} {v v' : Nat} {s s' : Int} {ok ok' : Bool} (h : DrawSaid lo mi hi seed v s ok) (h' : DrawSaid lo mi hi seed v' s' ok') : v = v' ∧ s = s' ∧ ok = ok' := by
  rcases h with ⟨h0, rfl, rfl, rfl⟩ | ⟨h0, p, hp, rfl, rfl, rfl⟩
  · rcases h' with ⟨_, rfl, rfl, rfl⟩ | ⟨h0', _⟩
    · exact ⟨rfl, rfl, rfl⟩
    · rw [h0] at h0'; cases h0'
  · rcases h' with ⟨h0', _⟩ | ⟨_, p', hp', rfl, rfl, rfl⟩
    · rw [h0] at h0'; cases h0'
    · have e := hp.same hp'
      have hf := finite_eqv e
      rw [hf]
      cases hq : finite Ieee.single p'
      · exact ⟨rfl, rfl, rfl⟩
      · exact ⟨by rw [if_pos rfl, if_pos rfl]; exact word_of e hq, rfl, rfl⟩
def RetTD (lo mi hi : Nat) (seed : Int) (w : World) (e : Ending) (w' : World) : Prop := ∃ v s ok m, e = .returned (.tuple #[.float .f32 v, .int .i64 s, .bool ok]) ∧ DrawSaid lo mi hi seed v s ok ∧ w' = w.drewN m
theorem rises_eq {lo mi hi : Nat} (h : risesF lo mi hi = true) : (FloatKind.f32.format.order lo hi == some Ordering.eq) = !gtF hi lo ∧ finite Ieee.single hi = true := by
  have hm := risesF_mid h
  unfold risesF at h
  simp only [Bool.and_eq_true] at h
  obtain ⟨⟨⟨ha, hc⟩, h1⟩, h2⟩ := h
  obtain ⟨_, h3⟩ := leF_sval h1
  obtain ⟨_, h4⟩ := leF_sval h2
  refine ⟨?_, hc⟩
  unfold gtF
  show (Ieee.single.order lo hi == some Ordering.eq) = _
  rw [order_sval single_hb (finite_nan ha) (finite_nan hc), order_sval single_hb (finite_nan hc) (finite_nan ha)]
  simp only [compare, compareOfLessAndEq]
  by_cases e : sval Ieee.single lo = sval Ieee.single hi
  · rw [if_neg (show ¬ sval Ieee.single lo < sval Ieee.single hi by omega), if_pos e, if_neg (show ¬ sval Ieee.single hi < sval Ieee.single lo by omega), if_pos e.symm]; rfl
  · rw [if_pos (show sval Ieee.single lo < sval Ieee.single hi by omega), if_neg (show ¬ sval Ieee.single hi < sval Ieee.single lo by omega), if_neg (fun h => e h.symm)]; rfl
theorem sub_gt {lo hi r : Nat} (hf : finite Ieee.single hi = true) (hr : Eqv FloatKind.f32.format r (fop .sub .f32 hi lo)) : (FloatKind.f32.format.order r 0 == some Ordering.gt) = gtF hi lo := by
  rw [hr.order (Eqv.refl _ 0)]
  show (Ieee.single.order (fop .sub .f32 hi lo) 0 == some Ordering.gt) = _
  rw [order_sub lo hf]; rfl
theorem tS_facts {sd : Nat} (h : sd ≤ 4294967295) : ∃ S K : Nat, tS sd = S ∧ S / 256 = K ∧ S < 4294967296 ∧ K < 16777216 ∧ (1664525 * (sd : Int) + 1013904223).tmod 4294967296 = (S : Int) ∧ (1664525 * (sd : Int) + 1013904223) % 4294967296 = (S : Int) ∧ (S : Int).tdiv 256 = (K : Int) ∧ (S : Int) / 256 = (K : Int) := by
  have hS := Nat.mod_lt (1664525 * sd + 1013904223) (show 0 < 4294967296 by decide)
  refine ⟨tS sd, tS sd / 256, rfl, rfl, hS, ?_, ?_, ?_, ?_, ?_⟩
  · unfold tS; omega
  · rw [Int.tmod_eq_emod_of_nonneg (by omega)]; unfold tS; omega
  · unfold tS; omega
  · rw [Int.tdiv_eq_ediv_of_nonneg (by omega)]; omega
  · omega
set_option maxHeartbeats 2000000 in
set_option maxRecDepth 100000 in
theorem timeAt_any (lo mi hi c u : Nat) (hc : Eqv Ieee.single c u) (w : World) :
    Calls Try.prog 13 #[.float .f32 lo, .float .f32 mi, .float .f32 hi, .float .f32 c] w fun e w' => ∃ p m, e = .returned (.float .f32 p) ∧ TimeP lo mi hi u p ∧ w' = w.drewN m := by
  have hKey := Lib.hid (fun q (hq : Eqv Ieee.single q (tC lo mi hi)) => lt_key hc hq)
  have hCc := Lib.hid hc
  clear hc
  cases hl : tLt lo mi hi u
  · rw [hl] at hKey
    go_enter Try.func13, Try.ntmps13
    go_wp2_with (first | (refine wpList_farith rfl _ _ _ _ _ rfl _ _ _ rfl rfl (by rfl) ?_; intro w1 jw1 hp lw1; have Ew1 : Hid (Eqv FloatKind.f32.format w1 (fop .sub .f32 hi lo)) := (by with_reducible exact Lib.hid hp); clear hp lw1) | (refine wpList_farith rfl _ _ _ _ _ rfl _ _ _ rfl rfl (by rfl) ?_; intro s1 js1 hp ls1; have Es1 : Hid (Eqv FloatKind.f32.format s1 (fop .sub .f32 mi lo)) := (by with_reducible exact Lib.hid hp); clear hp ls1) | (refine wpList_farith rfl _ _ _ _ _ rfl _ _ _ rfl rfl (by rfl) ?_; intro q1 jq1 hp lq1; have Eq1 : Hid (Eqv FloatKind.f32.format q1 (fop .quo .f32 s1 w1)) := (by with_reducible exact Lib.hid hp); have hz := hKey.out q1 (cq_eqv Es1.out Ew1.out Eq1.out); clear hp lq1) | (refine wpList_farith rfl _ _ _ _ _ rfl _ _ _ rfl rfl (by rfl) ?_; intro o1 jo1 hp lo1; have Eo1 : Hid (Eqv FloatKind.f32.format o1 (fop .sub .f32 1065353216 c)) := (by with_reducible exact Lib.hid hp); clear hp lo1) | (refine wpList_farith rfl _ _ _ _ _ rfl _ _ _ rfl rfl (by rfl) ?_; intro m1 jm1 hp lm1; have Em1 : Hid (Eqv FloatKind.f32.format m1 (fop .mul .f32 o1 w1)) := (by with_reducible exact Lib.hid hp); clear hp lm1) | (refine wpList_farith rfl _ _ _ _ _ rfl _ _ _ rfl rfl (by rfl) ?_; intro s3 js3 hp ls3; have Es3 : Hid (Eqv FloatKind.f32.format s3 (fop .sub .f32 hi mi)) := (by with_reducible exact Lib.hid hp); clear hp ls3) | (refine wpList_farith rfl _ _ _ _ _ rfl _ _ _ rfl rfl (by rfl) ?_; intro m2 jm2 hp lm2; have Em2 : Hid (Eqv FloatKind.f32.format m2 (fop .mul .f32 m1 s3)) := (by with_reducible exact Lib.hid hp); have Lm2 := Lib.hid lm2; clear hp lm2) | (go_at_call 17; refine (rootNumber_any _ _).mono ?_; rintro e w' ⟨x, y, r, nr, hx, hy, hr, rfl, rfl⟩; have HX := Lib.hid hx; have HY := Lib.hid hy; have HR := Lib.hid hr; clear hx hy hr) | (refine wpList_farith rfl _ _ _ _ _ rfl _ _ _ rfl rfl (by rfl) ?_; intro p jp hp lp; have Ep : Hid (Eqv FloatKind.f32.format p (fop .sub .f32 hi r)) := (by with_reducible exact Lib.hid hp); clear hp lp))
    have hT := time_high hl hCc.out Ew1.out Eo1.out Em1.out Es3.out Em2.out Lm2.out HX.out HY.out HR.out Ep.out
    go_ret
    exact ⟨_, _, rfl, hT, rfl⟩
  · rw [hl] at hKey
    go_enter Try.func13, Try.ntmps13
    go_wp2_with (first | (refine wpList_farith rfl _ _ _ _ _ rfl _ _ _ rfl rfl (by rfl) ?_; intro w1 jw1 hp lw1; have Ew1 : Hid (Eqv FloatKind.f32.format w1 (fop .sub .f32 hi lo)) := (by with_reducible exact Lib.hid hp); clear hp lw1) | (refine wpList_farith rfl _ _ _ _ _ rfl _ _ _ rfl rfl (by rfl) ?_; intro s1 js1 hp ls1; have Es1 : Hid (Eqv FloatKind.f32.format s1 (fop .sub .f32 mi lo)) := (by with_reducible exact Lib.hid hp); clear hp ls1) | (refine wpList_farith rfl _ _ _ _ _ rfl _ _ _ rfl rfl (by rfl) ?_; intro q1 jq1 hp lq1; have Eq1 : Hid (Eqv FloatKind.f32.format q1 (fop .quo .f32 s1 w1)) := (by with_reducible exact Lib.hid hp); have hz := hKey.out q1 (cq_eqv Es1.out Ew1.out Eq1.out); clear hp lq1) | (refine wpList_farith rfl _ _ _ _ _ rfl _ _ _ rfl rfl (by rfl) ?_; intro m1 jm1 hp lm1; have Em1 : Hid (Eqv FloatKind.f32.format m1 (fop .mul .f32 c w1)) := (by with_reducible exact Lib.hid hp); clear hp lm1) | (refine wpList_farith rfl _ _ _ _ _ rfl _ _ _ rfl rfl (by rfl) ?_; intro m2 jm2 hp lm2; have Em2 : Hid (Eqv FloatKind.f32.format m2 (fop .mul .f32 m1 s1)) := (by with_reducible exact Lib.hid hp); have Lm2 := Lib.hid lm2; clear hp lm2) | (go_at_call 17; refine (rootNumber_any _ _).mono ?_; rintro e w' ⟨x, y, r, nr, hx, hy, hr, rfl, rfl⟩; have HX := Lib.hid hx; have HY := Lib.hid hy; have HR := Lib.hid hr; clear hx hy hr) | (refine wpList_farith rfl _ _ _ _ _ rfl _ _ _ rfl rfl (by rfl) ?_; intro p jp hp lp; have Ep : Hid (Eqv FloatKind.f32.format p (fop .add .f32 lo r)) := (by with_reducible exact Lib.hid hp); clear hp lp))
    have hT := time_low hl hCc.out Ew1.out Es1.out Em1.out Em2.out Lm2.out HX.out HY.out HR.out Ep.out
    go_ret
    exact ⟨_, _, rfl, hT, rfl⟩
set_option maxHeartbeats 400000 in
theorem l01SqrtD_any (a : Nat) (w : World) : Calls Try.prog 16 #[.float .f32 a] w (RetRoot a w) := by
  go_enter Try.func16, Try.ntmps16
  go_wp2_with (first | (refine wpList_widen rfl _ _ _ rfl u32_some Try.underlying26 _ rfl ?_; intro x n hx; have hX := Lib.hid hx; clear hx) | (go_at_call 20; refine (sqrt_any _ _).mono ?_; rintro e w' ⟨y, m, rfl, hy, _, rfl⟩; have hY := Lib.hid hy; clear hy) | (go_at_call 19; refine (l01Narrow_any _ _).mono ?_; rintro e w' ⟨r, m, rfl, hr, rfl⟩; have hR := Lib.hid hr; clear hr))
  go_ret
  exact ⟨_, _, _, _, hX.out, hY.out, hR.out, rfl, rfl⟩
set_option maxHeartbeats 2000000 in
set_option maxRecDepth 100000 in
theorem l03Draw_any (lo mi hi sd S K : Nat) (h0 : sd ≤ 4294967295) (hS : S < 4294967296) (hK : K < 16777216) (r1 : (1664525 * (sd : Int) + 1013904223).tmod 4294967296 = (S : Int)) (r2 : (1664525 * (sd : Int) + 1013904223) % 4294967296 = (S : Int)) (r3 : (S : Int).tdiv 256 = (K : Int)) (r4 : (S : Int) / 256 = (K : Int)) (w : World) :
    Calls Try.prog 9 #[.float .f32 lo, .float .f32 mi, .float .f32 hi, .int .i64 sd] w fun e w' => ∃ p m, e = .returned (.tuple #[.float .f32 p, .int .i64 S]) ∧ TimeP lo mi hi (tU K) p ∧ w' = w.drewN m := by
  have hw1 : IntKind.i64.wrap (1664525 * (sd : Int)) = 1664525 * (sd : Int) := IntWalk.i64_in _ (by omega)
  have hw2 : IntKind.i64.wrap (1664525 * (sd : Int) + 1013904223) = 1664525 * (sd : Int) + 1013904223 := IntWalk.i64_in _ (by omega)
  have hw3 : IntKind.i64.wrap (S : Int) = (S : Int) := IntWalk.i64_in _ (by omega)
  have hw4 : IntKind.i64.wrap (K : Int) = (K : Int) := IntWalk.i64_in _ (by omega)
  have hw5 : IntKind.i64.wrap ((1664525 * (sd : Int) + 1013904223).tmod 4294967296) = (S : Int) := by rw [r1]; exact hw3
  have hw6 : IntKind.i64.wrap ((S : Int).tdiv 256) = (K : Int) := by rw [r3]; exact hw4
  cases hl : tLt lo mi hi (tU K)
  · have hKey : Hid (∀ u1 q, Eqv Ieee.single u1 (tU K) → Eqv Ieee.single q (tC lo mi hi) → (FloatKind.f32.format.order u1 q == some Ordering.lt) = false) := Lib.hid fun u1 q h1 h2 => by rw [← hl]; exact lt_key h1 h2
    go_enter Try.func9, Try.ntmps9
    go_wp2_with (first | (refine wpList_farith rfl _ _ _ _ _ rfl _ _ _ rfl rfl (by rfl) ?_; intro u1 ju1 hp lu1; have Eu1 : Hid (Eqv FloatKind.f32.format u1 (fop .quo .f32 (floatOfInt .f32 (K : Int)) 1266679808)) := (by with_reducible exact Lib.hid hp); clear hp lu1) | (refine wpList_farith rfl _ _ _ _ _ rfl _ _ _ rfl rfl (by rfl) ?_; intro w1 jw1 hp lw1; have Ew1 : Hid (Eqv FloatKind.f32.format w1 (fop .sub .f32 hi lo)) := (by with_reducible exact Lib.hid hp); clear hp lw1) | (refine wpList_farith rfl _ _ _ _ _ rfl _ _ _ rfl rfl (by rfl) ?_; intro s1 js1 hp ls1; have Es1 : Hid (Eqv FloatKind.f32.format s1 (fop .sub .f32 mi lo)) := (by with_reducible exact Lib.hid hp); clear hp ls1) | (refine wpList_farith rfl _ _ _ _ _ rfl _ _ _ rfl rfl (by rfl) ?_; intro q1 jq1 hp lq1; have Eq1 : Hid (Eqv FloatKind.f32.format q1 (fop .quo .f32 s1 w1)) := (by with_reducible exact Lib.hid hp); have hz := hKey.out u1 q1 Eu1.out (cq_eqv Es1.out Ew1.out Eq1.out); clear hp lq1) | (refine wpList_farith rfl _ _ _ _ _ rfl _ _ _ rfl rfl (by rfl) ?_; intro o1 jo1 hp lo1; have Eo1 : Hid (Eqv FloatKind.f32.format o1 (fop .sub .f32 1065353216 u1)) := (by with_reducible exact Lib.hid hp); clear hp lo1) | (refine wpList_farith rfl _ _ _ _ _ rfl _ _ _ rfl rfl (by rfl) ?_; intro m1 jm1 hp lm1; have Em1 : Hid (Eqv FloatKind.f32.format m1 (fop .mul .f32 o1 w1)) := (by with_reducible exact Lib.hid hp); clear hp lm1) | (refine wpList_farith rfl _ _ _ _ _ rfl _ _ _ rfl rfl (by rfl) ?_; intro s3 js3 hp ls3; have Es3 : Hid (Eqv FloatKind.f32.format s3 (fop .sub .f32 hi mi)) := (by with_reducible exact Lib.hid hp); clear hp ls3) | (refine wpList_farith rfl _ _ _ _ _ rfl _ _ _ rfl rfl (by rfl) ?_; intro m2 jm2 hp lm2; have Em2 : Hid (Eqv FloatKind.f32.format m2 (fop .mul .f32 m1 s3)) := (by with_reducible exact Lib.hid hp); have Lm2 := Lib.hid lm2; clear hp lm2) | (go_at_call 16; refine (l01SqrtD_any _ _).mono ?_; rintro e w' ⟨x, y, r, nr, hx, hy, hr, rfl, rfl⟩; have HX := Lib.hid hx; have HY := Lib.hid hy; have HR := Lib.hid hr; clear hx hy hr) | (refine wpList_farith rfl _ _ _ _ _ rfl _ _ _ rfl rfl (by rfl) ?_; intro p jp hp lp; have Ep : Hid (Eqv FloatKind.f32.format p (fop .sub .f32 hi r)) := (by with_reducible exact Lib.hid hp); clear hp lp))
    have hT := time_high hl Eu1.out Ew1.out Eo1.out Em1.out Es3.out Em2.out Lm2.out HX.out HY.out HR.out Ep.out
    first | (go_ret2; exact ⟨_, _, rfl, hT, rfl⟩) | (go_ret; exact ⟨_, _, rfl, hT, rfl⟩)
  · have hKey : Hid (∀ u1 q, Eqv Ieee.single u1 (tU K) → Eqv Ieee.single q (tC lo mi hi) → (FloatKind.f32.format.order u1 q == some Ordering.lt) = true) := Lib.hid fun u1 q h1 h2 => by rw [← hl]; exact lt_key h1 h2
    go_enter Try.func9, Try.ntmps9
    go_wp2_with (first | (refine wpList_farith rfl _ _ _ _ _ rfl _ _ _ rfl rfl (by rfl) ?_; intro u1 ju1 hp lu1; have Eu1 : Hid (Eqv FloatKind.f32.format u1 (fop .quo .f32 (floatOfInt .f32 (K : Int)) 1266679808)) := (by with_reducible exact Lib.hid hp); clear hp lu1) | (refine wpList_farith rfl _ _ _ _ _ rfl _ _ _ rfl rfl (by rfl) ?_; intro w1 jw1 hp lw1; have Ew1 : Hid (Eqv FloatKind.f32.format w1 (fop .sub .f32 hi lo)) := (by with_reducible exact Lib.hid hp); clear hp lw1) | (refine wpList_farith rfl _ _ _ _ _ rfl _ _ _ rfl rfl (by rfl) ?_; intro s1 js1 hp ls1; have Es1 : Hid (Eqv FloatKind.f32.format s1 (fop .sub .f32 mi lo)) := (by with_reducible exact Lib.hid hp); clear hp ls1) | (refine wpList_farith rfl _ _ _ _ _ rfl _ _ _ rfl rfl (by rfl) ?_; intro q1 jq1 hp lq1; have Eq1 : Hid (Eqv FloatKind.f32.format q1 (fop .quo .f32 s1 w1)) := (by with_reducible exact Lib.hid hp); have hz := hKey.out u1 q1 Eu1.out (cq_eqv Es1.out Ew1.out Eq1.out); clear hp lq1) | (refine wpList_farith rfl _ _ _ _ _ rfl _ _ _ rfl rfl (by rfl) ?_; intro m1 jm1 hp lm1; have Em1 : Hid (Eqv FloatKind.f32.format m1 (fop .mul .f32 u1 w1)) := (by with_reducible exact Lib.hid hp); clear hp lm1) | (refine wpList_farith rfl _ _ _ _ _ rfl _ _ _ rfl rfl (by rfl) ?_; intro m2 jm2 hp lm2; have Em2 : Hid (Eqv FloatKind.f32.format m2 (fop .mul .f32 m1 s1)) := (by with_reducible exact Lib.hid hp); have Lm2 := Lib.hid lm2; clear hp lm2) | (go_at_call 16; refine (l01SqrtD_any _ _).mono ?_; rintro e w' ⟨x, y, r, nr, hx, hy, hr, rfl, rfl⟩; have HX := Lib.hid hx; have HY := Lib.hid hy; have HR := Lib.hid hr; clear hx hy hr) | (refine wpList_farith rfl _ _ _ _ _ rfl _ _ _ rfl rfl (by rfl) ?_; intro p jp hp lp; have Ep : Hid (Eqv FloatKind.f32.format p (fop .add .f32 lo r)) := (by with_reducible exact Lib.hid hp); clear hp lp))
    have hT := time_low hl Eu1.out Ew1.out Es1.out Em1.out Em2.out Lm2.out HX.out HY.out HR.out Ep.out
    first | (go_ret2; exact ⟨_, _, rfl, hT, rfl⟩) | (go_ret; exact ⟨_, _, rfl, hT, rfl⟩)
theorem l03Seed_any (s : Int) (w : World) : Calls Try.prog 8 #[.int .i64 s] w fun e w' => e = .returned (.bool (inB s 0 4294967295)) ∧ w = w' := by
  go_enter Try.func8, Try.ntmps8
  go_wp2_with (go_at_call 15; refine (l00In_any _ _ _ _).mono ?_; rintro e w' ⟨rfl, rfl⟩)
  go_ret
  exact ⟨rfl, rfl⟩
set_option maxHeartbeats 2000000 in
set_option maxRecDepth 100000 in
theorem specDrawn_any (lo mi hi : Nat) (seed : Int) (w : World) : Calls Try.prog 4 #[.float .f32 lo, .float .f32 mi, .float .f32 hi, .int .i64 seed] w (RetTD lo mi hi seed w) := by
  have hNo : Hid (canDraw lo mi hi seed = false → ∀ m, RetTD lo mi hi seed w (.returned (.tuple #[.float .f32 0, .int .i64 0, .bool false])) (w.drewN m)) := Lib.hid fun hn m => ⟨_, _, _, m, rfl, .inl ⟨hn, rfl, rfl, rfl⟩, rfl⟩
  have hYes : Hid (canDraw lo mi hi seed = true → ∀ p m, TimeP lo mi hi (tU (tS seed.toNat / 256)) p → RetTD lo mi hi seed w (.returned (.tuple #[.float .f32 (if finite Ieee.single p then p else 0), .int .i64 (if finite Ieee.single p then ((tS seed.toNat : Nat) : Int) else 0), .bool (finite Ieee.single p)])) (w.drewN m)) := Lib.hid fun hy p m hp => ⟨_, _, _, m, rfl, .inr ⟨hy, p, hp, rfl, rfl, rfl⟩, rfl⟩
  have hR := Lib.hid (fun w' => l03Three_any lo mi hi w')
  generalize RetTD lo mi hi seed w = Q at *
  cases c0 : risesF lo mi hi
  · rw [c0] at hR
    have hN := Lib.hid (hNo.out (by unfold canDraw; rw [c0]; rfl))
    go_enter Try.func4, Try.ntmps4
    go_wp2_with (go_at_call 7; (with_reducible refine (hR.out _).mono ?_); rintro e w' ⟨m, rfl, rfl⟩)
    first | exact hN.out _ | (go_ret3; exact hN.out _)
  rw [c0] at hR
  have hKey := Lib.hid (fun r hr => sub_gt (lo := lo) (r := r) (rises_eq c0).2 hr)
  cases c1 : gtF hi lo
  · rw [c1] at hKey
    have hN := Lib.hid (hNo.out (by unfold canDraw; rw [c0, c1]; rfl))
    go_enter Try.func4, Try.ntmps4
    go_wp2_with (first | (go_at_call 7; (with_reducible refine (hR.out _).mono ?_); rintro e w' ⟨m, rfl, rfl⟩) | (refine wpList_farith rfl _ _ _ _ _ rfl _ _ _ rfl rfl (by rfl) ?_; intro d jd hp ld; have hz := hKey.out d hp; clear hp ld))
    first | exact hN.out _ | (go_ret3; exact hN.out _)
  rw [c1] at hKey
  cases c2 : inB seed 0 4294967295
  · have hN := Lib.hid (hNo.out (by unfold canDraw; rw [c0, c1, c2]; rfl))
    go_enter Try.func4, Try.ntmps4
    go_wp2_with (first | (go_at_call 7; (with_reducible refine (hR.out _).mono ?_); rintro e w' ⟨m, rfl, rfl⟩) | (refine wpList_farith rfl _ _ _ _ _ rfl _ _ _ rfl rfl (by rfl) ?_; intro d jd hp ld; have hz := hKey.out d hp; clear hp ld) | (go_at_call 8; refine (l03Seed_any _ _).mono ?_; rintro e w' ⟨rfl, rfl⟩))
    first | exact hN.out _ | (go_ret3; exact hN.out _)
  obtain ⟨sd, rfl⟩ := Int.eq_ofNat_of_zero_le (inB_true c2).1
  have hs2 := (inB_true c2).2
  have hY := hYes.out (by unfold canDraw; rw [c0, c1, c2]; rfl)
  rw [Int.toNat_natCast] at hY
  obtain ⟨S, K, e1, e2, hS, hK, r1, r2, r3, r4⟩ := tS_facts (sd := sd) (by omega)
  rw [e1, e2] at hY
  have hYh := Lib.hid hY
  have hD := Lib.hid (fun w' => l03Draw_any lo mi hi sd S K (by omega) hS hK r1 r2 r3 r4 w')
  clear hY hYes hNo r1 r2 r3 r4 e1 e2
  go_enter Try.func4, Try.ntmps4
  go_wp2_with (first | (go_at_call 7; (with_reducible refine (hR.out _).mono ?_); rintro e w' ⟨m, rfl, rfl⟩) | (refine wpList_farith rfl _ _ _ _ _ rfl _ _ _ rfl rfl (by rfl) ?_; intro d jd hp ld; have hz := hKey.out d hp; clear hp ld) | (go_at_call 8; refine (l03Seed_any _ _).mono ?_; rintro e w' ⟨rfl, rfl⟩) | (go_at_call 9; (with_reducible refine (hD.out _).mono ?_); rintro e w' ⟨p, md, rfl, hp, rfl⟩; have hPp := Lib.hid hp; clear hp))
  have hZ := Lib.hid (fun m => hYh.out p m hPp.out)
  cases hf : finite Ieee.single p
  · rw [hf, if_neg (by simp), if_neg (by simp)] at hZ
    go_wp2_with (go_at_call 10; refine (l01Finite_any _ _).mono ?_; rintro e w' ⟨m, rfl, rfl⟩)
    first | exact hZ.out _ | (go_ret3; exact hZ.out _)
  · rw [hf, if_pos rfl, if_pos rfl] at hZ
    go_wp2_with (go_at_call 10; refine (l01Finite_any _ _).mono ?_; rintro e w' ⟨m, rfl, rfl⟩)
    first | exact hZ.out _ | (go_ret3; exact hZ.out _)
set_option maxHeartbeats 2000000 in
set_option maxRecDepth 100000 in
theorem implDrawn_any (lo mi hi : Nat) (seed : Int) (w : World) : Calls Try.prog 5 #[.float .f32 lo, .float .f32 mi, .float .f32 hi, .int .i64 seed] w (RetTD lo mi hi seed w) := by
  have hNo : Hid (canDraw lo mi hi seed = false → ∀ m, RetTD lo mi hi seed w (.returned (.tuple #[.float .f32 0, .int .i64 0, .bool false])) (w.drewN m)) := Lib.hid fun hn m => ⟨_, _, _, m, rfl, .inl ⟨hn, rfl, rfl, rfl⟩, rfl⟩
  have hYes : Hid (canDraw lo mi hi seed = true → ∀ p m, TimeP lo mi hi (tU (tS seed.toNat / 256)) p → RetTD lo mi hi seed w (.returned (.tuple #[.float .f32 (if finite Ieee.single p then p else 0), .int .i64 (if finite Ieee.single p then ((tS seed.toNat : Nat) : Int) else 0), .bool (finite Ieee.single p)])) (w.drewN m)) := Lib.hid fun hy p m hp => ⟨_, _, _, m, rfl, .inr ⟨hy, p, hp, rfl, rfl, rfl⟩, rfl⟩
  have hR := Lib.hid (fun w' => areRising_any lo mi hi w')
  generalize RetTD lo mi hi seed w = Q at *
  cases c0 : risesF lo mi hi
  · rw [c0] at hR
    have hN := Lib.hid (hNo.out (by unfold canDraw; rw [c0]; rfl))
    go_enter Try.func5, Try.ntmps5
    go_wp2_with (go_at_call 11; (with_reducible refine (hR.out _).mono ?_); rintro e w' ⟨m, rfl, rfl⟩)
    first | exact hN.out _ | (go_ret3; exact hN.out _)
  rw [c0] at hR
  have hz := (rises_eq c0).1
  cases c1 : gtF hi lo
  · rw [c1] at hz
    have hN := Lib.hid (hNo.out (by unfold canDraw; rw [c0, c1]; rfl))
    go_enter Try.func5, Try.ntmps5
    go_wp2_with (go_at_call 11; (with_reducible refine (hR.out _).mono ?_); rintro e w' ⟨m, rfl, rfl⟩)
    first | exact hN.out _ | (go_ret3; exact hN.out _)
  rw [c1] at hz
  cases c2 : inB seed 0 4294967295
  · have hN := Lib.hid (hNo.out (by unfold canDraw; rw [c0, c1, c2]; rfl))
    go_enter Try.func5, Try.ntmps5
    go_wp2_with (first | (go_at_call 11; (with_reducible refine (hR.out _).mono ?_); rintro e w' ⟨m, rfl, rfl⟩) | (go_at_call 12; refine (isWithin_any _ _ _ _).mono ?_; rintro e w' ⟨rfl, rfl⟩))
    first | exact hN.out _ | (go_ret3; exact hN.out _)
  obtain ⟨sd, rfl⟩ := Int.eq_ofNat_of_zero_le (inB_true c2).1
  have hs2 := (inB_true c2).2
  have hY := hYes.out (by unfold canDraw; rw [c0, c1, c2]; rfl)
  rw [Int.toNat_natCast] at hY
  obtain ⟨S, K, e1, e2, hS, hK, r1, r2, r3, r4⟩ := tS_facts (sd := sd) (by omega)
  rw [e1, e2] at hY
  have hYh := Lib.hid hY
  have hw1 : IntKind.i64.wrap (1664525 * (sd : Int)) = 1664525 * (sd : Int) := IntWalk.i64_in _ (by omega)
  have hw2 : IntKind.i64.wrap (1664525 * (sd : Int) + 1013904223) = 1664525 * (sd : Int) + 1013904223 := IntWalk.i64_in _ (by omega)
  have hw3 : IntKind.i64.wrap (S : Int) = (S : Int) := IntWalk.i64_in _ (by omega)
  have hw4 : IntKind.i64.wrap (K : Int) = (K : Int) := IntWalk.i64_in _ (by omega)
  have hw5 : IntKind.i64.wrap ((1664525 * (sd : Int) + 1013904223).tmod 4294967296) = (S : Int) := by rw [r1]; exact hw3
  have hw6 : IntKind.i64.wrap ((S : Int).tdiv 256) = (K : Int) := by rw [r3]; exact hw4
  have hCh : Hid (∀ c1, Eqv FloatKind.f32.format c1 (fop .mul .f32 (floatOfInt .f32 (K : Int)) 864026624) → Eqv Ieee.single c1 (tU K)) := Lib.hid fun c1 h => by
    rw [mul_quo] at h
    exact h
  have hT := Lib.hid (fun (w' : World) (c1 : Nat) (h : Eqv Ieee.single c1 (tU K)) => timeAt_any lo mi hi c1 (tU K) h w')
  clear hY hYes hNo e1 e2
  go_enter Try.func5, Try.ntmps5
  go_wp2_with (first | (go_at_call 11; (with_reducible refine (hR.out _).mono ?_); rintro e w' ⟨m, rfl, rfl⟩) | (go_at_call 12; refine (isWithin_any _ _ _ _).mono ?_; rintro e w' ⟨rfl, rfl⟩) | (refine wpList_farith rfl _ _ _ _ _ rfl _ _ _ rfl rfl (by rfl) ?_; intro c1 jd hp ld; have hC1 := Lib.hid (hCh.out c1 hp); clear hp ld) | (go_at_call 13; (with_reducible refine (hT.out _ _ hC1.out).mono ?_); rintro e w' ⟨p, md, rfl, hp, rfl⟩; have hPp := Lib.hid hp; clear hp))
  have hZ := Lib.hid (fun m => hYh.out p m hPp.out)
  cases hf : finite Ieee.single p
  · rw [hf, if_neg (by simp), if_neg (by simp)] at hZ
    go_wp2_with (go_at_call 14; refine (isFinite_any _ _).mono ?_; rintro e w' ⟨m, rfl, rfl⟩)
    first | exact hZ.out _ | (go_ret3; exact hZ.out _)
  · rw [hf, if_pos rfl, if_pos rfl] at hZ
    go_wp2_with (go_at_call 14; refine (isFinite_any _ _).mono ?_; rintro e w' ⟨m, rfl, rfl⟩)
    first | exact hZ.out _ | (go_ret3; exact hZ.out _)
end Go.Proofs.Ytnofngnlmhdgaaa
