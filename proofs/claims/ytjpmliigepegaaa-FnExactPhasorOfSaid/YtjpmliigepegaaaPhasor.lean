/- The points of the unit circle: the model's and the program's, alike, for every float64. -/
import Derived.Test.YtjpmliigepegaaaQuart
namespace Go.Proofs.Ytjpmliigepegaaa
open Go.RowKit Go.Lst FloatKit

/-- A point that is turned by so many quarters. -/
def phasorC (c s : Nat) : Nat → Nat × Nat
  | 1 => (fop .sub .f64 0 s, c)
  | 2 => (fop .sub .f64 0 c, fop .sub .f64 0 s)
  | 3 => (s, fop .sub .f64 0 c)
  | _ => (c, s)
theorem phasorC_mag {c s : Nat} (hc : Mag 1201 c) (hs : Mag 1201 s) (k : Nat) : Mag 1201 (phasorC c s k).1 ∧ Mag 1201 (phasorC c s k).2 := by
  have h1 := fop_of (p := Mag 1201) (zero_sub hc (by omega) (by omega))
  have h2 := fop_of (p := Mag 1201) (zero_sub hs (by omega) (by omega))
  unfold phasorC
  split
  · exact ⟨h2, hc⟩
  · exact ⟨h1, h2⟩
  · exact ⟨hs, h1⟩
  · exact ⟨hc, hs⟩
def narW (y : Nat) : Nat := Ieee.single.write (Ieee.double.read y)
/-- The point at so many turns. -/
def nearPh (x : Nat) : Nat × Nat := phasorC (sineW (fop .sub .f64 quartW (quarts 8 (partC x)).1)) (sineW (quarts 8 (partC x)).1) (quarts 8 (partC x)).2
def phasorR (x : Nat) : Nat × Nat :=
  if finite Ieee.double x then (if farB x then (1065353216, 0) else (narW (nearPh x).1, narW (nearPh x).2)) else (2143289344, 2143289344)
def RetPh (x : Nat) (w : World) (e : Ending) (w' : World) : Prop := ∃ r i n, e = .returned (.complex .f32 r i) ∧ Eqv Ieee.single r (phasorR x).1 ∧ Eqv Ieee.single i (phasorR x).2 ∧ w' = w.drewN n
theorem RetPh.nan {x r i n : Nat} {w : World} (h : finite Ieee.double x = false) (hr : isNaN Ieee.single r = true) (hi : isNaN Ieee.single i = true) : RetPh x w (.returned (.complex .f32 r i)) (w.drewN n) := by
  refine ⟨r, i, n, rfl, .inr ⟨hr, ?_⟩, .inr ⟨hi, ?_⟩, rfl⟩ <;> (unfold phasorR; rw [h, if_neg (by simp)]; decide)
theorem RetPh.far {x n : Nat} {w : World} (h : finite Ieee.double x = true) (h2 : farB x = true) : RetPh x w (.returned (.complex .f32 1065353216 0)) (w.drewN n) := by
  refine ⟨_, _, n, rfl, .inl ?_, .inl ?_, rfl⟩ <;> (unfold phasorR; rw [h, h2]; rfl)
theorem quart_rest {f : Nat} (h : Mag 1075 f) : floatBits .sub .f64 quartW f = some (fop .sub .f64 quartW f) ∧ Mag 1076 (fop .sub .f64 quartW f) := by
  have h1 := (Mag.const (k := 1075) (x := quartW) (by omega) (by omega) (by decide)).sub h (by omega) (by omega)
  exact ⟨some_fop h1, fop_of (p := Mag 1076) h1⟩
theorem near_parts {x : Nat} (h : Mag 1126 x) : Mag 1075 (quarts 8 (partC x)).1 ∧ Mag 1201 (nearPh x).1 ∧ Mag 1201 (nearPh x).2 := by
  have h1 := (quarts_mag (left_of (partC_mag h))).1
  have h2 := (quart_rest h1).2
  have h3 := phasorC_mag (sineW_mag (h2.mono (b := 1126) (by omega))) (sineW_mag (h1.mono (b := 1126) (by omega))) (quarts 8 (partC x)).2
  exact ⟨h1, h3.1, h3.2⟩
theorem RetPh.near {x r i n : Nat} {w : World} (h : finite Ieee.double x = true) (h2 : farB x = false) (hr : Nar (nearPh x).1 r) (hi : Nar (nearPh x).2 i) : RetPh x w (.returned (.complex .f32 r i)) (w.drewN n) := by
  obtain ⟨_, m1, m2⟩ := near_parts (near_mag h h2)
  refine ⟨_, _, n, rfl, .inl ?_, .inl ?_, rfl⟩ <;> (unfold phasorR; rw [h, h2])
  · exact Nar.small m1 (by omega) hr
  · exact Nar.small m2 (by omega) hi
theorem eight_wraps : ∀ k : Nat, k < 8 → IntKind.i64.wrap ((k : Int) + 1) = ((k + 1 : Nat) : Int) := by decide
theorem quarts_few : ∀ (n f : Nat), (quarts n f).2 ≤ n
  | 0, _ => Nat.le_refl _
  | n + 1, f => by
    unfold quarts
    split
    · exact Nat.succ_le_succ (quarts_few n _)
    · exact Nat.zero_le _
/-- What the loops over the quarters keep. -/
def Quart (F K : Nat) (fv qv : Value) : Prop := ∃ n f k : Nat, fv = .float .f64 f ∧ qv = .int .i64 (k : Int) ∧ Left n f ∧ (quarts n f).1 = F ∧ k + (quarts n f).2 = K ∧ k + n ≤ 8
theorem Quart.start {f : Nat} (h : Mag 1075 f) : Quart (quarts 8 f).1 (quarts 8 f).2 (.float .f64 f) (.int .i64 0) := ⟨8, f, 0, rfl, rfl, left_of h, rfl, Nat.zero_add _, by omega⟩

set_option maxHeartbeats 1000000 in
theorem turnQuarters_any (c s : Nat) (hc : Mag 1201 c) (hs : Mag 1201 s) (k : Nat) (w : World) :
    Calls Try.prog 13 #[.float .f64 c, .float .f64 s, .int .i64 (k : Int)] w fun e w' => e = .returned (.complex .f64 (phasorC c s k).1 (phasorC c s k).2) ∧ w = w' := by
  have rc := run_fop_some (P := Try.prog) (op := .sub) 22 .f64 0 c _ (some_fop (zero_sub hc (by omega) (by omega)))
  have rs := run_fop_some (P := Try.prog) (op := .sub) 22 .f64 0 s _ (some_fop (zero_sub hs (by omega) (by omega)))
  clear hc hs
  by_cases h1 : k = 1
  · subst h1
    have hp : phasorC c s 1 = (fop .sub .f64 0 s, c) := rfl
    rw [hp]
    generalize fop .sub .f64 0 s = S at *
    go_enter Try.func13, Try.ntmps13
    go_wp2_with fail
    go_ret
    exact ⟨rfl, rfl⟩
  by_cases h2 : k = 2
  · subst h2
    have hp : phasorC c s 2 = (fop .sub .f64 0 c, fop .sub .f64 0 s) := rfl
    rw [hp]
    generalize fop .sub .f64 0 s = S at *
    generalize fop .sub .f64 0 c = C at *
    go_enter Try.func13, Try.ntmps13
    go_wp2_with fail
    go_ret
    exact ⟨rfl, rfl⟩
  by_cases h3 : k = 3
  · subst h3
    have hp : phasorC c s 3 = (s, fop .sub .f64 0 c) := rfl
    rw [hp]
    generalize fop .sub .f64 0 c = C at *
    go_enter Try.func13, Try.ntmps13
    go_wp2_with fail
    go_ret
    exact ⟨rfl, rfl⟩
  · have hp : phasorC c s k = (c, s) := by
      unfold phasorC
      split <;> first | rfl | (exfalso; omega)
    rw [hp]
    have e1 : ¬ ((k : Int) = 1) := by omega
    have e2 : ¬ ((k : Int) = 2) := by omega
    have e3 : ¬ ((k : Int) = 3) := by omega
    have d1 : decide ((k : Int) = 1) = false := decide_eq_false e1
    have d2 : decide ((k : Int) = 2) = false := decide_eq_false e2
    have d3 : decide ((k : Int) = 3) = false := decide_eq_false e3
    clear rc rs hp h1 h2 h3
    generalize (k : Int) = z at *
    go_enter Try.func13, Try.ntmps13
    go_wp2_with fail
    go_ret
    exact ⟨rfl, rfl⟩
set_option maxHeartbeats 1000000 in
theorem narrowComplex_any (a b : Nat) (w : World) :
    Calls Try.prog 12 #[.complex .f64 a b] w fun e w' => ∃ r i n, e = .returned (.complex .f32 r i) ∧ Nar a r ∧ Nar b i ∧ w' = w.drewN n := by
  go_enter Try.func12, Try.ntmps12
  go_wp2_with (first | (go_at_call 24; refine (narrowNumber_any a _).mono ?_; rintro e w' ⟨r1, m1, rfl, hr1, rfl⟩; have hN1 := Lib.hid hr1; clear hr1) | (go_at_call 24; refine (narrowNumber_any b _).mono ?_; rintro e w' ⟨r2, m2, rfl, hr2, rfl⟩; have hN2 := Lib.hid hr2; clear hr2))
  go_ret
  exact ⟨_, _, _, rfl, hN1.out, hN2.out, rfl⟩
theorem notNumberP_any (w : World) : Calls Try.prog 9 #[] w fun e w' => e = .returned (.float .f32 2143289344) ∧ w = w' := by
  go_enter Try.func9, Try.ntmps9
  go_wp2
  go_ret
  exact ⟨rfl, rfl⟩
set_option maxHeartbeats 2000000 in
theorem phasorOf_any (x : Nat) (hx : x < 18446744073709551616) (w : World) : Calls Try.prog 5 #[.float .f64 x] w (RetPh x w) := by
  have hFl := Lib.hid (fun w' => isFiniteLong_any x hx w')
  have hAb := Lib.hid (fun w' => abs_any x hx w')
  clear hx
  cases hf : finite Ieee.double x
  · rw [hf] at hFl
    have hF := Lib.hid hf
    clear hf hAb
    go_enter Try.func5, Try.ntmps5
    go_wp2_with (first | (go_at_call 8; refine (hFl.out _).mono ?_; rintro e w' ⟨m, rfl, rfl⟩) | (go_at_call 9; refine (notNumberP_any _).mono ?_; rintro e w' ⟨rfl, rfl⟩))
    go_ret
    exact RetPh.nan hF.out (by decide) (by decide)
  · rw [hf] at hFl
    have hfp := far_program hf
    have hX := Lib.hid hf
    cases hq : farB x
    · have hM := near_mag hf hq
      have hQ := Lib.hid hq
      rw [hq] at hfp
      obtain ⟨p1, p2, p3⟩ := near_parts hM
      have hPost : Hid (∀ r i n, Nar (nearPh x).1 r → Nar (nearPh x).2 i → RetPh x w (.returned (.complex .f32 r i)) (w.drewN n)) := Lib.hid fun r i n hr hi => RetPh.near hX.out hQ.out hr hi
      have hPart := Lib.hid (fun w' => partOfTurn_any x hM w')
      have hSt := Lib.hid (Quart.start (partC_mag hM))
      obtain ⟨s1, s2⟩ := quart_rest p1
      have hS1 := Lib.hid (fun w' => sineOf_any _ (s2.mono (b := 1126) (by omega)) w')
      have hS2 := Lib.hid (fun w' => sineOf_any _ (p1.mono (b := 1126) (by omega)) w')
      have hT := Lib.hid (fun w' => turnQuarters_any _ _ (sineW_mag (s2.mono (b := 1126) (by omega))) (sineW_mag (p1.mono (b := 1126) (by omega))) (quarts 8 (partC x)).2 w')
      have rq := run_fop_some (P := Try.prog) (op := .sub) 22 .f64 _ _ _ s1
      unfold nearPh at hPost
      clear hf hq hM hX hQ p1 p2 p3 s1 s2
      generalize RetPh x w = Q at *
      have hfew := Lib.hid (quarts_few 8 (partC x))
      generalize (quarts 8 (partC x)).1 = F at *
      generalize (quarts 8 (partC x)).2 = K at *
      generalize partC x = f0 at *
      unfold quartW at rq hS1 hT hPost
      generalize fop .sub .f64 4598175219545276416 F = G at *
      generalize sineW G = C at *
      generalize sineW F = S at *
      generalize phasorC C S K = p at *
      obtain ⟨A, B⟩ := p
      dsimp only at hPost hT
      go_enter Try.func5, Try.ntmps5
      go_wp2_with (first | (go_at_call 8; refine (hFl.out _).mono ?_; rintro e w' ⟨m, rfl, rfl⟩) | (go_at_call 10; refine (hAb.out _).mono ?_; rintro e w' ⟨m2, rfl, rfl⟩) | (go_at_call 11; with_reducible refine (hPart.out _).mono ?_; rintro e w' ⟨rfl, rfl⟩))
      generalize hW : World.drewN _ _ = W at *
      have hWW := Lib.hid hW
      clear hW
      go_loopw [3, 4] (fun fv qv wr => Quart F K fv qv ∧ wr = W) (fun _ qv _ => (8 - intOf qv).toNat)
      case atStart => exact ⟨hSt.out, rfl⟩
      case round =>
        obtain ⟨⟨n, f, k, rfl, rfl, hL, hF1, hK1, hk8⟩, rfl⟩ := hrel
        by_cases hg : geC f quartW = true
        · cases n with
          | zero => exact absurd hg (by rw [hL.zero]; simp)
          | succ n =>
            obtain ⟨n1, n2⟩ := hL.next hg
            have hge : (FloatKind.f64.format.order f 4598175219545276416 == some .gt || FloatKind.f64.format.order f 4598175219545276416 == some .eq) = true := hg
            unfold quarts at hF1 hK1
            rw [if_pos hg] at hF1 hK1
            have r1 := run_fop_some (P := Try.prog) (op := .sub) 22 .f64 _ _ _ n1
            have hN := Lib.hid (show Quart F K (.float .f64 (fop .sub .f64 f quartW)) (.int .i64 ((k + 1 : Nat) : Int)) from ⟨n, _, k + 1, rfl, rfl, n2, hF1, by omega, by omega⟩)
            have hkk := Lib.hid (show k < 8 by omega)
            have hwr : IntKind.i64.wrap ((k : Int) + 1) = ((k + 1 : Nat) : Int) := eight_wraps k (by omega)
            unfold quartW at r1 hN
            clear hF1 hK1 hk8 n1 n2 hL hg
            generalize fop .sub .f64 f 4598175219545276416 = f1 at *
            generalize hk1 : ((k + 1 : Nat) : Int) = k1 at *
            have hk2 := Lib.hid hk1
            clear hk1
            go_wp2_with fail
            go_roundw
            case rel => exact ⟨hN.out, by trivial⟩
            case measure => simp [intOf]; have := hkk.out; have := hk2.out; omega
        · have hgf : geC f quartW = false := by simpa using hg
          have hge : (FloatKind.f64.format.order f 4598175219545276416 == some .gt || FloatKind.f64.format.order f 4598175219545276416 == some .eq) = false := hgf
          have hqq : quarts n f = (f, 0) := by
            cases n with
            | zero => rfl
            | succ n => unfold quarts; rw [if_neg hg]
          rw [hqq] at hF1 hK1
          dsimp only at hF1 hK1
          subst hF1
          obtain rfl : k = K := by omega
          clear hg hgf hqq hL hk8 hK1
          go_wp2_with (first | (go_at_call 14; with_reducible refine (hS1.out _).mono ?_; rintro e w' ⟨rfl, rfl⟩) | (go_at_call 14; with_reducible refine (hS2.out _).mono ?_; rintro e w' ⟨rfl, rfl⟩) | (go_at_call 13; with_reducible refine (hT.out _).mono ?_; rintro e w' ⟨rfl, rfl⟩) | (go_at_call 12; with_reducible refine (narrowComplex_any _ _ _).mono ?_; rintro e w' ⟨r, i, m3, rfl, hr3, hi3, rfl⟩; have hN := Lib.hid hr3; have hI := Lib.hid hi3; clear hr3 hi3))
          rw [← hWW.out, World.drewN_drewN]
          exact hPost.out _ _ _ hN.out hI.out
    · have hQ := Lib.hid hq
      rw [hq] at hfp
      clear hf hq
      go_enter Try.func5, Try.ntmps5
      go_wp2_with (first | (go_at_call 8; refine (hFl.out _).mono ?_; rintro e w' ⟨m, rfl, rfl⟩) | (go_at_call 10; refine (hAb.out _).mono ?_; rintro e w' ⟨m2, rfl, rfl⟩))
      go_ret
      exact RetPh.far hX.out hQ.out
set_option maxHeartbeats 2000000 in
theorem l01Phasor_any (x : Nat) (w : World) : Calls Try.prog 7 #[.float .f64 x] w (RetPh x w) := by
  cases hf : finite Ieee.double x
  · have hF := Lib.hid hf
    clear hf
    go_enter Try.func7, Try.ntmps7
    go_wp2_with (first | (refine wpList_farith rfl _ _ _ _ _ rfl _ _ _ rfl rfl (by rfl) ?_; intro r2 j hr hlt2; have ht := sub_test hr; rw [hF.out] at ht; clear hr hlt2) | (go_at_call 16; refine (l01From_any 2143289344 (by decide) (by decide) _).mono ?_; rintro e w' ⟨m, rfl, rfl⟩))
    go_ret
    exact RetPh.nan hF.out (by decide) (by decide)
  · have hsy := run_fop_some (P := Try.prog) (op := .sub) 22 .f64 x x 0 (sub_same hf)
    have h00 : (FloatKind.f64.format.order 0 0 != some .eq) = false := by decide
    have hfm := far_model (finite_nan hf)
    have hX := Lib.hid hf
    cases hq : farB x
    · have hM := near_mag hf hq
      have hQ := Lib.hid hq
      rw [hq, Bool.or_eq_false_iff] at hfm
      obtain ⟨hA, hBb⟩ := hfm
      obtain ⟨p1, p2, p3⟩ := near_parts hM
      have hPost : Hid (∀ r i n, Nar (nearPh x).1 r → Nar (nearPh x).2 i → RetPh x w (.returned (.complex .f32 r i)) (w.drewN n)) := Lib.hid fun r i n hr hi => RetPh.near hX.out hQ.out hr hi
      have hSt := Lib.hid (Quart.start (partC_mag hM))
      obtain ⟨s1, s2⟩ := quart_rest p1
      obtain ⟨n1, n2⟩ := near_of s2 (by omega)
      obtain ⟨n3, n4⟩ := near_of p1 (by omega)
      have hS1 := Lib.hid (fun w' => sineWide_near _ n1 n2 w')
      have hS2 := Lib.hid (fun w' => sineWide_near _ n3 n4 w')
      have hcs := Lib.hid (And.intro (sineW_mag (s2.mono (b := 1126) (by omega))) (sineW_mag (p1.mono (b := 1126) (by omega))))
      have rq := run_fop_some (P := Try.prog) (op := .sub) 22 .f64 _ _ _ s1
      have ht := trunc_run hM
      have hs := run_fop_some (P := Try.prog) (op := .sub) 22 .f64 x _ _ (some_fop (part_sub hM))
      have hd := fop_of (p := Mag 1074) (part_sub hM)
      have ha := run_fop_some (P := Try.prog) (op := .add) 22 .f64 _ one _ (some_fop (hd.add (Mag.const (k := 1074) (by omega) (by omega) (by decide)) (by omega) (by omega)))
      have hpc : partC x = if (Ieee.double.order (fop .sub .f64 x (floatOfInt .f64 (intC x))) 0 == some .lt) then fop .add .f64 (fop .sub .f64 x (floatOfInt .f64 (intC x))) one else fop .sub .f64 x (floatOfInt .f64 (intC x)) := rfl
      unfold nearPh at hPost
      clear hf hq hM hX hQ p1 p2 p3 s1 s2 n1 n2 n3 n4 hd
      generalize RetPh x w = Q at *
      have hfew := Lib.hid (quarts_few 8 (partC x))
      generalize (quarts 8 (partC x)).1 = F at *
      generalize (quarts 8 (partC x)).2 = K at *
      have hol : (FloatKind.f64.format.order (fop .sub .f64 x (floatOfInt .f64 (intC x))) 0 == some .lt) = (Ieee.double.order (fop .sub .f64 x (floatOfInt .f64 (intC x))) 0 == some .lt) := rfl
      generalize (Ieee.double.order (fop .sub .f64 x (floatOfInt .f64 (intC x))) 0 == some .lt) = low at *
      generalize fop .sub .f64 x (floatOfInt .f64 (intC x)) = d0 at *
      unfold one at ha hpc
      generalize fop .add .f64 d0 4607182418800017408 = d1 at *
      generalize partC x = f0 at *
      unfold quartW at rq hS1 hPost hcs
      generalize fop .sub .f64 4598175219545276416 F = G at *
      generalize sineW G = C at *
      generalize sineW F = S at *
      have rc := Lib.hid (run_fop_some (P := Try.prog) (op := .sub) 22 .f64 0 C _ (some_fop (zero_sub hcs.out.1 (by omega) (by omega))))
      have rs := Lib.hid (run_fop_some (P := Try.prog) (op := .sub) 22 .f64 0 S _ (some_fop (zero_sub hcs.out.2 (by omega) (by omega))))
      clear hcs
      cases low
      all_goals
        first | (have hfd : f0 = d0 := hpc) | (have hfd : f0 = d1 := hpc)
        subst hfd
        clear hpc
        go_enter Try.func7, Try.ntmps7
        go_wp2_with fail
        go_loopw [3, 4] (fun fv qv wr => Quart F K fv qv ∧ wr = w) (fun _ qv _ => (8 - intOf qv).toNat)
        case atStart => exact ⟨hSt.out, rfl⟩
        case round =>
          obtain ⟨⟨n, f, k, rfl, rfl, hL, hF1, hK1, hk8⟩, rfl⟩ := hrel
          by_cases hg : geC f quartW = true
          · cases n with
            | zero => exact absurd hg (by rw [hL.zero]; simp)
            | succ n =>
              obtain ⟨n1, n2⟩ := hL.next hg
              have hge : (FloatKind.f64.format.order f 4598175219545276416 == some .gt || FloatKind.f64.format.order f 4598175219545276416 == some .eq) = true := hg
              unfold quarts at hF1 hK1
              rw [if_pos hg] at hF1 hK1
              have r1 := run_fop_some (P := Try.prog) (op := .sub) 22 .f64 _ _ _ n1
              have hN := Lib.hid (show Quart F K (.float .f64 (fop .sub .f64 f quartW)) (.int .i64 ((k + 1 : Nat) : Int)) from ⟨n, _, k + 1, rfl, rfl, n2, hF1, by omega, by omega⟩)
              have hkk := Lib.hid (show k < 8 by omega)
              have hwr : IntKind.i64.wrap ((k : Int) + 1) = ((k + 1 : Nat) : Int) := eight_wraps k (by omega)
              unfold quartW at r1 hN
              clear hF1 hK1 hk8 n1 n2 hL hg
              generalize fop .sub .f64 f 4598175219545276416 = f1 at *
              generalize hk1 : ((k + 1 : Nat) : Int) = k1 at *
              have hk2 := Lib.hid hk1
              clear hk1
              go_wp2_with fail
              go_roundw
              case rel => exact ⟨hN.out, by trivial⟩
              case measure => simp [intOf]; have := hkk.out; have := hk2.out; omega
          · have hgf : geC f quartW = false := by simpa using hg
            have hge : (FloatKind.f64.format.order f 4598175219545276416 == some .gt || FloatKind.f64.format.order f 4598175219545276416 == some .eq) = false := hgf
            have hqq : quarts n f = (f, 0) := by
              cases n with
              | zero => rfl
              | succ n => unfold quarts; rw [if_neg hg]
            rw [hqq] at hF1 hK1
            dsimp only at hF1 hK1
            subst hF1
            obtain rfl : k = K := by omega
            clear hg hgf hqq hL hk8 hK1
            have rcs := rc.out
            have rss := rs.out
            have dd : ∀ j : Int, ((k : Int) = j) = ((k : Int) = j) := fun _ => rfl
            clear dd
            by_cases h1 : k = 1
            · subst h1
              have hp : phasorC C S ((1 : Nat)) = (fop .sub .f64 0 S, C) := rfl
              rw [hp] at hPost
              dsimp only at hPost
              generalize fop .sub .f64 0 S = S1 at *
              go_wp2_with (first | (go_at_call 17; with_reducible refine (hS1.out _).mono ?_; rintro e w' ⟨rfl, rfl⟩) | (go_at_call 17; with_reducible refine (hS2.out _).mono ?_; rintro e w' ⟨rfl, rfl⟩) | (go_at_call 18; refine (l01Narrow_any S1 _).mono ?_; rintro e w' ⟨r3, m3, rfl, hr3, rfl⟩; have hN := Lib.hid hr3; clear hr3) | (go_at_call 18; refine (l01Narrow_any C _).mono ?_; rintro e w' ⟨r4, m4, rfl, hr4, rfl⟩; have hI := Lib.hid hr4; clear hr4))
              first | exact hPost.out _ _ _ hN.out hI.out | (go_ret; exact hPost.out _ _ _ hN.out hI.out)
            by_cases h2 : k = 2
            · subst h2
              have hp : phasorC C S ((2 : Nat)) = (fop .sub .f64 0 C, fop .sub .f64 0 S) := rfl
              rw [hp] at hPost
              dsimp only at hPost
              generalize fop .sub .f64 0 S = S1 at *
              generalize fop .sub .f64 0 C = C1 at *
              go_wp2_with (first | (go_at_call 17; with_reducible refine (hS1.out _).mono ?_; rintro e w' ⟨rfl, rfl⟩) | (go_at_call 17; with_reducible refine (hS2.out _).mono ?_; rintro e w' ⟨rfl, rfl⟩) | (go_at_call 18; refine (l01Narrow_any C1 _).mono ?_; rintro e w' ⟨r3, m3, rfl, hr3, rfl⟩; have hN := Lib.hid hr3; clear hr3) | (go_at_call 18; refine (l01Narrow_any S1 _).mono ?_; rintro e w' ⟨r4, m4, rfl, hr4, rfl⟩; have hI := Lib.hid hr4; clear hr4))
              first | exact hPost.out _ _ _ hN.out hI.out | (go_ret; exact hPost.out _ _ _ hN.out hI.out)
            by_cases h3 : k = 3
            · subst h3
              have hp : phasorC C S ((3 : Nat)) = (S, fop .sub .f64 0 C) := rfl
              rw [hp] at hPost
              dsimp only at hPost
              generalize fop .sub .f64 0 C = C1 at *
              go_wp2_with (first | (go_at_call 17; with_reducible refine (hS1.out _).mono ?_; rintro e w' ⟨rfl, rfl⟩) | (go_at_call 17; with_reducible refine (hS2.out _).mono ?_; rintro e w' ⟨rfl, rfl⟩) | (go_at_call 18; refine (l01Narrow_any S _).mono ?_; rintro e w' ⟨r3, m3, rfl, hr3, rfl⟩; have hN := Lib.hid hr3; clear hr3) | (go_at_call 18; refine (l01Narrow_any C1 _).mono ?_; rintro e w' ⟨r4, m4, rfl, hr4, rfl⟩; have hI := Lib.hid hr4; clear hr4))
              first | exact hPost.out _ _ _ hN.out hI.out | (go_ret; exact hPost.out _ _ _ hN.out hI.out)
            · have hp : phasorC C S k = (C, S) := by
                unfold phasorC
                split <;> first | rfl | (exfalso; omega)
              rw [hp] at hPost
              dsimp only at hPost
              have e1 : ¬ ((k : Int) = 1) := by omega
              have e2 : ¬ ((k : Int) = 2) := by omega
              have e3 : ¬ ((k : Int) = 3) := by omega
              have d1 : decide ((k : Int) = 1) = false := decide_eq_false e1
              have d2 : decide ((k : Int) = 2) = false := decide_eq_false e2
              have d3 : decide ((k : Int) = 3) = false := decide_eq_false e3
              clear rc rs rcs rss hp h1 h2 h3 hfew hSt
              generalize (k : Int) = z at *
              go_wp2_with (first | (go_at_call 17; with_reducible refine (hS1.out _).mono ?_; rintro e w' ⟨rfl, rfl⟩) | (go_at_call 17; with_reducible refine (hS2.out _).mono ?_; rintro e w' ⟨rfl, rfl⟩) | (go_at_call 18; refine (l01Narrow_any C _).mono ?_; rintro e w' ⟨r3, m3, rfl, hr3, rfl⟩; have hN := Lib.hid hr3; clear hr3) | (go_at_call 18; refine (l01Narrow_any S _).mono ?_; rintro e w' ⟨r4, m4, rfl, hr4, rfl⟩; have hI := Lib.hid hr4; clear hr4))
              first | exact hPost.out _ _ _ hN.out hI.out | (go_ret; exact hPost.out _ _ _ hN.out hI.out)
    · have hQ := Lib.hid hq
      rw [hq] at hfm
      generalize hA : (FloatKind.f64.format.order x 4841369599423283200 == some .gt || FloatKind.f64.format.order x 4841369599423283200 == some .eq) = A at *
      generalize hB : (FloatKind.f64.format.order x 14064741636278059008 == some .lt || FloatKind.f64.format.order x 14064741636278059008 == some .eq) = B at *
      clear hf hq
      cases A
      · rw [Bool.false_or] at hfm
        subst hfm
        go_enter Try.func7, Try.ntmps7
        go_wp2_with fail
        go_ret
        exact RetPh.far (n := 0) hX.out hQ.out
      · clear hfm hB
        go_enter Try.func7, Try.ntmps7
        go_wp2_with fail
        go_ret
        exact RetPh.far (n := 0) hX.out hQ.out
theorem phasorOf_both (x : Nat) (hw : (Lit.float .f64 x).wf = true) : ∃ (r0 i0 : Nat),
    (∀ (B : Nat) (w : World), B ≤ w.heap.size → Calls Try.prog 4 #[.float .f64 x] w fun e w' => ∃ r i, e = .returned (.complex .f32 r i) ∧ Eqv Ieee.single r r0 ∧ Eqv Ieee.single i i0 ∧ Below w.heap.size w w') ∧
    (∀ (B : Nat) (w : World), B ≤ w.heap.size → Calls Try.prog 5 #[.float .f64 x] w fun e w' => ∃ r i, e = .returned (.complex .f32 r i) ∧ Eqv Ieee.single r r0 ∧ Eqv Ieee.single i i0 ∧ Below w.heap.size w w') := by
  have hx : x < 18446744073709551616 := by
    have h : decide (x < 2 ^ FloatKind.f64.format.width) = true := hw
    exact of_decide_eq_true h
  have hS : ∀ w, Calls Try.prog 4 #[.float .f64 x] w (RetPh x w) := fun w => by
    have h := Lib.hid (l01Phasor_any x w)
    go_enter Try.func4, Try.ntmps4
    go_wp2_with fail
    refine h.out.mono ?_
    rintro e w' ⟨r, i, n, rfl, hr, hi, rfl⟩
    have hR := Lib.hid (And.intro hr hi)
    clear hr hi
    go_wp2_with fail
    go_ret
    exact ⟨_, _, _, rfl, hR.out.1, hR.out.2, rfl⟩
  exact ⟨(phasorR x).1, (phasorR x).2, fun B w _ => (hS w).mono fun _ _ ⟨r, i, n, he, hr, hi, hw⟩ => ⟨r, i, he, hr, hi, by rw [hw]; exact below_drawn _ _⟩, fun B w _ => (phasorOf_any x hx w).mono fun _ _ ⟨r, i, n, he, hr, hi, hw⟩ => ⟨r, i, he, hr, hi, by rw [hw]; exact below_drawn _ _⟩⟩
end Go.Proofs.Ytjpmliigepegaaa
