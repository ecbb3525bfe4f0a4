/- Contracts: the last end of a rule divided by its bound; the program's and the model's, alike. -/
import Derived.Test.YtehobcmjjcmfnaaLongest
namespace Go.Proofs.Ytehobcmjjcmfnaa
open Go.RowKit Go.Lst Go.Plan Srt Go.Shelf

theorem maxTo_small {fs : List Int} {hi : Int} (h : Small fs hi) : ∀ k, 0 ≤ maxTo fs k ∧ maxTo fs k ≤ hi
  | 0 => h 0
  | k + 1 => by
    have ih := maxTo_small h k
    have := h (k + 1)
    unfold maxTo
    omega
theorem planTo_small {ts o : List Int} {m : Nat} (ht : okTimes ts = true) (hm : 1 ≤ m) (ho : isOrd o ts.length = true) : ∀ k, k ≤ ts.length → Small (planTo ts o m k).2 (10000 * (k : Int))
  | 0, _ => small_zeros m
  | k + 1, h => by
    have ih := planTo_small ht hm ho k (by omega)
    obtain ⟨j, a, x, f, _, _, _, _, _, _, _, _, _, _, hS, hSm⟩ := plan_round ht hm ho (k := k) (pl := (planTo ts o m k).1) (fs := (planTo ts o m k).2) (by omega) rfl ih
    rw [hS]
    exact hSm
theorem planLast_bound (ts o : List Int) (m : Int) : 0 ≤ planLast ts o m ∧ planLast ts o m ≤ 240000 := by
  unfold planLast
  split
  · rename_i h
    simp only [planOk, areTimes, Bool.and_eq_true] at h
    obtain ⟨⟨hok, hm⟩, ho⟩ := h
    have hok2 := okTimes_of hok
    obtain ⟨m1, m2⟩ := inB_true hm
    have h1 := maxTo_small (planTo_small (m := m.toNat) hok (by omega) ho ts.length (Nat.le_refl _)) (m.toNat - 1)
    omega
  · omega
theorem lastRes_bound {ts : List Int} {m : Int} (h : areTimes ts m = true) : 1 ≤ lastRes ts m ∧ lastRes ts m ≤ 1000000000000 := by
  unfold lastRes
  rw [if_pos h]
  simp only [areTimes, Bool.and_eq_true] at h
  have hok2 := okTimes_of h.1
  obtain ⟨m1, m2⟩ := inB_true h.2
  have h1 := maxTo_bound hok2.2.2 (ts.length - 1) (by omega)
  have h2 := sums_small h.1 ts.length (Nat.le_refl _)
  unfold boundOf
  have h3 : (sumTo ts ts.length + m - 1) / m ≤ 1000000000000 := Int.ediv_le_of_le_mul (by omega) (by
    have : 1000000000000 * 1 ≤ 1000000000000 * m := Int.mul_le_mul_of_nonneg_left m1 (by omega)
    by_cases e : m = 1
    · subst e; omega
    · have : 1000000000000 * 2 ≤ 1000000000000 * m := Int.mul_le_mul_of_nonneg_left (by omega) (by omega)
      omega)
  omega
/-- The greatest common factor, and what a ratio tells. -/
def ratioC (ts : List Int) (m : Int) : Int := ((Nat.gcd (planLast ts (longO ts) m).toNat (lastRes ts m).toNat : Nat) : Int)
def ratioA (ts : List Int) (m : Int) : Int := if areTimes ts m then planLast ts (longO ts) m / ratioC ts m else 0
def ratioB (ts : List Int) (m : Int) : Int := if areTimes ts m then lastRes ts m / ratioC ts m else 0
theorem gcd_go (a b : Nat) : Nat.gcd b (a % b) = Nat.gcd a b := by rw [Nat.gcd_comm b, ← Nat.gcd_rec, Nat.gcd_comm]
set_option maxHeartbeats 1000000 in
theorem commonFactor_any (a b : Nat) (ha : a ≤ 1000000000000) (hb : b ≤ 1000000000000) (w : World) : Calls Try.prog 40 #[.int .i64 (a : Int), .int .i64 (b : Int)] w (Ret (.int .i64 ((Nat.gcd a b : Nat) : Int)) w) := by
  have hG : Hid (∀ x y, Nat.gcd y (x % y) = Nat.gcd x y) := Lib.hid gcd_go
  have h0 : Hid (∀ x, Nat.gcd x 0 = x) := Lib.hid Nat.gcd_zero_right
  generalize hgc : Nat.gcd = gc at *
  clear hgc
  generalize hr : gc a b = r at *
  have hR := Lib.hid hr
  clear hr
  go_enter Try.func40, Try.ntmps40
  go_wp2_with fail
  go_loopw [0, 1] (fun av bv wr => ∃ x y m : Nat, x ≤ 1000000000000 ∧ y ≤ 1000000000000 ∧ av = .int .i64 (x : Int) ∧ bv = .int .i64 (y : Int) ∧ Hid (gc x y = r) ∧ wr = w.drewN m) (fun _ bv _ => (intOf bv).toNat)
  case atStart => exact ⟨a, b, 0, ha, hb, rfl, rfl, hR, rfl⟩
  case round =>
    clear hR
    obtain ⟨x, y, m, hx, hy, rfl, rfl, hg, rfl⟩ := hrel
    by_cases hy0 : y = 0
    · subst hy0
      have hxr := Lib.hid ((h0.out x).symm.trans hg.out)
      clear hg
      go_wp2_with fail
      go_ret
      exact ⟨m, by rw [hxr.out]; rfl, rfl⟩
    · have hne : ((y : Int) != 0) = true := by rw [bne_iff_ne]; omega
      have hne2 : ((y : Int) == 0) = false := by rw [beq_eq_false_iff_ne]; omega
      have hmod : ((x : Int)).tmod (y : Int) = ((x % y : Nat) : Int) := by rw [Int.tmod_eq_emod_of_nonneg (by omega)]; rfl
      have hg2 := Lib.hid ((hG.out x y).trans hg.out)
      have hlt := Lib.hid (Nat.mod_lt x (show 0 < y by omega))
      clear hg
      go_wp2_with fail
      go_quiet (fail)
      go_wp2_with fail
      go_roundw
      case rel => exact ⟨y, x % y, _, hy, by have := hlt.out; omega, rfl, by go_num, hg2, by rw [World.drewN_drewN]⟩
      case measure => simp [intOf]; have := hlt.out; omega
theorem ratioC_pos {ts : List Int} {m : Int} (h : areTimes ts m = true) : 1 ≤ ratioC ts m := by
  unfold ratioC
  have h1 := (lastRes_bound h).1
  have h2 : 0 < Nat.gcd (planLast ts (longO ts) m).toNat (lastRes ts m).toNat := Nat.gcd_pos_of_pos_right _ (by omega)
  omega
theorem quo_in {a c : Int} (h0 : 0 ≤ a) (h1 : a ≤ 1000000000000) (hc : 1 ≤ c) : a.tdiv c = a / c ∧ 0 ≤ a / c ∧ a / c ≤ 1000000000000 := by
  refine ⟨Int.tdiv_eq_ediv_of_nonneg h0, Int.ediv_nonneg h0 (by omega), ?_⟩
  have := Int.ediv_le_self c h0
  omega
set_option maxHeartbeats 2000000 in
theorem implRatioOf_any (B : Nat) (v1 : Value) (ts : List Int) (m : Int) (w : World) (h1 : LstI B w v1 ts) (hB : B ≤ w.heap.size) :
    Calls Try.prog 16 #[v1, .int .i64 m] w fun e w' => e = .returned (.tuple #[.int .i64 (ratioA ts m), .int .i64 (ratioB ts m), .bool (areTimes ts m)]) ∧ Below w.heap.size w w' := by
  have hL := Lib.hid (implLongestFirst_any B v1 ts m w h1 hB)
  have hPo : planOk ts (longO ts) m = areTimes ts m := by unfold planOk; rw [longO_ord, Bool.and_true]
  unfold PlanPost at hL
  rw [hPo] at hL
  have hLb : Hid (∀ w', Below w.heap.size w w' → Calls Try.prog 39 #[v1, .int .i64 m] w' (Ret (.tuple #[.int .i64 (lastRes ts m), .bool (areTimes ts m)]) w')) := Lib.hid fun w' hb => implLastBound_any B v1 ts m w' (h1.below hb hB)
  obtain ⟨a1, cap1, hv1, hl1, _, _, hc1⟩ := h1.at_
  subst hv1
  clear h1 hc1 hPo
  unfold ratioA ratioB
  cases hq : areTimes ts m
  · rw [hq] at hL hLb
    clear hq
    generalize ts.length = n at *
    generalize planLast ts (longO ts) m = la at *
    go_enter Try.func16, Try.ntmps16
    go_wp2_with (go_at_call 11; (with_reducible refine (hL.out).mono ?_); rintro e w1 ⟨v', rfl, _, hb⟩; have hB1 := Lib.hid hb; clear hb)
    go_ret3
    exact ⟨rfl, hB1.out⟩
  · rw [hq] at hL hLb
    rw [if_pos rfl, if_pos rfl]
    obtain ⟨p1, p2⟩ := planLast_bound ts (longO ts) m
    obtain ⟨b1, b2⟩ := lastRes_bound hq
    have hc := ratioC_pos hq
    have hG := Lib.hid (fun w' => commonFactor_any (planLast ts (longO ts) m).toNat (lastRes ts m).toNat (by omega) (by omega) w')
    rw [show (((planLast ts (longO ts) m).toNat : Nat) : Int) = planLast ts (longO ts) m by omega, show (((lastRes ts m).toNat : Nat) : Int) = lastRes ts m by omega, show ((Nat.gcd (planLast ts (longO ts) m).toNat (lastRes ts m).toNat : Nat) : Int) = ratioC ts m from rfl] at hG
    clear hq
    generalize ts.length = n at *
    generalize planLast ts (longO ts) m = la at *
    generalize lastRes ts m = bo at *
    generalize ratioC ts m = co at *
    obtain ⟨x1, x2, x3⟩ := quo_in p1 (by omega : la ≤ 1000000000000) hc
    obtain ⟨y1, y2, y3⟩ := quo_in (show 0 ≤ bo by omega) b2 hc
    have hw1 : IntKind.i64.wrap (la / co) = la / co := IntWalk.i64_in _ (by omega)
    have hw2 : IntKind.i64.wrap (bo / co) = bo / co := IntWalk.i64_in _ (by omega)
    have hne : (co == 0) = false := by rw [beq_eq_false_iff_ne]; omega
    have hbo : 0 ≤ bo := by omega
    go_enter Try.func16, Try.ntmps16
    go_wp2_with (first | (go_at_call 11; (with_reducible refine (hL.out).mono ?_); rintro e w1 ⟨v', rfl, _, hb⟩; have hB1 := Lib.hid hb; clear hb) | (go_at_call 39; (with_reducible refine (hLb.out _ hB1.out).mono ?_); rintro e w2 ⟨q2, rfl, rfl⟩) | (go_at_call 40; (with_reducible refine (hG.out _).mono ?_); rintro e w3 ⟨q3, rfl, rfl⟩))
    have hB9 := Lib.hid (fun k => below_drewN hB1.out k)
    go_quiet (fail)
    go_wp2_with fail
    go_ret3
    exact ⟨rfl, by first | exact hB9.out _ | (simp only [World.drewN_drewN]; exact hB9.out _)⟩
set_option maxHeartbeats 1000000 in
theorem l02Gcd_any (a b : Nat) (ha : a ≤ 1000000000000) (hb : b ≤ 1000000000000) (w : World) : Calls Try.prog 38 #[.int .i64 (a : Int), .int .i64 (b : Int)] w fun e w' => e = .returned (.int .i64 ((Nat.gcd a b : Nat) : Int)) ∧ w = w' := by
  have hG : Hid (∀ x y, Nat.gcd y (x % y) = Nat.gcd x y) := Lib.hid gcd_go
  have h0 : Hid (∀ x, Nat.gcd x 0 = x) := Lib.hid Nat.gcd_zero_right
  generalize hgc : Nat.gcd = gc at *
  clear hgc
  generalize hr : gc a b = r at *
  have hR := Lib.hid hr
  clear hr
  go_enter Try.func38, Try.ntmps38
  go_wp2_with fail
  go_loopw [0, 1] (fun av bv wr => ∃ x y : Nat, x ≤ 1000000000000 ∧ y ≤ 1000000000000 ∧ av = .int .i64 (x : Int) ∧ bv = .int .i64 (y : Int) ∧ Hid (gc x y = r) ∧ wr = w) (fun _ bv _ => (intOf bv).toNat)
  case atStart => exact ⟨a, b, ha, hb, rfl, rfl, hR, rfl⟩
  case round =>
    clear hR
    obtain ⟨x, y, hx, hy, rfl, rfl, hg, rfl⟩ := hrel
    by_cases hy0 : y = 0
    · subst hy0
      have hxr := Lib.hid ((h0.out x).symm.trans hg.out)
      clear hg
      go_wp2_with fail
      go_ret
      exact ⟨by rw [hxr.out]; rfl, rfl⟩
    · have hne : ((y : Int) != 0) = true := by rw [bne_iff_ne]; omega
      have hne2 : ((y : Int) == 0) = false := by rw [beq_eq_false_iff_ne]; omega
      have hmod : ((x : Int)).tmod (y : Int) = ((x % y : Nat) : Int) := by rw [Int.tmod_eq_emod_of_nonneg (by omega)]; rfl
      have hg2 := Lib.hid ((hG.out x y).trans hg.out)
      have hlt := Lib.hid (Nat.mod_lt x (show 0 < y by omega))
      clear hg
      go_wp2_with fail
      go_roundw
      case rel => exact ⟨y, x % y, hy, by have := hlt.out; omega, rfl, by go_num, hg2, by trivial⟩
      case measure => simp [intOf]; have := hlt.out; omega
set_option maxHeartbeats 2000000 in
theorem specRatioOf_any (B : Nat) (v1 : Value) (ts : List Int) (m : Int) (w : World) (h1 : LstI B w v1 ts) (hB : B ≤ w.heap.size) :
    Calls Try.prog 15 #[v1, .int .i64 m] w fun e w' => e = .returned (.tuple #[.int .i64 (ratioA ts m), .int .i64 (ratioB ts m), .bool (areTimes ts m)]) ∧ Below w.heap.size w w' := by
  have hT := Lib.hid (l02Times_any B v1 ts w h1)
  unfold ratioA ratioB
  cases hq : areTimes ts m
  · obtain ⟨a1, cap1, hv1, hl1, _, _, hc1⟩ := h1.at_
    subst hv1
    unfold areTimes at hq
    cases hok : okTimes ts
    · rw [hok] at hT
      clear h1 hq hc1 hok
      generalize ts.length = n at *
      go_enter Try.func15, Try.ntmps15
      go_wp2_with (go_at_call 29; (with_reducible refine (hT.out).mono ?_); rintro e w' ⟨rfl, rfl⟩)
      go_ret3
      exact ⟨rfl, Below.refl _ _⟩
    · have hm : inB m 1 8 = false := by rw [hok] at hq; simpa using hq
      rw [hok] at hT
      clear h1 hq hc1 hok
      generalize ts.length = n at *
      go_enter Try.func15, Try.ntmps15
      go_wp2_with (first | (go_at_call 29; (with_reducible refine (hT.out).mono ?_); rintro e w' ⟨rfl, rfl⟩) | (go_at_call 30; refine (l02Machines_any _ _).mono ?_; rw [hm]; rintro e w' ⟨rfl, rfl⟩))
      go_ret3
      exact ⟨rfl, Below.refl _ _⟩
  · have hq' := hq
    simp only [areTimes, Bool.and_eq_true] at hq'
    obtain ⟨hok, hm⟩ := hq'
    obtain ⟨m1, m2⟩ := inB_true hm
    obtain ⟨M, rfl⟩ : ∃ M : Nat, m = M := ⟨m.toNat, by omega⟩
    have hPo : planOk ts (longO ts) (M : Int) = true := by unfold planOk; rw [hq, longO_ord]; rfl
    have hLs : planLast ts (longO ts) (M : Int) = maxTo (planTo ts (longO ts) M ts.length).2 (M - 1) := by unfold planLast; rw [hPo, if_pos rfl, Int.toNat_natCast]
    have hL := Lib.hid (l02Longest_any B v1 ts M w h1 hB hok (by omega) (by omega))
    unfold Plan2Post at hL
    rw [← hLs] at hL
    have hLr : lastRes ts (M : Int) = boundOf ts (M : Int) := by unfold lastRes; rw [if_pos hq]
    have hLb : Hid (∀ w', Below w.heap.size w w' → Calls Try.prog 37 #[v1, .int .i64 (M : Int)] w' fun e w'' => e = .returned (.int .i64 (lastRes ts (M : Int))) ∧ w' = w'') := Lib.hid fun w' hb => by rw [hLr]; exact l02Bound_any B v1 ts M w' (h1.below hb hB) hok hm
    obtain ⟨p1, p2⟩ := planLast_bound ts (longO ts) (M : Int)
    obtain ⟨b1, b2⟩ := lastRes_bound hq
    have hc := ratioC_pos hq
    have hG := Lib.hid (fun w' => l02Gcd_any (planLast ts (longO ts) (M : Int)).toNat (lastRes ts (M : Int)).toNat (by omega) (by omega) w')
    rw [show (((planLast ts (longO ts) (M : Int)).toNat : Nat) : Int) = planLast ts (longO ts) (M : Int) by omega, show (((lastRes ts (M : Int)).toNat : Nat) : Int) = lastRes ts (M : Int) by omega, show ((Nat.gcd (planLast ts (longO ts) (M : Int)).toNat (lastRes ts (M : Int)).toNat : Nat) : Int) = ratioC ts (M : Int) from rfl] at hG
    rw [hok] at hT
    obtain ⟨a1, cap1, hv1, hl1, _, _, hc1⟩ := h1.at_
    subst hv1
    rw [if_pos rfl, if_pos rfl]
    clear h1 hq hc1 hok hPo m1 m2 hLs hLr
    generalize planLast ts (longO ts) (M : Int) = la at *
    generalize lastRes ts (M : Int) = bo at *
    generalize ratioC ts (M : Int) = co at *
    generalize (planTo ts (longO ts) M ts.length).1 = pl at *
    generalize ts.length = n at *
    obtain ⟨x1, x2, x3⟩ := quo_in p1 (by omega : la ≤ 1000000000000) hc
    obtain ⟨y1, y2, y3⟩ := quo_in (show 0 ≤ bo by omega) b2 hc
    have hw1 : IntKind.i64.wrap (la / co) = la / co := IntWalk.i64_in _ (by omega)
    have hw2 : IntKind.i64.wrap (bo / co) = bo / co := IntWalk.i64_in _ (by omega)
    have hne : (co == 0) = false := by rw [beq_eq_false_iff_ne]; omega
    have hbo : 0 ≤ bo := by omega
    go_enter Try.func15, Try.ntmps15
    go_wp2_with (first | (go_at_call 29; (with_reducible refine (hT.out).mono ?_); rintro e w' ⟨rfl, rfl⟩) | (go_at_call 30; refine (l02Machines_any _ _).mono ?_; rw [hm]; rintro e w' ⟨rfl, rfl⟩) | (go_at_call 31; (with_reducible refine (hL.out).mono ?_); rintro e w2 ⟨v', rfl, _, hb⟩; have hB1 := Lib.hid hb; clear hb) | (go_at_call 37; (with_reducible refine (hLb.out _ hB1.out).mono ?_); rintro e w3 ⟨rfl, rfl⟩) | (go_at_call 38; (with_reducible refine (hG.out _).mono ?_); rintro e w4 ⟨rfl, rfl⟩))
    have hB9 := Lib.hid (fun k => below_drewN hB1.out k)
    go_quiet (fail)
    go_wp2_with fail
    go_ret3
    exact ⟨rfl, hB9.out _⟩
theorem ratioOf_both (ts : List Int) (m : Int) (_ : ∀ x ∈ ts, (Lit.int .i64 x).wf = true) (_ : (Lit.int .i64 m).wf = true) : ∃ (r0 r1 : Int) (r2 : Bool),
    (∀ (B : Nat) (v1 : Value) (w : World), LstI B w v1 ts → B ≤ w.heap.size → Calls Try.prog 15 #[v1, .int .i64 m] w fun e w' => e = .returned (.tuple #[.int .i64 r0, .int .i64 r1, .bool r2]) ∧ Below w.heap.size w w') ∧
    (∀ (B : Nat) (v1 : Value) (w : World), LstI B w v1 ts → B ≤ w.heap.size → Calls Try.prog 16 #[v1, .int .i64 m] w fun e w' => e = .returned (.tuple #[.int .i64 r0, .int .i64 r1, .bool r2]) ∧ Below w.heap.size w w') :=
  ⟨ratioA ts m, ratioB ts m, areTimes ts m, fun B v1 w h1 hB => specRatioOf_any B v1 ts m w h1 hB, fun B v1 w h1 hB => implRatioOf_any B v1 ts m w h1 hB⟩
end Go.Proofs.Ytehobcmjjcmfnaa
