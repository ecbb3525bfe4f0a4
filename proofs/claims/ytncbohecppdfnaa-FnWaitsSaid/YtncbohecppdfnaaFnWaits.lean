/- More servers let fewer wait and block fewer, staff is the least that is enough, and waits fall with it: the law holds of every input. -/
import Derived.Test.YtncbohecppdfnaaRows
import Derived.Test.YtncbohecppdfnaaNamed
import Derived.Test.YtncbohecppdfnaaWaitsPure
import Derived.ProofKit
import Derived.OpenShut
namespace Go.Proofs.Ytncbohecppdfnaa.fnWaits
open Go.ChangeShapes Go.WideShapes Go.ChangeAt Go.RowKit Go.Lst FloatKit

theorem real32 {p r : Nat} (h : Eqv FloatKind.f32.format p r) (hn : nn32 r = true) : p = r := by
  rcases h with h | ⟨_, h⟩
  · exact h
  · unfold nn32 at hn
    rw [show isNaN Ieee.single r = true from h] at hn; cases hn
theorem real64 {p r : Nat} (h : Eqv FloatKind.f64.format p r) (hn : nn64 r = true) : p = r := by
  rcases h with h | ⟨_, h⟩
  · exact h
  · unfold nn64 at hn
    rw [show isNaN Ieee.double r = true from h] at hn; cases hn
theorem wid32 {b x : Nat} (h : Wid b x) (hn : nn32 b = true) : x = widen b := by
  obtain ⟨_, h⟩ := h
  unfold nn32 at hn
  rw [if_neg (by simpa using hn)] at h
  exact h
set_option maxHeartbeats 1000000 in
theorem r8Long_any (a1 a2 : Option Addr) (n1 n2 c1 c2 : Nat) (w : World) : Calls Try.prog 18 #[.slice a1 n1 c1, .slice a2 n2 c2] w fun e w' => e = .returned (.bool (decide (48 < n1) || decide (48 < n2))) ∧ w = w' := by
  by_cases h1 : 48 < n1
  · have d1 : decide ((48 : Int) < (n1 : Int)) = true := decide_eq_true (by omega)
    rw [decide_eq_true h1, Bool.true_or]
    go_enter Try.func18, Try.ntmps18
    go_wp2_with fail
    go_ret
    exact ⟨rfl, rfl⟩
  · have d1 : decide ((48 : Int) < (n1 : Int)) = false := decide_eq_false (by omega)
    rw [decide_eq_false h1, Bool.false_or]
    by_cases h2 : 48 < n2
    · have d2 : decide ((48 : Int) < (n2 : Int)) = true := decide_eq_true (by omega)
      rw [decide_eq_true h2]
      go_enter Try.func18, Try.ntmps18
      go_wp2_with fail
      go_ret
      exact ⟨rfl, rfl⟩
    · have d2 : decide ((48 : Int) < (n2 : Int)) = false := decide_eq_false (by omega)
      rw [decide_eq_false h2]
      go_enter Try.func18, Try.ntmps18
      go_wp2_with fail
      go_ret
      exact ⟨rfl, rfl⟩
def atR (bs : List Int) (i n : Nat) : Nat := if i < bs.length then (bs.getD i 0 % (n : Int)).toNat else 0
theorem atR_lt (bs : List Int) (i n : Nat) (h : 1 ≤ n) : atR bs i n < n := by
  unfold atR
  split
  · have h1 := Int.emod_lt_of_pos (bs.getD i 0) (show 0 < (n : Int) by omega)
    have h2 := Int.emod_nonneg (bs.getD i 0) (show (n : Int) ≠ 0 by omega)
    omega
  · omega
set_option maxHeartbeats 2000000 in
theorem r8At_any (B : Nat) (v : Value) (bs : List Int) (i n : Nat) (w : World) (h : Lst B w v (bs.map (Value.int .u8))) (hb : ∀ x ∈ bs, (Lit.int .u8 x).wf = true) (hi : i ≤ 1000) (hn1 : 2 ≤ n) (hn : n ≤ 1048576) :
    Calls Try.prog 19 #[v, .int .i64 i, .int .i64 n] w fun e w' => e = .returned (.int .i64 (atR bs i n : Nat)) ∧ w = w' := by
  have hlt := atR_lt bs i n (by omega)
  have heq : atR bs i n = if i < bs.length then (bs.getD i 0 % (n : Int)).toNat else 0 := rfl
  generalize atR bs i n = y at *
  obtain ⟨a, cap, rfl, hl, hc⟩ := h
  rw [List.length_map] at hl ⊢
  unfold maxLen at hl
  have h1 : ¬ (n : Int) ≤ 1 := by omega
  have d1 : decide ((n : Int) ≤ 1) = false := decide_eq_false h1
  by_cases h2 : i < bs.length
  · rw [if_pos h2] at heq
    obtain ⟨b, o, rfl, hbB, hcell⟩ := hc (by intro e; rw [List.map_eq_nil_iff] at e; rw [e] at h2; simp at h2)
    have c0 := hcell i (.int .u8 (bs.getD i 0)) (by rw [List.getElem?_map, List.getElem?_eq_getElem h2, List.getD_eq_getElem?_getD, List.getElem?_eq_getElem h2]; rfl)
    have hx := bytes_in hb i
    have hmod : (bs.getD i 0).tmod n = bs.getD i 0 % n := Int.tmod_eq_emod_of_nonneg hx.1
    have hbd0 := Int.emod_nonneg (bs.getD i 0) (show (n : Int) ≠ 0 by omega)
    have hd : ¬ (bs.length : Int) ≤ (i : Int) := by omega
    have hd2 : decide ((bs.length : Int) ≤ (i : Int)) = false := decide_eq_false hd
    have hd3 : (i : Int) < (bs.length : Int) := by omega
    have hw : IntKind.i64.wrap (bs.getD i 0) = bs.getD i 0 := IntWalk.i64_in _ (by omega)
    have hz : ((n : Int) == 0) = false := by rw [beq_eq_false_iff_ne]; omega
    have hz2 : ¬ (n : Int) = 0 := by omega
    clear hcell hb
    generalize bs.getD i 0 = x at *
    generalize bs.length = m at *
    have hy : x % (n : Int) = (y : Int) := by omega
    rw [hy] at hmod
    clear hy hbd0 heq
    go_enter Try.func19, Try.ntmps19
    go_wp2_with fail
    go_ret
    exact ⟨rfl, rfl⟩
  · rw [if_neg h2] at heq
    have hd : (bs.length : Int) ≤ (i : Int) := by omega
    have hd2 : decide ((bs.length : Int) ≤ (i : Int)) = true := decide_eq_true hd
    clear hc hb
    generalize bs.length = m at *
    subst heq
    go_enter Try.func19, Try.ntmps19
    go_wp2_with fail
    go_ret
    exact ⟨rfl, rfl⟩
theorem run_max_f64 (ts : Array TypeId) (t : TypeId) (s u : Nat) (h1 : nn64 s = true) (h2 : nn64 u = true) (w : World) : (Builtin.max_ ts t #[.float .f64 s, .float .f64 u]).run Try.prog w = .ok (.float .f64 (maxM s u)) w := by
  have hs : isNaN Ieee.double s = false := by unfold nn64 at h1; simpa using h1
  have hu : isNaN Ieee.double u = false := by unfold nn64 at h2; simpa using h2
  have hne : Ieee.double.order s u ≠ none := by
    unfold Ieee.Format.order
    unfold isNaN at hs hu
    cases p : Ieee.double.read s <;> cases q : Ieee.double.read u <;> simp_all [Ieee.Datum.order, Ieee.Datum.isNaN]
  unfold maxM
  simp only [Builtin.max_, Builtin.max2]
  cases p : Ieee.double.order s u with
  | none => exact absurd p hne
  | some o =>
    have p' : FloatKind.f64.format.order s u = some o := p
    cases o <;> simp [Builtin.max2, p']
set_option maxHeartbeats 1000000 in
theorem r8Gap_any (x y : Nat) (h : gapOk x y = true) (w : World) : Calls Try.prog 31 #[.float .f64 x, .float .f64 y] w fun e w' => ∃ r m, e = .returned (.float .f64 r) ∧ gt64 r 4562254508917369340 = false ∧ w' = w.drewN m := by
  unfold gapOk at h
  rw [force_is, force_is] at h
  simp only [Bool.and_eq_true, Bool.not_eq_true'] at h
  obtain ⟨h1, h2, h3⟩ := h
  obtain ⟨s, hs⟩ : ∃ s, s = fop .sub .f64 x y := ⟨_, rfl⟩
  obtain ⟨u, hu⟩ : ∃ u, u = fop .sub .f64 y x := ⟨_, rfl⟩
  rw [← hs] at h1 h3
  rw [← hu] at h2 h3
  have hM := Lib.hid (fun ts t w => run_max_f64 ts t s u h1 h2 w)
  have H1 := Lib.hid h1
  have H2 := Lib.hid h2
  have H3 := Lib.hid h3
  have HS := Lib.hid hs
  have HU := Lib.hid hu
  clear h1 h2 h3 hs hu
  have hm := hM.out
  go_enter Try.func31, Try.ntmps31
  go_wp2_with (refine wpList_farith rfl _ _ _ _ _ rfl _ _ _ rfl rfl (by rfl) ?_; intro p jp hp hpl; clear hpl; first | (rw [← HS.out] at hp; have hq := real64 hp H1.out; subst hq; clear hp) | (rw [← HU.out] at hp; have hq := real64 hp H2.out; subst hq; clear hp))
  go_ret
  exact ⟨_, _, rfl, H3.out, by first | rfl | exact World.drewN_drewN ..⟩

theorem fact32 {k : BinOp} {x y r : Nat} (e : fop k .f32 x y = r) (hn : nn32 r = true) : ∀ p, Eqv FloatKind.f32.format p (fop k .f32 x y) → p = r := fun p h => by rw [e] at h; exact real32 h hn
theorem fact64 {k : BinOp} {x y r : Nat} (e : fop k .f64 x y = r) (hn : nn64 r = true) : ∀ p, Eqv FloatKind.f64.format p (fop k .f64 x y) → p = r := fun p h => by rw [e] at h; exact real64 h hn
theorem factW {b x : Nat} (e : widen b = x) (hn : nn32 b = true) : ∀ p, Wid b p → p = x := fun p h => by rw [← e]; exact wid32 h hn
theorem canWait_is {L n : Nat} (hl : okLoad L = true) (h1 : 1 ≤ n) (h2 : n ≤ 96) : canServe L (n : Int) = true ∧ canWait L (n : Int) = above L (n : Int) := by
  have : canServe L (n : Int) = true := by unfold canServe; rw [hl]; simp [inB]; omega
  exact ⟨this, by unfold canWait; rw [this]; rfl⟩
theorem block_is {L n : Nat} (hq : canServe L (n : Int) = true) (ha : nn32 (blockF L n) = true) {i : Int} (hi : i = n) {a : Nat} (ea : blockF L n = a) (w : World) :
    Calls Try.prog 30 #[.float .f32 L, .int .i64 i] w fun e w' => ∃ m, e = .returned (.tuple #[.float .f32 a, .bool true]) ∧ w' = w.drewN m := by
  subst hi
  refine (implBlock_any L n w).mono ?_
  rintro e w' ⟨r, m, rfl, hr, _, rfl⟩
  unfold blockRes at hr
  rw [hq, if_pos rfl, Int.toNat_natCast] at hr
  obtain rfl := real32 hr ha
  exact ⟨m, by rw [hq, ea], rfl⟩
theorem wait_is {L n : Nat} (hq : canWait L (n : Int) = true) (ha : nn32 (waitF L n) = true) {i : Int} (hi : i = n) {a : Nat} (ea : waitF L n = a) (w : World) :
    Calls Try.prog 32 #[.float .f32 L, .int .i64 i] w fun e w' => ∃ m, e = .returned (.tuple #[.float .f32 a, .bool true]) ∧ w' = w.drewN m := by
  subst hi
  refine (implWait_any L n w).mono ?_
  rintro e w' ⟨r, m, rfl, hr, _, rfl⟩
  unfold waitRes at hr
  rw [hq, if_pos rfl, Int.toNat_natCast] at hr
  obtain rfl := real32 hr ha
  exact ⟨m, by rw [hq, ea], rfl⟩
theorem mean_is {L n : Nat} (hq : canWait L (n : Int) = true) (ha : nn32 (meanF L n) = true) {i : Int} (hi : i = n) {a : Nat} (ea : meanF L n = a) (w : World) :
    Calls Try.prog 33 #[.float .f32 L, .int .i64 i] w fun e w' => ∃ m, e = .returned (.tuple #[.float .f32 a, .bool true]) ∧ w' = w.drewN m := by
  subst hi
  refine (implMean_any L n w).mono ?_
  rintro e w' ⟨r, m, rfl, hr, _, rfl⟩
  unfold meanRes at hr
  rw [hq, if_pos rfl, Int.toNat_natCast] at hr
  obtain rfl := real32 hr ha
  exact ⟨m, by rw [hq, ea], rfl⟩
theorem wait_no {L : Nat} {i : Int} (hq : canWait L i = false) (w : World) :
    Calls Try.prog 32 #[.float .f32 L, .int .i64 i] w fun e w' => ∃ r m, e = .returned (.tuple #[.float .f32 r, .bool false]) ∧ w' = w.drewN m := by
  refine (implWait_any L i w).mono ?_
  rintro e w' ⟨r, m, rfl, -, _, rfl⟩
  exact ⟨r, m, by rw [hq], rfl⟩
theorem mean_no {L : Nat} {i : Int} (hq : canWait L i = false) (w : World) :
    Calls Try.prog 33 #[.float .f32 L, .int .i64 i] w fun e w' => ∃ r m, e = .returned (.tuple #[.float .f32 r, .bool false]) ∧ w' = w.drewN m := by
  refine (implMean_any L i w).mono ?_
  rintro e w' ⟨r, m, rfl, -, _, rfl⟩
  exact ⟨r, m, by rw [hq], rfl⟩
theorem wait_gt {L n c : Nat} (hq : canWait L (n : Int) = true) {g : Bool} (hg : gt32 (waitF L n) c = g) {i : Int} (hi : i = n) (w : World) :
    Calls Try.prog 32 #[.float .f32 L, .int .i64 i] w fun e w' => ∃ r m, e = .returned (.tuple #[.float .f32 r, .bool true]) ∧ (FloatKind.f32.format.order r c == some Ordering.gt) = g ∧ w' = w.drewN m := by
  subst hi
  refine (implWait_any L n w).mono ?_
  rintro e w' ⟨r, m, rfl, hr, _, rfl⟩
  unfold waitRes at hr
  rw [hq, if_pos rfl, Int.toNat_natCast] at hr
  refine ⟨r, m, by rw [hq], ?_, rfl⟩
  rw [← hg]
  unfold gt32
  rw [show FloatKind.f32.format.order r c = FloatKind.f32.format.order (waitF L n) c from Eqv.order hr (Eqv.refl _ c)]
theorem staff_call {L c k : Nat} (hs : staffN L c = k + 1) {i : Int} (hi : i = k + 1) (w : World) :
    Calls Try.prog 34 #[.float .f32 L, .float .f32 c] w fun e w' => ∃ m, e = .returned (.tuple #[.int .i64 i, .bool true]) ∧ w' = w.drewN m := by
  refine (implStaff_any L c w).mono ?_
  rintro e w' ⟨m, rfl, rfl⟩
  refine ⟨m, ?_, rfl⟩
  unfold staffOk
  rw [hs, hi]; rfl
set_option maxHeartbeats 16000000 in
set_option maxRecDepth 100000 in
theorem walk (v0 : Value) (x0 : List Int) (hw0 : ∀ y ∈ x0, (Lit.int .u8 y).wf = true) (v1 : Value) (x1 : List Int) (hw1 : ∀ y ∈ x1, (Lit.int .u8 y).wf = true) (W : World) (h0 : Lst W.heap.size W v0 (x0.map (Value.int .u8))) (h1 : Lst W.heap.size W v1 (x1.map (Value.int .u8))) :
    Calls Try.prog 6 #[v0, v1] W fun e w' => e = .returned (.bool true) ∧ Below W.heap.size W w' := by
  have hA : ∀ W' (i n : Nat), Below W.heap.size W W' → i ≤ 1000 → 2 ≤ n → n ≤ 1048576 → Calls Try.prog 19 #[v1, .int .i64 i, .int .i64 n] W' fun e w' => e = .returned (.int .i64 (atR x1 i n : Nat)) ∧ W' = w' := fun W' i n hb hi hn1 hn => r8At_any W.heap.size v1 x1 i n W' (h1.below hb (Nat.le_refl _)) hw1 hi hn1 hn
  have C40 : Hid (∀ W', Below W.heap.size W W' → Calls Try.prog 19 #[v1, .int .i64 40, .int .i64 40] W' fun e w' => e = .returned (.int .i64 (atR x1 40 40 : Nat)) ∧ W' = w') := Lib.hid fun W' hb => hA W' 40 40 hb (by omega) (by omega) (by omega)
  have C41 : Hid (∀ W', Below W.heap.size W W' → Calls Try.prog 19 #[v1, .int .i64 41, .int .i64 20] W' fun e w' => e = .returned (.int .i64 (atR x1 41 20 : Nat)) ∧ W' = w') := Lib.hid fun W' hb => hA W' 41 20 hb (by omega) (by omega) (by omega)
  have C42 : Hid (∀ W', Below W.heap.size W W' → Calls Try.prog 19 #[v1, .int .i64 42, .int .i64 15] W' fun e w' => e = .returned (.int .i64 (atR x1 42 15 : Nat)) ∧ W' = w') := Lib.hid fun W' hb => hA W' 42 15 hb (by omega) (by omega) (by omega)
  have r40 := atR_lt x1 40 40 (by omega)
  have r41 := atR_lt x1 41 20 (by omega)
  have r42 := atR_lt x1 42 15 (by omega)
  generalize atR x1 40 40 = A at *
  generalize atR x1 41 20 = N at *
  generalize atR x1 42 15 = C at *
  obtain ⟨a0, p0, hv0, hl0, -⟩ := id h0
  obtain ⟨a1, p1, hv1, hl1, -⟩ := id h1
  rw [List.length_map] at hv0 hl0 hv1 hl1
  subst hv0 hv1
  have hLong := Lib.hid (fun w => r8Long_any a0 a1 x0.length x1.length p0 p1 w)
  clear hA h0 h1
  cases hbig : (decide (48 < x0.length) || decide (48 < x1.length))
  rotate_left
  · rw [hbig] at hLong
    generalize x0.length = n0 at *
    generalize x1.length = n1 at *
    clear C40 C41 C42 r40 r41 r42
    go_enter Try.func6, Try.ntmps6
    go_wp2_with (go_at_call 18; (with_reducible refine (hLong.out _).mono ?_); rintro e w' ⟨rfl, rfl⟩)
    go_ret
    exact ⟨rfl, Below.refl _ _⟩
  · rw [hbig] at hLong
    clear hbig
    generalize x0.length = n0 at *
    generalize x1.length = n1 at *
    -- what the three numbers choose
    obtain ⟨l1, l2, hN⟩ := load_is r40
    have hP := hN (N + 1) (by omega) (by omega)
    obtain ⟨k, hk, hs, hcw, hg1, hg2⟩ := staff_is r40 r42
    have nC := chances C r42
    rw [Bool.and_eq_true] at nC
    have l3 := nC.2
    obtain ⟨A1, hA1⟩ : ∃ A1 : Int, A1 = (A : Int) + 1 := ⟨_, rfl⟩
    obtain ⟨C1, hC1⟩ : ∃ C1 : Int, C1 = (C : Int) + 1 := ⟨_, rfl⟩
    have gA : IntKind.i64.wrap (1 + (A : Int)) = A1 := by rw [hA1, Int.add_comm]; exact IntWalk.i64_in _ (by omega)
    have gC : IntKind.i64.wrap (1 + (C : Int)) = C1 := by rw [hC1, Int.add_comm]; exact IntWalk.i64_in _ (by omega)
    have eL : fop .quo .f32 (floatOfInt .f32 A1) 1082130432 = ldF A := by rw [hA1]; rfl
    have eC : fop .quo .f32 (floatOfInt .f32 C1) 1098907648 = chF C := by rw [hC1]; rfl
    clear hN nC hA1 hC1
    generalize ldF A = L at *
    generalize chF C = c at *
    have FL := Lib.hid (fact32 eL l2)
    have FC := Lib.hid (fact32 eC l3)
    clear eL eC l3 r40 r42
    obtain ⟨n, hn⟩ : ∃ n : Int, n = ((N + 1 : Nat) : Int) := ⟨_, rfl⟩
    obtain ⟨m, hm⟩ : ∃ m : Int, m = ((N + 1 + 1 : Nat) : Int) := ⟨_, rfl⟩
    have gN : IntKind.i64.wrap (1 + (N : Int)) = n := by rw [hn, show ((N + 1 : Nat) : Int) = 1 + (N : Int) by omega]; exact IntWalk.i64_in _ (by omega)
    have gM : IntKind.i64.wrap (n + 1) = m := by rw [hn, hm, show ((N + 1 + 1 : Nat) : Int) = ((N + 1 : Nat) : Int) + 1 by omega]; exact IntWalk.i64_in _ (by omega)
    obtain ⟨s, hS⟩ : ∃ s : Int, s = (k : Int) + 1 := ⟨_, rfl⟩
    have gS : IntKind.i64.wrap (s - 1) = (k : Int) := by rw [hS, show (k : Int) + 1 - 1 = (k : Int) by omega]; exact IntWalk.i64_in _ (by omega)
    have cS := Lib.hid (fun w => staff_call hs hS w)
    have cW3 := Lib.hid (fun w => wait_gt hcw hg1 (show s = ((k + 1 : Nat) : Int) by omega) w)
    obtain ⟨q1, q2⟩ := canWait_is (n := N + 1) l1 (by omega) (by omega)
    obtain ⟨q3, q4⟩ := canWait_is (n := N + 1 + 1) l1 (by omega) (by omega)
    unfold partN at hP
    rw [Bool.and_eq_true, Bool.and_eq_true] at hP
    obtain ⟨hPA, hPE, hPB⟩ := hP
    unfold partA lt32 gt32 at hPA
    simp only [force_is, Bool.and_eq_true, Bool.not_eq_true'] at hPA
    obtain ⟨na, nb, c1, c2, c3, m1, s1, p1, gp⟩ := hPA
    have cB1 := Lib.hid (fun w => block_is q1 na hn rfl w)
    have cB2 := Lib.hid (fun w => block_is q3 nb hm rfl w)
    have eM : ((N + 1 : Nat) : Int) + 1 = m := by rw [hm]; omega
    rw [eM] at s1 p1 gp
    have vW : waitV L (blockF L (N + 1)) (N + 1) = waitF L (N + 1) := rfl
    have vW2 : waitV L (blockF L (N + 1 + 1)) (N + 1 + 1) = waitF L (N + 1 + 1) := rfl
    have vM : meanV L (waitF L (N + 1)) (N + 1) = meanF L (N + 1) := rfl
    have vM2 : meanV L (waitF L (N + 1 + 1)) (N + 1 + 1) = meanF L (N + 1 + 1) := rfl
    have hB : above L ((N + 1 : Nat) : Int) = true → partB L (N + 1) (blockF L (N + 1)) (blockF L (N + 1 + 1)) = true := fun h => by rw [h] at hPB; simpa using hPB
    have hE : lt32 L (floatOfInt .f32 n) = above L ((N + 1 : Nat) : Int) := by rw [hn]; simpa using (beq_iff_eq.1 hPE).symm
    clear hPB hPE eM q1 q3 hs hcw hg1 l1
    unfold partB at hB
    simp only [force_is, vW, vW2, vM, vM2] at hB
    clear vW vW2 vM vM2
    unfold lt32 at hE
    unfold lt32 gt64 at hB
    generalize hba : blockF L (N + 1) = a at *
    generalize hbb : blockF L (N + 1 + 1) = b at *
    generalize hl : widen L = l at *
    generalize hx : widen a = x at *
    generalize hy : widen b = y at *
    have FWl := Lib.hid (factW hl l2)
    have FWx := Lib.hid (factW hx na)
    have FWy := Lib.hid (factW hy nb)
    clear hx hy na nb l2 hba hbb hl
    generalize e1 : fop .mul .f64 l x = u1 at *
    generalize e2 : fop .add .f64 (floatOfInt .f64 m) u1 = u2 at *
    generalize e3 : fop .mul .f64 y u2 = u3 at *
    have F1 := Lib.hid (fact64 e1 m1)
    have F2 := Lib.hid (fact64 e2 s1)
    have F3 := Lib.hid (fact64 e3 p1)
    have G1 := Lib.hid (fun w => r8Gap_any u3 u1 gp w)
    clear e1 e2 e3 m1 s1 p1 gp
    obtain ⟨b4, cW4⟩ : ∃ b4 : Bool, Hid (∀ w, Calls Try.prog 32 #[.float .f32 L, .int .i64 (k : Int)] w fun e w' => ∃ r m, e = .returned (.tuple #[.float .f32 r, .bool b4]) ∧ (b4 = true → (FloatKind.f32.format.order r c == some Ordering.gt) = true) ∧ w' = w.drewN m) := by
      cases hk2 : canWait L (k : Int)
      · exact ⟨false, Lib.hid fun w => (wait_no hk2 w).mono fun e w' ⟨r, m, h1, h2⟩ => ⟨r, m, h1, (fun h => by cases h), h2⟩⟩
      · exact ⟨true, Lib.hid fun w => (wait_gt hk2 (hg2 hk2) rfl w).mono fun e w' ⟨r, m, h1, h2, h3⟩ => ⟨r, m, h1, fun _ => h2, h3⟩⟩
    clear hg2
    cases hab : above L ((N + 1 : Nat) : Int)
    · have cW1 := Lib.hid (fun w => wait_no (L := L) (i := n) (by rw [hn, q2, hab]) w)
      have cM1 := Lib.hid (fun w => mean_no (L := L) (i := n) (by rw [hn, q2, hab]) w)
      rw [hab] at hE
      clear hB hab q2 q4 hn hm hS hk r41
      cases b4
      all_goals
        go_enter Try.func6, Try.ntmps6
        go_wp2_with (first | (go_at_call 18; (with_reducible refine (hLong.out _).mono ?_); rintro e w' ⟨rfl, rfl⟩) | (go_at_call 19; (with_reducible refine (C40.out _ (by first | exact Below.refl _ _ | exact below_drawn _ _)).mono ?_); rintro e w' ⟨rfl, rfl⟩) | (go_at_call 19; (with_reducible refine (C41.out _ (by first | exact Below.refl _ _ | exact below_drawn _ _)).mono ?_); rintro e w' ⟨rfl, rfl⟩) | (go_at_call 19; (with_reducible refine (C42.out _ (by first | exact Below.refl _ _ | exact below_drawn _ _)).mono ?_); rintro e w' ⟨rfl, rfl⟩) | (go_at_call 30; (with_reducible refine (cB1.out _).mono ?_); rintro e w' ⟨j, rfl, rfl⟩) | (go_at_call 30; (with_reducible refine (cB2.out _).mono ?_); rintro e w' ⟨j, rfl, rfl⟩) | (go_at_call 31; (with_reducible refine (G1.out _).mono ?_); rintro e w' ⟨rg1, j, rfl, hg1, rfl⟩; unfold gt64 at hg1) | (go_at_call 32; (with_reducible refine (cW1.out _).mono ?_); rintro e w' ⟨rw, j, rfl, rfl⟩) | (go_at_call 33; (with_reducible refine (cM1.out _).mono ?_); rintro e w' ⟨rm, j, rfl, rfl⟩) | (go_at_call 34; (with_reducible refine (cS.out _).mono ?_); rintro e w' ⟨j, rfl, rfl⟩) | (go_at_call 32; (with_reducible refine (cW3.out _).mono ?_); rintro e w' ⟨r3, j, rfl, h3, rfl⟩) | (go_at_call 32; (with_reducible refine (cW4.out _).mono ?_); rintro e w' ⟨r4, j, rfl, h4, rfl⟩; try have h5 := h4 rfl) | (refine wpList_farith rfl _ _ _ _ _ rfl _ _ _ rfl rfl (by rfl) ?_; intro pf jf hp hpl; clear hpl; first | (have hq := (by with_reducible exact FL.out pf hp); subst pf; clear hp) | (have hq := (by with_reducible exact FC.out pf hp); subst pf; clear hp) | (have hq := (by with_reducible exact F1.out pf hp); subst pf; clear hp) | (have hq := (by with_reducible exact F2.out pf hp); subst pf; clear hp) | (have hq := (by with_reducible exact F3.out pf hp); subst pf; clear hp)) | (refine wpList_widen rfl _ _ _ rfl u32_some Try.underlying47 _ rfl ?_; intro pf jf hp; first | (have hq := (by with_reducible exact FWl.out pf hp); subst pf; clear hp) | (have hq := (by with_reducible exact FWx.out pf hp); subst pf; clear hp) | (have hq := (by with_reducible exact FWy.out pf hp); subst pf; clear hp)))
        go_ret
        exact ⟨rfl, below_drawn _ _⟩
    · have hB2 := hB hab
      simp only [Bool.and_eq_true, Bool.not_eq_true'] at hB2
      obtain ⟨t1, t2, t3, t4, t5, t6, t7, t8, t9, t10, t11, t12, t13, t14⟩ := hB2
      have t1' : above L ((N + 1 + 1 : Nat) : Int) = true := by rw [show ((N + 1 + 1 : Nat) : Int) = ((N + 1 : Nat) : Int) + 1 by omega]; exact t1
      have cW1 := Lib.hid (fun w => wait_is (q2.trans hab) t2 hn rfl w)
      have cM1 := Lib.hid (fun w => mean_is (q2.trans hab) t4 hn rfl w)
      have cW2 := Lib.hid (fun w => wait_is (q4.trans t1') t3 hm rfl w)
      have cM2 := Lib.hid (fun w => mean_is (q4.trans t1') t5 hm rfl w)
      rw [hab] at hE
      rw [← hn] at t12 t13 t14
      clear hB hab q2 q4 hn hm hS hk r41 t1 t1'
      generalize waitF L (N + 1) = wv at *
      generalize waitF L (N + 1 + 1) = wv2 at *
      generalize meanF L (N + 1) = mv at *
      generalize meanF L (N + 1 + 1) = mv2 at *
      generalize hx1 : widen wv = xw at *
      generalize hx2 : widen wv2 = xw2 at *
      generalize hx3 : widen mv = xm at *
      generalize hx4 : widen mv2 = xm2 at *
      have FV1 := Lib.hid (factW hx1 t2)
      have FV2 := Lib.hid (factW hx2 t3)
      have FV3 := Lib.hid (factW hx3 t4)
      have FV4 := Lib.hid (factW hx4 t5)
      clear hx1 hx2 hx3 hx4 t2 t3 t4 t5
      generalize e4 : fop .add .f64 xw 4532020583610935537 = d4 at *
      generalize e5 : fop .add .f64 xm 4532020583610935537 = d5 at *
      generalize e6 : fop .sub .f64 (floatOfInt .f64 n) l = d6 at *
      generalize e7 : fop .mul .f64 xm d6 = d7 at *
      have F4 := Lib.hid (fact64 e4 t8)
      have F5 := Lib.hid (fact64 e5 t10)
      have F6 := Lib.hid (fact64 e6 t12)
      have F7 := Lib.hid (fact64 e7 t13)
      have G2 := Lib.hid (fun w => r8Gap_any d7 xw t14 w)
      clear e4 e5 e6 e7 t8 t10 t12 t13 t14
      cases b4
      all_goals
        go_enter Try.func6, Try.ntmps6
        go_wp2_with (first | (go_at_call 18; (with_reducible refine (hLong.out _).mono ?_); rintro e w' ⟨rfl, rfl⟩) | (go_at_call 19; (with_reducible refine (C40.out _ (by first | exact Below.refl _ _ | exact below_drawn _ _)).mono ?_); rintro e w' ⟨rfl, rfl⟩) | (go_at_call 19; (with_reducible refine (C41.out _ (by first | exact Below.refl _ _ | exact below_drawn _ _)).mono ?_); rintro e w' ⟨rfl, rfl⟩) | (go_at_call 19; (with_reducible refine (C42.out _ (by first | exact Below.refl _ _ | exact below_drawn _ _)).mono ?_); rintro e w' ⟨rfl, rfl⟩) | (go_at_call 30; (with_reducible refine (cB1.out _).mono ?_); rintro e w' ⟨j, rfl, rfl⟩) | (go_at_call 30; (with_reducible refine (cB2.out _).mono ?_); rintro e w' ⟨j, rfl, rfl⟩) | (go_at_call 31; (with_reducible refine (G1.out _).mono ?_); rintro e w' ⟨rg1, j, rfl, hg1, rfl⟩; unfold gt64 at hg1) | (go_at_call 31; (with_reducible refine (G2.out _).mono ?_); rintro e w' ⟨rg2, j, rfl, hg2, rfl⟩; unfold gt64 at hg2) | (go_at_call 32; (with_reducible refine (cW1.out _).mono ?_); rintro e w' ⟨j, rfl, rfl⟩) | (go_at_call 32; (with_reducible refine (cW2.out _).mono ?_); rintro e w' ⟨j, rfl, rfl⟩) | (go_at_call 33; (with_reducible refine (cM1.out _).mono ?_); rintro e w' ⟨j, rfl, rfl⟩) | (go_at_call 33; (with_reducible refine (cM2.out _).mono ?_); rintro e w' ⟨j, rfl, rfl⟩) | (go_at_call 34; (with_reducible refine (cS.out _).mono ?_); rintro e w' ⟨j, rfl, rfl⟩) | (go_at_call 32; (with_reducible refine (cW3.out _).mono ?_); rintro e w' ⟨r3, j, rfl, h3, rfl⟩) | (go_at_call 32; (with_reducible refine (cW4.out _).mono ?_); rintro e w' ⟨r4, j, rfl, h4, rfl⟩; try have h5 := h4 rfl) | (refine wpList_farith rfl _ _ _ _ _ rfl _ _ _ rfl rfl (by rfl) ?_; intro pf jf hp hpl; clear hpl; first | (have hq := (by with_reducible exact FL.out pf hp); subst pf; clear hp) | (have hq := (by with_reducible exact FC.out pf hp); subst pf; clear hp) | (have hq := (by with_reducible exact F1.out pf hp); subst pf; clear hp) | (have hq := (by with_reducible exact F2.out pf hp); subst pf; clear hp) | (have hq := (by with_reducible exact F3.out pf hp); subst pf; clear hp) | (have hq := (by with_reducible exact F4.out pf hp); subst pf; clear hp) | (have hq := (by with_reducible exact F5.out pf hp); subst pf; clear hp) | (have hq := (by with_reducible exact F6.out pf hp); subst pf; clear hp) | (have hq := (by with_reducible exact F7.out pf hp); subst pf; clear hp)) | (refine wpList_widen rfl _ _ _ rfl u32_some Try.underlying47 _ rfl ?_; intro pf jf hp; first | (have hq := (by with_reducible exact FWl.out pf hp); subst pf; clear hp) | (have hq := (by with_reducible exact FWx.out pf hp); subst pf; clear hp) | (have hq := (by with_reducible exact FWy.out pf hp); subst pf; clear hp) | (have hq := (by with_reducible exact FV1.out pf hp); subst pf; clear hp) | (have hq := (by with_reducible exact FV2.out pf hp); subst pf; clear hp) | (have hq := (by with_reducible exact FV3.out pf hp); subst pf; clear hp) | (have hq := (by with_reducible exact FV4.out pf hp); subst pf; clear hp)))
        go_ret
        exact ⟨rfl, below_drawn _ _⟩
theorem own : ownKnob Try.prog.godebug = none := by kernel_rfl
theorem laid : laidOutB Try.prog = true := by kernel_rfl
theorem cells0 : Try.prog.cellsOf 5 = 1 := by kernel_rfl
theorem cells1 : Try.prog.cellsOf 5 = 1 := by kernel_rfl

set_option maxRecDepth 100000 in
theorem contract (H : Type) (enc : TypeId × Value → H) (W : World) (base : Nat) (args : Array Value) (ds gs : List (DataW H)) (before : List MemPlace)
    (hval : ∀ (j : Nat) t v, Try.f6.params[j]? = some t → args[j]? = some v → Value.okWide Try.prog W .any base t v)
    (hW : DataW.Whole enc Try.prog Try.f6.params.toList Rows.fnWaitsSpec.vars false W args.toList ds gs before) :
    Calls Try.prog 6 args W fun e W' => ∃ v, e = .returned v ∧ Rows.fnWaitsSpec.post enc Try.prog Try.f6 false true false false W args v W' := by
  have hW' := hW
  have hlt : ∀ x ∈ before, x.block < W.heap.size := fun x hx => hW'.lt x hx
  obtain ⟨p, q, hA0, hV, rfl, hfz, hnd⟩ := hW
  have hA : DataW.TrodAll enc Try.prog W 0 (fun _ => true) true Try.f6.params.toList args.toList ds p := hA0
  rw [Try.params6] at hA hval
  obtain ⟨v0, vs0, d0, ds0, p0, q0, hargs, rfl, rfl, h0, r0⟩ := trodAll_cons hA
  obtain ⟨v1, vs1, d1, ds1, p1, q1, rfl, rfl, rfl, h1, r1⟩ := trodAll_cons r0
  obtain ⟨rfl, rfl, rfl⟩ := trodAll_nil r1
  obtain rfl : args = #[v0, v1] := by first | exact Array.ext' (by exact hargs) | (cases args; simp_all)
  obtain ⟨rfl, rfl⟩ := trodVars_none hV
  clear hA0
  have k0 := h0
  have k1 := h1
  obtain ⟨a0, L0, w0⟩ := Go.Lst.open_ints Try.underlying22 Try.underlying5 cells0 (hval 0 22 v0 rfl rfl) h0
  obtain ⟨a1, L1, w1⟩ := Go.Lst.open_ints Try.underlying22 Try.underlying5 cells1 (hval 1 22 v1 rfl rfl) h1
  simp only [List.append_nil] at hW' hlt
  refine (walk v0 a0 w0 v1 a1 w1 W L0 L1).mono fun e W' ⟨he, hb⟩ => ?_
  subst he
  exact ⟨_, rfl, Go.Lst.post_new (pv := []) hW' (fun _ _ _ => (trodAll_cons_mk (shut_bool Try.underlying4 _) trodAll_mk0)) (fun sp hsp => (trodAll_cons_mk (WideElems.Trod_stays laid (by kernel_rfl) (of_decide_eq_true (by kernel_rfl)) k0 (fun x hx => hb.same (hlt x (by simp [hx]))) (fun x hx => hsp x (by simp [hx]))) (trodAll_cons_mk (WideElems.Trod_stays laid (by kernel_rfl) (of_decide_eq_true (by kernel_rfl)) k1 (fun x hx => hb.same (hlt x (by simp [hx]))) (fun x hx => hsp x (by simp [hx]))) trodAll_mk0))) (fun _ _ => rfl) (by simp)
    hb (ok_one (by kernel_rfl) rfl (okWide_bool_mk Try.underlying4 _))⟩

set_option maxRecDepth 100000 in
theorem lifted (os : Os) (started : os.Started) (H : Type) (enc : TypeId × Value → H) :
    ReturnsInHanded {} Try.checked os 6 .any (Rows.fnWaitsSpec.pre6 enc Try.prog Try.f6 Rows.fnWaitsRow.domain false) (Rows.fnWaitsSpec.post enc Try.prog Try.f6 false true false false) := by
  refine returnsInHanded_of_change (C := Try.checked) own started (by kernel_rfl) Try.func6
    (ChangeSpec.witness6 (enc := enc) (C := Try.checked) false ⟨#[], #[.slice none 0 0, .slice none 0 0], []⟩ 8 (by kernel_rfl) (by kernel_rfl) (by kernel_rfl) (by kernel_rfl)) ?_
  intro W base args ds gs before hval hW _ _
  exact contract H enc W base args ds gs before hval hW

set_option maxRecDepth 100000 in
theorem proved : Rows.FnWaitsSaid :=
  OpenClaim.holds_of_wide 6 Try.f6 rfl rfl rfl rfl rfl rfl rfl ⟨rfl, rfl, rfl, rfl, rfl⟩ rfl rfl rfl rfl rfl (by kernel_rfl) Try.func6 (by kernel_rfl)
    (of_decide_eq_true (by kernel_rfl)) (by unfold Func.isWrapper; first | (rw [if_pos (by decide +kernel)]; kernel_rfl) | (rw [if_neg (by decide +kernel)]; exact ⟨rfl, rfl⟩))
    (fun os started H enc _ => lifted os started H enc)
end Go.Proofs.Ytncbohecppdfnaa.fnWaits
