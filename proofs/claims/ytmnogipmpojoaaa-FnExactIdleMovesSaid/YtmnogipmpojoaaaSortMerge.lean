/- Contract: two sorted halves merged in their place. Conditions: the comparison tells which of two places comes first; the halves are sorted, the earlier places in the first one. -/
import Derived.Test.YtmnogipmpojoaaaSortLast
import Derived.Test.YtmnogipmpojoaaaSortWin
namespace Go.Proofs.Ytmnogipmpojoaaa
open Go.RowKit Go.Lst Srt Go.Shelf

/-- What a merge is asked to do, up to a length. -/
def Merges (A g n c F : Nat) (lb : Array Value) (W0 : World) (lt : Int → Int → Bool) (N : Nat) : Prop :=
  ∀ (a m b : Nat) (f : Nat → Int) (w : World), b - a ≤ N → a < m → m < b → b ≤ n → Arr n f → Halves lt a m b f → Row A g n c W0 w f →
    Calls Try.prog 37 #[.slice (some ⟨g, 0, none⟩) n c, .int .i64 a, .int .i64 m, .int .i64 b, .func (.func F) #[] lb] w fun e w' => e = .returned (.tuple #[]) ∧ ∃ f', Row A g n c W0 w' f' ∧ Merged lt a b f f'
set_option maxHeartbeats 40000000 in
set_option maxRecDepth 100000 in
theorem merges_low (A g n c F : Nat) (lb : Array Value) (W0 : World) (sg : Int → Int → Int) (lt : Int → Int → Bool) (hT : Tot n lt) (hC : Cmp F lb g n W0 sg lt) (hn : n ≤ 1024) (N : Nat) (ih : Merges A g n c F lb W0 lt N)
    (a m b d : Nat) (f : Nat → Int) (w : World) (hN : b - a ≤ N + 1) (hmb : m < b) (hb : b ≤ n) (hA : Arr n f) (hH : Halves lt a m b f) (hR : Row A g n c W0 w f) (h1 : a + 1 < m) (h2 : m + 1 < b) (d1 : 2 * d ≤ a + b) (d2 : a + b ≤ 2 * d + 1) (hmd : m ≤ d) :
    Calls Try.prog 37 #[.slice (some ⟨g, 0, none⟩) n c, .int .i64 a, .int .i64 m, .int .i64 b, .func (.func F) #[] lb] w fun e w' => e = .returned (.tuple #[]) ∧ ∃ f', Row A g n c W0 w' f' ∧ Merged lt a b f f' := by
  have ham : a < m := by omega
  obtain ⟨p, hp⟩ : ∃ p : Nat, p + 1 = d + m := ⟨d + m - 1, by omega⟩
  have hR0 := Lib.hid hR
  have hCs := Lib.hid hC.says
  have hCg := Lib.hid hC.sign
  have eg := hC.enter
  have hAp : Hid (∀ i j, a ≤ i → i < m → m ≤ j → j < b → 0 ≤ f i ∧ f i < f j ∧ f j < n) := Lib.hid fun i j i1 i2 i3 i4 => ⟨(hA.low i (by omega)).1, hH.apart i j i1 i2 i3 i4, (hA.low j (by omega)).2⟩
  have hWin : Hid (∀ S R, Win a m b d p S R → (∀ c, S ≤ c → c < R → lt (f (p - c)) (f c) = false → ∀ k, S ≤ k → k < c + 1 → lt (f k) (f (p - k)) = true) ∧ (∀ c, S ≤ c → c < R → lt (f (p - c)) (f c) = true → ∀ k, c ≤ k → k < R → lt (f (p - k)) (f k) = true)) :=
    Lib.hid fun S R w => ⟨fun c c1 c2 hl => w.lo hT hH c c1 c2 hl, fun c c1 c2 hl => w.hi hT hH c c1 c2 hl⟩
  have hCut : Hid (∀ S R s e, Win a m b d p S R → S ≤ s → s ≤ R → (∀ k, S ≤ k → k < s → lt (f k) (f (p - k)) = true) → (∀ k, s ≤ k → k < R → lt (f (p - k)) (f k) = true) → e + s = d + m → Cut lt n a m b d s e f (rot f s m e)) := Lib.hid fun S R s e w s1 s2 lo hi he => by
    have hpt := w.parts s1 s2 lo hi
    rw [show d + m - s = e by omega] at hpt
    exact cut_of hT hH hA hb (by have := w.rd; omega) he hpt
  have hRo : Hid (∀ s e w, s < m → m < e → e ≤ n → Row A g n c W0 w f → Calls Try.prog 38 #[.slice (some ⟨g, 0, none⟩) n c, .int .i64 (s : Nat), .int .i64 m, .int .i64 (e : Nat), .func (.func F) #[] lb] w fun e' w' => e' = .returned (.tuple #[]) ∧ Row A g n c W0 w' (rot f s m e)) := Lib.hid fun s e w s1 s2 s3 hr => rotate_any A g n c s m e W0 w f _ hr s1 s2 s3 hn
  have hNo : Hid (∀ s e, s ≤ m → (s = m ∨ e = m) → rot f s m e = f) := Lib.hid fun s e hs x => by
    rcases x with x | x
    · rw [x]; exact rot_none_left f m e
    · rw [x]; exact rot_none_right f s m hs
  have hIh := Lib.hid ih
  have wm : IntKind.i64.wrap ((m : Int) - (a : Int)) = (m : Int) - (a : Int) := IntWalk.i64_in _ (by omega)
  have wd : (((m : Int) - (a : Int)) == 1) = false := by rw [beq_eq_false_iff_ne]; omega
  have wd2 : decide ((m : Int) - (a : Int) = 1) = false := decide_eq_false (by omega)
  have wm2 : IntKind.i64.wrap ((b : Int) - (m : Int)) = (b : Int) - (m : Int) := IntWalk.i64_in _ (by omega)
  have we : (((b : Int) - (m : Int)) == 1) = false := by rw [beq_eq_false_iff_ne]; omega
  have we2 : decide ((b : Int) - (m : Int) = 1) = false := decide_eq_false (by omega)
  have ws : IntKind.i64.wrap ((a : Int) + (b : Int)) = (a : Int) + (b : Int) := IntWalk.i64_in _ (by omega)
  have wu : IntKind.u64.wrap ((a : Int) + (b : Int)) = (a : Int) + (b : Int) := by rw [IntKind.wrap_u64]; omega
  have wq : ((a : Int) + (b : Int)) / 2 = (d : Int) := by omega
  have wv : IntKind.i64.wrap (d : Int) = (d : Int) := IntWalk.i64_in _ (by omega)
  have wn : IntKind.i64.wrap ((d : Int) + (m : Int)) = (d : Int) + (m : Int) := IntWalk.i64_in _ (by omega)
  have wp : IntKind.i64.wrap ((d : Int) + (m : Int) - 1) = (p : Int) := by rw [IntWalk.i64_in _ (by omega)]; omega
  have wp2 : (d : Int) + (m : Int) - 1 = (p : Int) := by omega
  obtain ⟨S, hS⟩ : ∃ S : Nat, S = a := ⟨a, rfl⟩
  have hW : Win a m b d p S m := by rw [hS]; exact Win.low ham hmb d1 hp hmd
  clear hR hC hT hA hH ih
  obtain ⟨hWlo, hWhi⟩ := hWin.out S m hW
  have hLo := Lib.hid hWlo
  have hHi := Lib.hid hWhi
  have hCu := Lib.hid (fun s e => hCut.out S m s e hW)
  obtain ⟨_, _, _, sa, sb, rm, rd, sr, _, _⟩ := hW
  clear hWlo hWhi hWin hCut
  have hS' := hS.symm
  subst hS'
  have g1 : ¬ ((d : Int) < (m : Int)) := by omega
  have g2 : decide ((d : Int) < (m : Int)) = false := decide_eq_false g1
  have g3 : decide (d < m) = false := decide_eq_false (by omega)
  go_enter Try.func37, Try.ntmps37
  go_wp2_with fail
  go_loopw [20, 21] (fun sv rv wr => ∃ s r : Nat, a ≤ s ∧ s ≤ r ∧ r ≤ m ∧ sv = .int .i64 s ∧ rv = .int .i64 r ∧ Hid (∀ k, a ≤ k → k < s → lt (f k) (f (p - k)) = true) ∧ Hid (∀ k, r ≤ k → k < m → lt (f (p - k)) (f k) = true) ∧ Hid (Row A g n c W0 wr f)) (fun sv rv _ => (intOf rv).toNat - (intOf sv).toNat)
  case atStart => exact ⟨a, m, Nat.le_refl _, by omega, Nat.le_refl _, rfl, rfl, Lib.hid (fun k h1 h2 => by omega), Lib.hid (fun k h1 h2 => by omega), hR0⟩
  case round =>
    clear hR0
    obtain ⟨s, r, hs1, hsr, hrR, rfl, rfl, hlo, hhi, hR⟩ := hrel
    by_cases hlt : s < r
    · obtain ⟨q, hq, q1, q2⟩ := half_in hlt
      obtain ⟨t, ht⟩ : ∃ t : Nat, t + q = p := ⟨p - q, by omega⟩
      have htq := Lib.hid (show p - q = t by omega)
      have hqd : ((s : Int) + (r : Int)) / 2 = (q : Int) := by omega
      have hpt : (p : Int) - (q : Int) = (t : Int) := by omega
      have wq1 : IntKind.u64.wrap ((s : Int) + (r : Int)) = (s : Int) + (r : Int) := by rw [IntKind.wrap_u64]; omega
      have wq2 : IntKind.i64.wrap (q : Int) = (q : Int) := IntWalk.i64_in _ (by omega)
      have wq3 : IntKind.i64.wrap ((s : Int) + (r : Int)) = (s : Int) + (r : Int) := IntWalk.i64_in _ (by omega)
      have wq4 : IntKind.i64.wrap (t : Int) = (t : Int) := IntWalk.i64_in _ (by omega)
      obtain ⟨b1, b2, b3⟩ := hAp.out q t (by omega) (by omega) (by omega) (by omega)
      have c1 := hR.out.cell (k := q) (by omega)
      have c2 := hR.out.cell (k := t) (by omega)
      have nc1 := fun pn => near_cell c1 pn
      have nc2 := fun pn => near_cell c2 pn
      have hCall := Lib.hid (fun (pn : Near wr.heap.size wr) => hCs.out _ (hR.out.below pn.below).kept (f q) (f t) b1 b2 b3)
      have hSg := hCg.out (f q) (f t) b1 b2 b3
      have hRm := Lib.hid (fun (pn : Near wr.heap.size wr) => hR.out.below pn.below)
      have l1 : (q : Int) < (n : Int) := by omega
      have l2 : (t : Int) < (n : Int) := by omega
      have hd : (s : Int) < (r : Int) := by omega
      have hqL := Lib.hid (hLo.out q (by omega) (by omega))
      have hqH := Lib.hid (hHi.out q (by omega) (by omega))
      rw [htq.out] at hqL hqH
      clear hq b1 b2 b3 ht
      cases hlv : lt (f t) (f q)
      · have hH2 := Lib.hid (hqL.out hlv)
        rw [hlv] at hSg
        clear hlv hqL hqH
        generalize sg (f t) (f q) = z at *
        generalize f q = x at *
        generalize f t = y at *
        go_wp2_with fail
        refine wp_region_near (by kernel_rfl) (by kernel_rfl) ?_
        repeat (go_big_quiet_step ((go_at_fn F; with_reducible exact near_of (Nat.le_refl _) (hCall.out _))))
        refine wpQuiet_nil ?_
        rintro _ ⟨pq, rfl⟩
        go_wp2_with fail
        go_roundw
        case rel => exact ⟨q + 1, r, by omega, by omega, by omega, by go_num, rfl, hH2, hhi, Lib.hid (hRm.out _)⟩
        case measure => simp [intOf]; omega
      · have hH2 := Lib.hid (hqH.out hlv)
        rw [hlv] at hSg
        clear hlv hqL hqH
        generalize sg (f t) (f q) = z at *
        generalize f q = x at *
        generalize f t = y at *
        go_wp2_with fail
        refine wp_region_near (by kernel_rfl) (by kernel_rfl) ?_
        repeat (go_big_quiet_step ((go_at_fn F; with_reducible exact near_of (Nat.le_refl _) (hCall.out _))))
        refine wpQuiet_nil ?_
        rintro _ ⟨pq, rfl⟩
        go_wp2_with fail
        go_roundw
        case rel => exact ⟨s, q, by omega, by omega, by omega, rfl, rfl, hlo, hH2, Lib.hid (hRm.out _)⟩
        case measure => simp [intOf]; omega
    · obtain rfl : s = r := by omega
      obtain ⟨e, he⟩ : ∃ e : Nat, e + s = d + m := ⟨d + m - s, by omega⟩
      have hK := hCu.out s e hs1 hrR hlo.out hhi.out he
      have hRot := Lib.hid (fun w' x1 x2 hr => hRo.out s e w' x1 x2 (Nat.le_trans hK.eb hb) hr)
      have hRn := Lib.hid (hNo.out s e hK.hs)
      have y0 := hK.ha
      have y1 := hK.hs
      have y2 := hK.eb
      generalize rot f s m e = G at *
      have hM1 := Lib.hid hK.first
      have hM2 := Lib.hid (fun h pm => hK.next (h := h) pm hb (by omega))
      have hFin := Lib.hid (fun h i pm qm => hK.done (h := h) (i := i) pm qm (by omega))
      have hI1 := Lib.hid (fun w' x1 x2 hr => hIh.out a s d G w' (by omega) x1 x2 (by omega) hK.arr hK.one hr)
      have hI2 := Lib.hid (fun h w' x1 x2 (pm : Merged lt a d G h) hr => hIh.out d e b h w' (by omega) x1 x2 hb (hM2.out h pm).2 (hM2.out h pm).1 hr)
      clear hlo hhi hK hLo hHi hCu hAp hCs hCg
      have wee : IntKind.i64.wrap ((d : Int) + (m : Int) - (s : Int)) = (e : Int) := by rw [IntWalk.i64_in _ (by omega)]; omega
      have wef : (d : Int) + (m : Int) - (s : Int) = (e : Int) := by omega
      by_cases kx1 : s < m
      · by_cases kzb : e < b
        · by_cases kya : a < s
          · have ua : (s : Int) < (m : Int) := by omega
            have ub : decide ((s : Int) < (m : Int)) = true := decide_eq_true ua
            have uc : decide (s < m) = true := decide_eq_true (by omega)
            have va : (m : Int) < (e : Int) := by omega
            have vb : decide ((m : Int) < (e : Int)) = true := decide_eq_true va
            have vc : decide (m < e) = true := decide_eq_true (by omega)
            have xa : (a : Int) < (s : Int) := by omega
            have xb : decide ((a : Int) < (s : Int)) = true := decide_eq_true xa
            have xc : decide (a < s) = true := decide_eq_true (by omega)
            have ya : (s : Int) < (d : Int) := by omega
            have yb : decide ((s : Int) < (d : Int)) = true := decide_eq_true ya
            have yc : decide (s < d) = true := decide_eq_true (by omega)
            have za : (d : Int) < (e : Int) := by omega
            have zb : decide ((d : Int) < (e : Int)) = true := decide_eq_true za
            have zc : decide (d < e) = true := decide_eq_true (by omega)
            have ta : (e : Int) < (b : Int) := by omega
            have tb : decide ((e : Int) < (b : Int)) = true := decide_eq_true ta
            have tc : decide (e < b) = true := decide_eq_true (by omega)
            go_wp2_with (first | (go_at_call 38; (with_reducible refine (hRot.out _ (by omega) (by omega) hR.out).mono ?_); rintro e1 w1 ⟨rfl, hr1⟩; have hG := Lib.hid hr1; clear hr1) | (go_at_call 37; (with_reducible refine (hI1.out _ (by omega) (by omega) hG.out).mono ?_); rintro e2 w2 ⟨rfl, h, hr2, pm2⟩; have hH2 := Lib.hid hr2; have hP2 := Lib.hid pm2; clear hr2 pm2) | (go_at_call 37; (with_reducible refine (hI2.out h _ (by omega) (by omega) hP2.out hH2.out).mono ?_); rintro e3 w3 ⟨rfl, i, hr3, pm3⟩; have hH3 := Lib.hid hr3; have hP3 := Lib.hid pm3; clear hr3 pm3))
            go_end0
            exact ⟨rfl, i, hH3.out, hFin.out _ _ hP2.out hP3.out⟩
          · have ua : (s : Int) < (m : Int) := by omega
            have ub : decide ((s : Int) < (m : Int)) = true := decide_eq_true ua
            have uc : decide (s < m) = true := decide_eq_true (by omega)
            have va : (m : Int) < (e : Int) := by omega
            have vb : decide ((m : Int) < (e : Int)) = true := decide_eq_true va
            have vc : decide (m < e) = true := decide_eq_true (by omega)
            have xa : ¬ ((a : Int) < (s : Int)) := by omega
            have xb : decide ((a : Int) < (s : Int)) = false := decide_eq_false xa
            have xc : decide (a < s) = false := decide_eq_false (by omega)
            have ya : (s : Int) < (d : Int) := by omega
            have yb : decide ((s : Int) < (d : Int)) = true := decide_eq_true ya
            have yc : decide (s < d) = true := decide_eq_true (by omega)
            have za : (d : Int) < (e : Int) := by omega
            have zb : decide ((d : Int) < (e : Int)) = true := decide_eq_true za
            have zc : decide (d < e) = true := decide_eq_true (by omega)
            have ta : (e : Int) < (b : Int) := by omega
            have tb : decide ((e : Int) < (b : Int)) = true := decide_eq_true ta
            have tc : decide (e < b) = true := decide_eq_true (by omega)
            go_wp2_with (first | (go_at_call 38; (with_reducible refine (hRot.out _ (by omega) (by omega) hR.out).mono ?_); rintro e1 w1 ⟨rfl, hr1⟩; have hG := Lib.hid hr1; clear hr1) | (go_at_call 37; (with_reducible refine (hI2.out G _ (by omega) (by omega) (hM1.out (by omega)) hG.out).mono ?_); rintro e3 w3 ⟨rfl, i, hr3, pm3⟩; have hH3 := Lib.hid hr3; have hP3 := Lib.hid pm3; clear hr3 pm3))
            go_end0
            exact ⟨rfl, i, hH3.out, hFin.out _ _ (hM1.out (by omega)) hP3.out⟩
        · by_cases kya : a < s
          · have ua : (s : Int) < (m : Int) := by omega
            have ub : decide ((s : Int) < (m : Int)) = true := decide_eq_true ua
            have uc : decide (s < m) = true := decide_eq_true (by omega)
            have va : (m : Int) < (e : Int) := by omega
            have vb : decide ((m : Int) < (e : Int)) = true := decide_eq_true va
            have vc : decide (m < e) = true := decide_eq_true (by omega)
            have xa : (a : Int) < (s : Int) := by omega
            have xb : decide ((a : Int) < (s : Int)) = true := decide_eq_true xa
            have xc : decide (a < s) = true := decide_eq_true (by omega)
            have ya : (s : Int) < (d : Int) := by omega
            have yb : decide ((s : Int) < (d : Int)) = true := decide_eq_true ya
            have yc : decide (s < d) = true := decide_eq_true (by omega)
            have za : (d : Int) < (e : Int) := by omega
            have zb : decide ((d : Int) < (e : Int)) = true := decide_eq_true za
            have zc : decide (d < e) = true := decide_eq_true (by omega)
            have ta : ¬ ((e : Int) < (b : Int)) := by omega
            have tb : decide ((e : Int) < (b : Int)) = false := decide_eq_false ta
            have tc : decide (e < b) = false := decide_eq_false (by omega)
            go_wp2_with (first | (go_at_call 38; (with_reducible refine (hRot.out _ (by omega) (by omega) hR.out).mono ?_); rintro e1 w1 ⟨rfl, hr1⟩; have hG := Lib.hid hr1; clear hr1) | (go_at_call 37; (with_reducible refine (hI1.out _ (by omega) (by omega) hG.out).mono ?_); rintro e2 w2 ⟨rfl, h, hr2, pm2⟩; have hH2 := Lib.hid hr2; have hP2 := Lib.hid pm2; clear hr2 pm2))
            go_end0
            exact ⟨rfl, h, hH2.out, hFin.out _ _ hP2.out (Cut.second (hM2.out h hP2.out).1 (by omega))⟩
          · have ua : (s : Int) < (m : Int) := by omega
            have ub : decide ((s : Int) < (m : Int)) = true := decide_eq_true ua
            have uc : decide (s < m) = true := decide_eq_true (by omega)
            have va : (m : Int) < (e : Int) := by omega
            have vb : decide ((m : Int) < (e : Int)) = true := decide_eq_true va
            have vc : decide (m < e) = true := decide_eq_true (by omega)
            have xa : ¬ ((a : Int) < (s : Int)) := by omega
            have xb : decide ((a : Int) < (s : Int)) = false := decide_eq_false xa
            have xc : decide (a < s) = false := decide_eq_false (by omega)
            have ya : (s : Int) < (d : Int) := by omega
            have yb : decide ((s : Int) < (d : Int)) = true := decide_eq_true ya
            have yc : decide (s < d) = true := decide_eq_true (by omega)
            have za : (d : Int) < (e : Int) := by omega
            have zb : decide ((d : Int) < (e : Int)) = true := decide_eq_true za
            have zc : decide (d < e) = true := decide_eq_true (by omega)
            have ta : ¬ ((e : Int) < (b : Int)) := by omega
            have tb : decide ((e : Int) < (b : Int)) = false := decide_eq_false ta
            have tc : decide (e < b) = false := decide_eq_false (by omega)
            go_wp2_with (first | (go_at_call 38; (with_reducible refine (hRot.out _ (by omega) (by omega) hR.out).mono ?_); rintro e1 w1 ⟨rfl, hr1⟩; have hG := Lib.hid hr1; clear hr1))
            go_end0
            exact ⟨rfl, G, hG.out, hFin.out _ _ (hM1.out (by omega)) (Cut.second (hM2.out G (hM1.out (by omega))).1 (by omega))⟩
      · by_cases kx2 : s < d
        · have ua : ¬ ((s : Int) < (m : Int)) := by omega
          have ub : decide ((s : Int) < (m : Int)) = false := decide_eq_false ua
          have uc : decide (s < m) = false := decide_eq_false (by omega)
          have va : (m : Int) < (e : Int) := by omega
          have vb : decide ((m : Int) < (e : Int)) = true := decide_eq_true va
          have vc : decide (m < e) = true := decide_eq_true (by omega)
          have xa : (a : Int) < (s : Int) := by omega
          have xb : decide ((a : Int) < (s : Int)) = true := decide_eq_true xa
          have xc : decide (a < s) = true := decide_eq_true (by omega)
          have ya : (s : Int) < (d : Int) := by omega
          have yb : decide ((s : Int) < (d : Int)) = true := decide_eq_true ya
          have yc : decide (s < d) = true := decide_eq_true (by omega)
          have za : ¬ ((d : Int) < (e : Int)) := by omega
          have zb : decide ((d : Int) < (e : Int)) = false := decide_eq_false za
          have zc : decide (d < e) = false := decide_eq_false (by omega)
          have ta : (e : Int) < (b : Int) := by omega
          have tb : decide ((e : Int) < (b : Int)) = true := decide_eq_true ta
          have tc : decide (e < b) = true := decide_eq_true (by omega)
          have hG := Lib.hid (show Row A g n c W0 wr G by rw [hRn.out (by omega)]; exact hR.out)
          go_wp2_with (first | (go_at_call 37; (with_reducible refine (hI1.out _ (by omega) (by omega) hG.out).mono ?_); rintro e2 w2 ⟨rfl, h, hr2, pm2⟩; have hH2 := Lib.hid hr2; have hP2 := Lib.hid pm2; clear hr2 pm2))
          go_end0
          exact ⟨rfl, h, hH2.out, hFin.out _ _ hP2.out (Cut.second (hM2.out h hP2.out).1 (by omega))⟩
        · have ua : ¬ ((s : Int) < (m : Int)) := by omega
          have ub : decide ((s : Int) < (m : Int)) = false := decide_eq_false ua
          have uc : decide (s < m) = false := decide_eq_false (by omega)
          have va : ¬ ((m : Int) < (e : Int)) := by omega
          have vb : decide ((m : Int) < (e : Int)) = false := decide_eq_false va
          have vc : decide (m < e) = false := decide_eq_false (by omega)
          have xa : (a : Int) < (s : Int) := by omega
          have xb : decide ((a : Int) < (s : Int)) = true := decide_eq_true xa
          have xc : decide (a < s) = true := decide_eq_true (by omega)
          have ya : ¬ ((s : Int) < (d : Int)) := by omega
          have yb : decide ((s : Int) < (d : Int)) = false := decide_eq_false ya
          have yc : decide (s < d) = false := decide_eq_false (by omega)
          have za : ¬ ((d : Int) < (e : Int)) := by omega
          have zb : decide ((d : Int) < (e : Int)) = false := decide_eq_false za
          have zc : decide (d < e) = false := decide_eq_false (by omega)
          have ta : (e : Int) < (b : Int) := by omega
          have tb : decide ((e : Int) < (b : Int)) = true := decide_eq_true ta
          have tc : decide (e < b) = true := decide_eq_true (by omega)
          have hG := Lib.hid (show Row A g n c W0 wr G by rw [hRn.out (by omega)]; exact hR.out)
          go_wp2_with (fail)
          go_end0
          exact ⟨rfl, G, hG.out, hFin.out _ _ (hM1.out (by omega)) (Cut.second (hM2.out G (hM1.out (by omega))).1 (by omega))⟩
set_option maxHeartbeats 40000000 in
set_option maxRecDepth 100000 in
theorem merges_high (A g n c F : Nat) (lb : Array Value) (W0 : World) (sg : Int → Int → Int) (lt : Int → Int → Bool) (hT : Tot n lt) (hC : Cmp F lb g n W0 sg lt) (hn : n ≤ 1024) (N : Nat) (ih : Merges A g n c F lb W0 lt N)
    (a m b d : Nat) (f : Nat → Int) (w : World) (hN : b - a ≤ N + 1) (hmb : m < b) (hb : b ≤ n) (hA : Arr n f) (hH : Halves lt a m b f) (hR : Row A g n c W0 w f) (h1 : a + 1 < m) (h2 : m + 1 < b) (d1 : 2 * d ≤ a + b) (d2 : a + b ≤ 2 * d + 1) (hmd : d < m) :
    Calls Try.prog 37 #[.slice (some ⟨g, 0, none⟩) n c, .int .i64 a, .int .i64 m, .int .i64 b, .func (.func F) #[] lb] w fun e w' => e = .returned (.tuple #[]) ∧ ∃ f', Row A g n c W0 w' f' ∧ Merged lt a b f f' := by
  have ham : a < m := by omega
  obtain ⟨p, hp⟩ : ∃ p : Nat, p + 1 = d + m := ⟨d + m - 1, by omega⟩
  have hR0 := Lib.hid hR
  have hCs := Lib.hid hC.says
  have hCg := Lib.hid hC.sign
  have eg := hC.enter
  have hAp : Hid (∀ i j, a ≤ i → i < m → m ≤ j → j < b → 0 ≤ f i ∧ f i < f j ∧ f j < n) := Lib.hid fun i j i1 i2 i3 i4 => ⟨(hA.low i (by omega)).1, hH.apart i j i1 i2 i3 i4, (hA.low j (by omega)).2⟩
  have hWin : Hid (∀ S R, Win a m b d p S R → (∀ c, S ≤ c → c < R → lt (f (p - c)) (f c) = false → ∀ k, S ≤ k → k < c + 1 → lt (f k) (f (p - k)) = true) ∧ (∀ c, S ≤ c → c < R → lt (f (p - c)) (f c) = true → ∀ k, c ≤ k → k < R → lt (f (p - k)) (f k) = true)) :=
    Lib.hid fun S R w => ⟨fun c c1 c2 hl => w.lo hT hH c c1 c2 hl, fun c c1 c2 hl => w.hi hT hH c c1 c2 hl⟩
  have hCut : Hid (∀ S R s e, Win a m b d p S R → S ≤ s → s ≤ R → (∀ k, S ≤ k → k < s → lt (f k) (f (p - k)) = true) → (∀ k, s ≤ k → k < R → lt (f (p - k)) (f k) = true) → e + s = d + m → Cut lt n a m b d s e f (rot f s m e)) := Lib.hid fun S R s e w s1 s2 lo hi he => by
    have hpt := w.parts s1 s2 lo hi
    rw [show d + m - s = e by omega] at hpt
    exact cut_of hT hH hA hb (by have := w.rd; omega) he hpt
  have hRo : Hid (∀ s e w, s < m → m < e → e ≤ n → Row A g n c W0 w f → Calls Try.prog 38 #[.slice (some ⟨g, 0, none⟩) n c, .int .i64 (s : Nat), .int .i64 m, .int .i64 (e : Nat), .func (.func F) #[] lb] w fun e' w' => e' = .returned (.tuple #[]) ∧ Row A g n c W0 w' (rot f s m e)) := Lib.hid fun s e w s1 s2 s3 hr => rotate_any A g n c s m e W0 w f _ hr s1 s2 s3 hn
  have hNo : Hid (∀ s e, s ≤ m → (s = m ∨ e = m) → rot f s m e = f) := Lib.hid fun s e hs x => by
    rcases x with x | x
    · rw [x]; exact rot_none_left f m e
    · rw [x]; exact rot_none_right f s m hs
  have hIh := Lib.hid ih
  have wm : IntKind.i64.wrap ((m : Int) - (a : Int)) = (m : Int) - (a : Int) := IntWalk.i64_in _ (by omega)
  have wd : (((m : Int) - (a : Int)) == 1) = false := by rw [beq_eq_false_iff_ne]; omega
  have wd2 : decide ((m : Int) - (a : Int) = 1) = false := decide_eq_false (by omega)
  have wm2 : IntKind.i64.wrap ((b : Int) - (m : Int)) = (b : Int) - (m : Int) := IntWalk.i64_in _ (by omega)
  have we : (((b : Int) - (m : Int)) == 1) = false := by rw [beq_eq_false_iff_ne]; omega
  have we2 : decide ((b : Int) - (m : Int) = 1) = false := decide_eq_false (by omega)
  have ws : IntKind.i64.wrap ((a : Int) + (b : Int)) = (a : Int) + (b : Int) := IntWalk.i64_in _ (by omega)
  have wu : IntKind.u64.wrap ((a : Int) + (b : Int)) = (a : Int) + (b : Int) := by rw [IntKind.wrap_u64]; omega
  have wq : ((a : Int) + (b : Int)) / 2 = (d : Int) := by omega
  have wv : IntKind.i64.wrap (d : Int) = (d : Int) := IntWalk.i64_in _ (by omega)
  have wn : IntKind.i64.wrap ((d : Int) + (m : Int)) = (d : Int) + (m : Int) := IntWalk.i64_in _ (by omega)
  have wp : IntKind.i64.wrap ((d : Int) + (m : Int) - 1) = (p : Int) := by rw [IntWalk.i64_in _ (by omega)]; omega
  have wp2 : (d : Int) + (m : Int) - 1 = (p : Int) := by omega
  obtain ⟨S, hS⟩ : ∃ S : Nat, S + b = d + m := ⟨d + m - b, by omega⟩
  have hW : Win a m b d p S d := Win.high ham hmb d2 hp hmd hS
  clear hR hC hT hA hH ih
  obtain ⟨hWlo, hWhi⟩ := hWin.out S d hW
  have hLo := Lib.hid hWlo
  have hHi := Lib.hid hWhi
  have hCu := Lib.hid (fun s e => hCut.out S d s e hW)
  obtain ⟨_, _, _, sa, sb, rm, rd, sr, _, _⟩ := hW
  clear hWlo hWhi hWin hCut
  have g1 : (d : Int) < (m : Int) := by omega
  have g3 : decide ((d : Int) < (m : Int)) = true := decide_eq_true g1
  have w9 : IntKind.i64.wrap ((d : Int) + (m : Int) - (b : Int)) = (S : Int) := by rw [IntWalk.i64_in _ (by omega)]; omega
  have w10 : (d : Int) + (m : Int) - (b : Int) = (S : Int) := by omega
  go_enter Try.func37, Try.ntmps37
  go_wp2_with fail
  go_loopw [20, 21] (fun sv rv wr => ∃ s r : Nat, S ≤ s ∧ s ≤ r ∧ r ≤ d ∧ sv = .int .i64 s ∧ rv = .int .i64 r ∧ Hid (∀ k, S ≤ k → k < s → lt (f k) (f (p - k)) = true) ∧ Hid (∀ k, r ≤ k → k < d → lt (f (p - k)) (f k) = true) ∧ Hid (Row A g n c W0 wr f)) (fun sv rv _ => (intOf rv).toNat - (intOf sv).toNat)
  case atStart => exact ⟨S, d, Nat.le_refl _, by omega, Nat.le_refl _, rfl, rfl, Lib.hid (fun k h1 h2 => by omega), Lib.hid (fun k h1 h2 => by omega), hR0⟩
  case round =>
    clear hR0
    obtain ⟨s, r, hs1, hsr, hrR, rfl, rfl, hlo, hhi, hR⟩ := hrel
    by_cases hlt : s < r
    · obtain ⟨q, hq, q1, q2⟩ := half_in hlt
      obtain ⟨t, ht⟩ : ∃ t : Nat, t + q = p := ⟨p - q, by omega⟩
      have htq := Lib.hid (show p - q = t by omega)
      have hqd : ((s : Int) + (r : Int)) / 2 = (q : Int) := by omega
      have hpt : (p : Int) - (q : Int) = (t : Int) := by omega
      have wq1 : IntKind.u64.wrap ((s : Int) + (r : Int)) = (s : Int) + (r : Int) := by rw [IntKind.wrap_u64]; omega
      have wq2 : IntKind.i64.wrap (q : Int) = (q : Int) := IntWalk.i64_in _ (by omega)
      have wq3 : IntKind.i64.wrap ((s : Int) + (r : Int)) = (s : Int) + (r : Int) := IntWalk.i64_in _ (by omega)
      have wq4 : IntKind.i64.wrap (t : Int) = (t : Int) := IntWalk.i64_in _ (by omega)
      obtain ⟨b1, b2, b3⟩ := hAp.out q t (by omega) (by omega) (by omega) (by omega)
      have c1 := hR.out.cell (k := q) (by omega)
      have c2 := hR.out.cell (k := t) (by omega)
      have nc1 := fun pn => near_cell c1 pn
      have nc2 := fun pn => near_cell c2 pn
      have hCall := Lib.hid (fun (pn : Near wr.heap.size wr) => hCs.out _ (hR.out.below pn.below).kept (f q) (f t) b1 b2 b3)
      have hSg := hCg.out (f q) (f t) b1 b2 b3
      have hRm := Lib.hid (fun (pn : Near wr.heap.size wr) => hR.out.below pn.below)
      have l1 : (q : Int) < (n : Int) := by omega
      have l2 : (t : Int) < (n : Int) := by omega
      have hd : (s : Int) < (r : Int) := by omega
      have hqL := Lib.hid (hLo.out q (by omega) (by omega))
      have hqH := Lib.hid (hHi.out q (by omega) (by omega))
      rw [htq.out] at hqL hqH
      clear hq b1 b2 b3 ht
      cases hlv : lt (f t) (f q)
      · have hH2 := Lib.hid (hqL.out hlv)
        rw [hlv] at hSg
        clear hlv hqL hqH
        generalize sg (f t) (f q) = z at *
        generalize f q = x at *
        generalize f t = y at *
        go_wp2_with fail
        refine wp_region_near (by kernel_rfl) (by kernel_rfl) ?_
        repeat (go_big_quiet_step ((go_at_fn F; with_reducible exact near_of (Nat.le_refl _) (hCall.out _))))
        refine wpQuiet_nil ?_
        rintro _ ⟨pq, rfl⟩
        go_wp2_with fail
        go_roundw
        case rel => exact ⟨q + 1, r, by omega, by omega, by omega, by go_num, rfl, hH2, hhi, Lib.hid (hRm.out _)⟩
        case measure => simp [intOf]; omega
      · have hH2 := Lib.hid (hqH.out hlv)
        rw [hlv] at hSg
        clear hlv hqL hqH
        generalize sg (f t) (f q) = z at *
        generalize f q = x at *
        generalize f t = y at *
        go_wp2_with fail
        refine wp_region_near (by kernel_rfl) (by kernel_rfl) ?_
        repeat (go_big_quiet_step ((go_at_fn F; with_reducible exact near_of (Nat.le_refl _) (hCall.out _))))
        refine wpQuiet_nil ?_
        rintro _ ⟨pq, rfl⟩
        go_wp2_with fail
        go_roundw
        case rel => exact ⟨s, q, by omega, by omega, by omega, rfl, rfl, hlo, hH2, Lib.hid (hRm.out _)⟩
        case measure => simp [intOf]; omega
    · obtain rfl : s = r := by omega
      obtain ⟨e, he⟩ : ∃ e : Nat, e + s = d + m := ⟨d + m - s, by omega⟩
      have hK := hCu.out s e hs1 hrR hlo.out hhi.out he
      have hRot := Lib.hid (fun w' x1 x2 hr => hRo.out s e w' x1 x2 (Nat.le_trans hK.eb hb) hr)
      have hRn := Lib.hid (hNo.out s e hK.hs)
      have y0 := hK.ha
      have y1 := hK.hs
      have y2 := hK.eb
      generalize rot f s m e = G at *
      have hM1 := Lib.hid hK.first
      have hM2 := Lib.hid (fun h pm => hK.next (h := h) pm hb (by omega))
      have hFin := Lib.hid (fun h i pm qm => hK.done (h := h) (i := i) pm qm (by omega))
      have hI1 := Lib.hid (fun w' x1 x2 hr => hIh.out a s d G w' (by omega) x1 x2 (by omega) hK.arr hK.one hr)
      have hI2 := Lib.hid (fun h w' x1 x2 (pm : Merged lt a d G h) hr => hIh.out d e b h w' (by omega) x1 x2 hb (hM2.out h pm).2 (hM2.out h pm).1 hr)
      clear hlo hhi hK hLo hHi hCu hAp hCs hCg
      have wee : IntKind.i64.wrap ((d : Int) + (m : Int) - (s : Int)) = (e : Int) := by rw [IntWalk.i64_in _ (by omega)]; omega
      have wef : (d : Int) + (m : Int) - (s : Int) = (e : Int) := by omega
      by_cases kx2 : s < d
      · by_cases kzb : e < b
        · by_cases kya : a < s
          · have ua : (s : Int) < (m : Int) := by omega
            have ub : decide ((s : Int) < (m : Int)) = true := decide_eq_true ua
            have uc : decide (s < m) = true := decide_eq_true (by omega)
            have va : (m : Int) < (e : Int) := by omega
            have vb : decide ((m : Int) < (e : Int)) = true := decide_eq_true va
            have vc : decide (m < e) = true := decide_eq_true (by omega)
            have xa : (a : Int) < (s : Int) := by omega
            have xb : decide ((a : Int) < (s : Int)) = true := decide_eq_true xa
            have xc : decide (a < s) = true := decide_eq_true (by omega)
            have ya : (s : Int) < (d : Int) := by omega
            have yb : decide ((s : Int) < (d : Int)) = true := decide_eq_true ya
            have yc : decide (s < d) = true := decide_eq_true (by omega)
            have za : (d : Int) < (e : Int) := by omega
            have zb : decide ((d : Int) < (e : Int)) = true := decide_eq_true za
            have zc : decide (d < e) = true := decide_eq_true (by omega)
            have ta : (e : Int) < (b : Int) := by omega
            have tb : decide ((e : Int) < (b : Int)) = true := decide_eq_true ta
            have tc : decide (e < b) = true := decide_eq_true (by omega)
            go_wp2_with (first | (go_at_call 38; (with_reducible refine (hRot.out _ (by omega) (by omega) hR.out).mono ?_); rintro e1 w1 ⟨rfl, hr1⟩; have hG := Lib.hid hr1; clear hr1) | (go_at_call 37; (with_reducible refine (hI1.out _ (by omega) (by omega) hG.out).mono ?_); rintro e2 w2 ⟨rfl, h, hr2, pm2⟩; have hH2 := Lib.hid hr2; have hP2 := Lib.hid pm2; clear hr2 pm2) | (go_at_call 37; (with_reducible refine (hI2.out h _ (by omega) (by omega) hP2.out hH2.out).mono ?_); rintro e3 w3 ⟨rfl, i, hr3, pm3⟩; have hH3 := Lib.hid hr3; have hP3 := Lib.hid pm3; clear hr3 pm3))
            go_end0
            exact ⟨rfl, i, hH3.out, hFin.out _ _ hP2.out hP3.out⟩
          · have ua : (s : Int) < (m : Int) := by omega
            have ub : decide ((s : Int) < (m : Int)) = true := decide_eq_true ua
            have uc : decide (s < m) = true := decide_eq_true (by omega)
            have va : (m : Int) < (e : Int) := by omega
            have vb : decide ((m : Int) < (e : Int)) = true := decide_eq_true va
            have vc : decide (m < e) = true := decide_eq_true (by omega)
            have xa : ¬ ((a : Int) < (s : Int)) := by omega
            have xb : decide ((a : Int) < (s : Int)) = false := decide_eq_false xa
            have xc : decide (a < s) = false := decide_eq_false (by omega)
            have ya : (s : Int) < (d : Int) := by omega
            have yb : decide ((s : Int) < (d : Int)) = true := decide_eq_true ya
            have yc : decide (s < d) = true := decide_eq_true (by omega)
            have za : (d : Int) < (e : Int) := by omega
            have zb : decide ((d : Int) < (e : Int)) = true := decide_eq_true za
            have zc : decide (d < e) = true := decide_eq_true (by omega)
            have ta : (e : Int) < (b : Int) := by omega
            have tb : decide ((e : Int) < (b : Int)) = true := decide_eq_true ta
            have tc : decide (e < b) = true := decide_eq_true (by omega)
            go_wp2_with (first | (go_at_call 38; (with_reducible refine (hRot.out _ (by omega) (by omega) hR.out).mono ?_); rintro e1 w1 ⟨rfl, hr1⟩; have hG := Lib.hid hr1; clear hr1) | (go_at_call 37; (with_reducible refine (hI2.out G _ (by omega) (by omega) (hM1.out (by omega)) hG.out).mono ?_); rintro e3 w3 ⟨rfl, i, hr3, pm3⟩; have hH3 := Lib.hid hr3; have hP3 := Lib.hid pm3; clear hr3 pm3))
            go_end0
            exact ⟨rfl, i, hH3.out, hFin.out _ _ (hM1.out (by omega)) hP3.out⟩
        · by_cases kya : a < s
          · have ua : (s : Int) < (m : Int) := by omega
            have ub : decide ((s : Int) < (m : Int)) = true := decide_eq_true ua
            have uc : decide (s < m) = true := decide_eq_true (by omega)
            have va : (m : Int) < (e : Int) := by omega
            have vb : decide ((m : Int) < (e : Int)) = true := decide_eq_true va
            have vc : decide (m < e) = true := decide_eq_true (by omega)
            have xa : (a : Int) < (s : Int) := by omega
            have xb : decide ((a : Int) < (s : Int)) = true := decide_eq_true xa
            have xc : decide (a < s) = true := decide_eq_true (by omega)
            have ya : (s : Int) < (d : Int) := by omega
            have yb : decide ((s : Int) < (d : Int)) = true := decide_eq_true ya
            have yc : decide (s < d) = true := decide_eq_true (by omega)
            have za : (d : Int) < (e : Int) := by omega
            have zb : decide ((d : Int) < (e : Int)) = true := decide_eq_true za
            have zc : decide (d < e) = true := decide_eq_true (by omega)
            have ta : ¬ ((e : Int) < (b : Int)) := by omega
            have tb : decide ((e : Int) < (b : Int)) = false := decide_eq_false ta
            have tc : decide (e < b) = false := decide_eq_false (by omega)
            go_wp2_with (first | (go_at_call 38; (with_reducible refine (hRot.out _ (by omega) (by omega) hR.out).mono ?_); rintro e1 w1 ⟨rfl, hr1⟩; have hG := Lib.hid hr1; clear hr1) | (go_at_call 37; (with_reducible refine (hI1.out _ (by omega) (by omega) hG.out).mono ?_); rintro e2 w2 ⟨rfl, h, hr2, pm2⟩; have hH2 := Lib.hid hr2; have hP2 := Lib.hid pm2; clear hr2 pm2))
            go_end0
            exact ⟨rfl, h, hH2.out, hFin.out _ _ hP2.out (Cut.second (hM2.out h hP2.out).1 (by omega))⟩
          · have ua : (s : Int) < (m : Int) := by omega
            have ub : decide ((s : Int) < (m : Int)) = true := decide_eq_true ua
            have uc : decide (s < m) = true := decide_eq_true (by omega)
            have va : (m : Int) < (e : Int) := by omega
            have vb : decide ((m : Int) < (e : Int)) = true := decide_eq_true va
            have vc : decide (m < e) = true := decide_eq_true (by omega)
            have xa : ¬ ((a : Int) < (s : Int)) := by omega
            have xb : decide ((a : Int) < (s : Int)) = false := decide_eq_false xa
            have xc : decide (a < s) = false := decide_eq_false (by omega)
            have ya : (s : Int) < (d : Int) := by omega
            have yb : decide ((s : Int) < (d : Int)) = true := decide_eq_true ya
            have yc : decide (s < d) = true := decide_eq_true (by omega)
            have za : (d : Int) < (e : Int) := by omega
            have zb : decide ((d : Int) < (e : Int)) = true := decide_eq_true za
            have zc : decide (d < e) = true := decide_eq_true (by omega)
            have ta : ¬ ((e : Int) < (b : Int)) := by omega
            have tb : decide ((e : Int) < (b : Int)) = false := decide_eq_false ta
            have tc : decide (e < b) = false := decide_eq_false (by omega)
            go_wp2_with (first | (go_at_call 38; (with_reducible refine (hRot.out _ (by omega) (by omega) hR.out).mono ?_); rintro e1 w1 ⟨rfl, hr1⟩; have hG := Lib.hid hr1; clear hr1))
            go_end0
            exact ⟨rfl, G, hG.out, hFin.out _ _ (hM1.out (by omega)) (Cut.second (hM2.out G (hM1.out (by omega))).1 (by omega))⟩
      · have ua : (s : Int) < (m : Int) := by omega
        have ub : decide ((s : Int) < (m : Int)) = true := decide_eq_true ua
        have uc : decide (s < m) = true := decide_eq_true (by omega)
        have va : ¬ ((m : Int) < (e : Int)) := by omega
        have vb : decide ((m : Int) < (e : Int)) = false := decide_eq_false va
        have vc : decide (m < e) = false := decide_eq_false (by omega)
        have xa : (a : Int) < (s : Int) := by omega
        have xb : decide ((a : Int) < (s : Int)) = true := decide_eq_true xa
        have xc : decide (a < s) = true := decide_eq_true (by omega)
        have ya : ¬ ((s : Int) < (d : Int)) := by omega
        have yb : decide ((s : Int) < (d : Int)) = false := decide_eq_false ya
        have yc : decide (s < d) = false := decide_eq_false (by omega)
        have za : (d : Int) < (e : Int) := by omega
        have zb : decide ((d : Int) < (e : Int)) = true := decide_eq_true za
        have zc : decide (d < e) = true := decide_eq_true (by omega)
        have ta : (e : Int) < (b : Int) := by omega
        have tb : decide ((e : Int) < (b : Int)) = true := decide_eq_true ta
        have tc : decide (e < b) = true := decide_eq_true (by omega)
        have hG := Lib.hid (show Row A g n c W0 wr G by rw [hRn.out (by omega)]; exact hR.out)
        go_wp2_with (first | (go_at_call 37; (with_reducible refine (hI2.out G _ (by omega) (by omega) (hM1.out (by omega)) hG.out).mono ?_); rintro e3 w3 ⟨rfl, i, hr3, pm3⟩; have hH3 := Lib.hid hr3; have hP3 := Lib.hid pm3; clear hr3 pm3))
        go_end0
        exact ⟨rfl, i, hH3.out, hFin.out _ _ (hM1.out (by omega)) hP3.out⟩
theorem merges_step (A g n c F : Nat) (lb : Array Value) (W0 : World) (sg : Int → Int → Int) (lt : Int → Int → Bool) (hT : Tot n lt) (hC : Cmp F lb g n W0 sg lt) (hn : n ≤ 1024) (N : Nat) (ih : Merges A g n c F lb W0 lt N) : Merges A g n c F lb W0 lt (N + 1) := by
  intro a m b f w hN ham hmb hb hA hH hR
  by_cases h1 : m ≤ a + 1
  · exact symMerge_one A g n c a m b F lb W0 w f sg lt hT hC hR ham h1 hmb hb hn hA.low hH
  by_cases h2 : b ≤ m + 1
  · exact symMerge_last A g n c a m b F lb W0 w f sg lt hT hC hR (by omega) hmb h2 hb hn hA.low hH
  obtain ⟨d, d1, d2⟩ : ∃ d : Nat, 2 * d ≤ a + b ∧ a + b ≤ 2 * d + 1 := ⟨(a + b) / 2, by omega, by omega⟩
  by_cases h : m ≤ d
  · exact merges_low A g n c F lb W0 sg lt hT hC hn N ih a m b d f w hN hmb hb hA hH hR (by omega) (by omega) d1 d2 h
  · exact merges_high A g n c F lb W0 sg lt hT hC hn N ih a m b d f w hN hmb hb hA hH hR (by omega) (by omega) d1 d2 (by omega)
theorem merges_all (A g n c F : Nat) (lb : Array Value) (W0 : World) (sg : Int → Int → Int) (lt : Int → Int → Bool) (hT : Tot n lt) (hC : Cmp F lb g n W0 sg lt) (hn : n ≤ 1024) : ∀ N, Merges A g n c F lb W0 lt N
  | 0 => fun a m b f w hN ham hmb => by omega
  | N + 1 => merges_step A g n c F lb W0 sg lt hT hC hn N (merges_all A g n c F lb W0 sg lt hT hC hn N)
end Go.Proofs.Ytmnogipmpojoaaa
