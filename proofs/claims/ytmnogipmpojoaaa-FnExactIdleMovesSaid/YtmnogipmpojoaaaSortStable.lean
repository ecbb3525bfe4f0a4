/- Contract: the first places of a list, fewer than 40, sorted stably. Conditions: the comparison tells which of two places comes first. -/
import Derived.Test.YtmnogipmpojoaaaSortMerge
namespace Go.Proofs.Ytmnogipmpojoaaa
open Go.RowKit Go.Lst Srt Go.Shelf

namespace Srt
/-- A sorted row of all the places. -/
def Done (lt : Int → Int → Bool) (n : Nat) (f : Nat → Int) : Prop := Arr n f ∧ Sorted lt 0 n f
theorem Done.one {lt : Int → Int → Bool} {n : Nat} (hT : Tot n lt) {f g : Nat → Int} (h : Done lt n f) (k : Done lt n g) : cellsF n f = cellsF n g := cellsF_congr (sorted_one hT h.2 k.2 h.1 k.1)
theorem arr_id (n : Nat) {f : Nat → Int} (h : ∀ k, k < n → f k = (k : Int)) : Arr n f := ⟨fun k hk => by rw [h k hk]; omega, fun v hv => ⟨v, hv, h v hv⟩⟩
/-- Where the number at the place m goes, from the place j down. -/
def insC (lt : Int → Int → Bool) (f : Nat → Int) (m : Nat) : Nat → Nat
  | 0 => 0
  | j + 1 => if lt (f m) (f j) then insC lt f m j else j + 1
theorem insC_spec {lt : Int → Int → Bool} (f : Nat → Int) (m : Nat) : ∀ j, j ≤ m → (∀ k, j ≤ k → k < m → lt (f m) (f k) = true) → insC lt f m j ≤ m ∧ (0 < insC lt f m j → lt (f m) (f (insC lt f m j - 1)) = false) ∧ (∀ k, insC lt f m j ≤ k → k < m → lt (f m) (f k) = true)
  | 0, h, hk => ⟨h, fun h => by simp [insC] at h, hk⟩
  | j + 1, h, hk => by
    unfold insC
    cases e : lt (f m) (f j)
    · rw [if_neg (by simp)]
      exact ⟨h, fun _ => e, hk⟩
    · rw [if_pos rfl]
      exact insC_spec f m j (by omega) fun k k1 k2 => by
        by_cases q : k = j
        · rw [q]; exact e
        · exact hk k (by omega) k2
/-- The first m places sorted, one after another. -/
def insTo (lt : Int → Int → Bool) : Nat → Nat → Int
  | 0 => fun k => (k : Int)
  | m + 1 => toLeft (insTo lt m) m (insC lt (insTo lt m) m m)
theorem sorted_to {lt : Int → Int → Bool} {n : Nat} (hT : Tot n lt) : ∀ m, Merged lt 0 m (fun k => (k : Int)) (insTo lt m)
  | 0 => ⟨Re.refl _ _ _, fun i j h1 h2 h3 => by omega⟩
  | m + 1 => by
    obtain ⟨hr, hs⟩ := sorted_to hT m
    have hfm : insTo lt m m = (m : Int) := hr.out m (.inr (Nat.le_refl _))
    obtain ⟨c1, c2, c3⟩ := insC_spec (lt := lt) (insTo lt m) m m (Nat.le_refl _) (fun k h1 h2 => by omega)
    have hne : ∀ k, k < m → insTo lt m k ≠ insTo lt m m := fun k hk e => by
      obtain ⟨l, _, l2, e2⟩ := hr.from' k (Nat.zero_le _) hk
      rw [e2, hfm] at e
      omega
    have mg := insert_left hT hs (Nat.zero_le _) c1 (fun h0 => hT.of_not (c2 h0) (hne _ (by omega))) (fun h0 => c3 _ (Nat.le_refl _) h0)
    exact ⟨(hr.wide (Nat.le_refl _) (Nat.le_succ _)).trans mg.1, mg.2⟩
theorem insTo_done {lt : Int → Int → Bool} {n : Nat} (hT : Tot n lt) : Done lt n (insTo lt n) :=
  ⟨(arr_id n fun _ _ => rfl).re (sorted_to hT n).1 (Nat.le_refl _), (sorted_to hT n).2⟩
/-- Two sorted parts, each of its own places. -/
theorem halves_own {lt : Int → Int → Bool} {n d : Nat} {f g h : Nat → Int} (hf : ∀ k, k < n → f k = (k : Int)) (hd : d ≤ n) (p : Merged lt 0 d f g) (q : Merged lt d n g h) : Halves lt 0 d n h ∧ Arr n h := by
  have lo : ∀ k, k < d → h k = g k := fun k hk => q.1.out k (.inl hk)
  refine ⟨⟨fun i j i1 i2 i3 => ?_, q.2, fun i j i1 i2 i3 i4 => ?_⟩, ((arr_id n hf).re p.1 hd).re q.1 (Nat.le_refl _)⟩
  · rw [lo i (by omega), lo j i3]; exact p.2 i j i1 i2 i3
  · obtain ⟨l, _, l2, e⟩ := p.1.from' i i1 i2
    obtain ⟨k, k1, k2, e2⟩ := q.1.from' j i3 i4
    rw [lo i i2, e, hf l (by omega), e2, p.1.out k (.inr k1), hf k k2]
    omega
end Srt
set_option maxHeartbeats 4000000 in
set_option maxRecDepth 100000 in
theorem stable_small (A g n c F : Nat) (lb : Array Value) (W0 w : World) (f : Nat → Int) (sg : Int → Int → Int) (lt : Int → Int → Bool) (hT : Tot n lt) (hC : Cmp F lb g n W0 sg lt) (hn : n < 20) (hf : ∀ k, k < n → f k = (k : Int)) (h : Row A g n c W0 w f) :
    Calls Try.prog 35 #[.slice (some ⟨g, 0, none⟩) n c, .int .i64 n, .func (.func F) #[] lb] w fun e w' => e = .returned (.tuple #[]) ∧ ∃ f', Row A g n c W0 w' f' ∧ Srt.Done lt n f' := by
  have hI := Lib.hid (insertion_any A g n c 0 n F lb W0 w f sg lt hT hC h (Nat.zero_le _) (Nat.le_refl _) (by omega) (fun k _ h2 => hf k h2))
  have hD : Hid (∀ f', Merged lt 0 n f f' → Srt.Done lt n f') := Lib.hid fun f' m => ⟨(Srt.arr_id n hf).re m.1 (Nat.le_refl _), m.2⟩
  clear h hT hC hf
  have g1 : ¬ ((20 : Int) ≤ (n : Int)) := by omega
  have g2 : decide ((20 : Int) ≤ (n : Int)) = false := decide_eq_false g1
  have g3 : ¬ ((20 : Int) < (n : Int)) := by omega
  have g4 : decide ((20 : Int) < (n : Int)) = false := decide_eq_false g3
  rw [show ((0 : Nat) : Int) = 0 from rfl] at hI
  go_enter Try.func35, Try.ntmps35
  go_wp2_with fail
  go_loopw [7, 8] (fun av bv wr => av = .int .i64 0 ∧ bv = .int .i64 20 ∧ wr = w) (fun _ _ _ => 0)
  case atStart => exact ⟨rfl, rfl, rfl⟩
  case round =>
    obtain ⟨rfl, rfl, rfl⟩ := hrel
    go_wp2_with (go_at_call 36; (with_reducible refine hI.out.mono ?_); rintro e w' ⟨rfl, f', hr, hm⟩; have hR := Lib.hid hr; have hM := Lib.hid hm; clear hr hm)
    go_loopw [6] (fun sv wr => sv = .int .i64 20 ∧ wr = w') (fun _ _ => 0)
    case atStart => exact ⟨rfl, rfl⟩
    case round =>
      obtain ⟨rfl, rfl⟩ := hrel
      go_wp2_with fail
      go_end0
      exact ⟨rfl, f', hR.out, hD.out f' hM.out⟩
set_option maxHeartbeats 8000000 in
set_option maxRecDepth 100000 in
theorem stable_big (A g n c F : Nat) (lb : Array Value) (W0 w : World) (f : Nat → Int) (sg : Int → Int → Int) (lt : Int → Int → Bool) (hT : Tot n lt) (hC : Cmp F lb g n W0 sg lt) (hn : 20 ≤ n) (hn2 : n < 40) (hf : ∀ k, k < n → f k = (k : Int)) (h : Row A g n c W0 w f) :
    Calls Try.prog 35 #[.slice (some ⟨g, 0, none⟩) n c, .int .i64 n, .func (.func F) #[] lb] w fun e w' => e = .returned (.tuple #[]) ∧ ∃ f', Row A g n c W0 w' f' ∧ Srt.Done lt n f' := by
  have hI1 := Lib.hid (fun w' hr => insertion_any A g n c 0 20 F lb W0 w' f sg lt hT hC hr (Nat.zero_le _) hn (by omega) (fun k _ h2 => hf k (by omega)))
  have hI2 := Lib.hid (fun (f1 : Nat → Int) w' (m : Merged lt 0 20 f f1) hr => insertion_any A g n c 20 n F lb W0 w' f1 sg lt hT hC hr hn (Nat.le_refl _) (by omega) (fun k k1 h2 => (m.1.out k (.inr k1)).trans (hf k h2)))
  have hH := Lib.hid (fun (f1 f2 : Nat → Int) p q => Srt.halves_own (lt := lt) (g := f1) (h := f2) hf hn p q)
  have hMg := Lib.hid (fun (f2 : Nat → Int) w' (hlt : 20 < n) ha hh hr => merges_all A g n c F lb W0 sg lt hT hC (by omega) n 0 20 n f2 w' (by omega) (by omega) hlt (Nat.le_refl _) ha hh hr)
  have hR0 := Lib.hid h
  clear h hT hC hf
  have g1 : (20 : Int) ≤ (n : Int) := by omega
  have g2 : decide ((20 : Int) ≤ (n : Int)) = true := decide_eq_true g1
  have g3 : ¬ ((40 : Int) ≤ (n : Int)) := by omega
  have g4 : decide ((40 : Int) ≤ (n : Int)) = false := decide_eq_false g3
  have g5 : ¬ ((40 : Int) < (n : Int)) := by omega
  have g6 : decide ((40 : Int) < (n : Int)) = false := decide_eq_false g5
  rw [show ((0 : Nat) : Int) = 0 from rfl, show ((20 : Nat) : Int) = 20 from rfl] at hI1
  rw [show ((20 : Nat) : Int) = 20 from rfl] at hI2
  rw [show ((0 : Nat) : Int) = 0 from rfl, show ((20 : Nat) : Int) = 20 from rfl] at hMg
  go_enter Try.func35, Try.ntmps35
  go_wp2_with fail
  go_loopw [7, 8] (fun av bv wr => (av = .int .i64 0 ∧ bv = .int .i64 20 ∧ wr = w) ∨ (av = .int .i64 20 ∧ bv = .int .i64 40 ∧ Hid (∃ f1, Row A g n c W0 wr f1 ∧ Merged lt 0 20 f f1))) (fun _ bv _ => (40 - intOf bv).toNat)
  case atStart => exact .inl ⟨rfl, rfl, rfl⟩
  case round =>
    rcases hrel with ⟨rfl, rfl, rfl⟩ | ⟨rfl, rfl, hX⟩
    · go_wp2_with (go_at_call 36; (with_reducible refine (hI1.out _ hR0.out).mono ?_); rintro e w' ⟨rfl, f', hr, hm⟩; have hR := Lib.hid hr; have hM := Lib.hid hm; clear hr hm)
      go_roundw
      case rel => exact .inr ⟨rfl, rfl, Lib.hid ⟨f', hR.out, hM.out⟩⟩
      case measure => simp [intOf]
    · obtain ⟨f1, r1, m1⟩ := hX.out
      have hR1 := Lib.hid r1
      have hM1 := Lib.hid m1
      clear hX r1 m1 hR0 hI1
      by_cases hlt : 20 < n
      · have k1 : (20 : Int) < (n : Int) := by omega
        have k2 : decide ((20 : Int) < (n : Int)) = true := decide_eq_true k1
        go_wp2_with (go_at_call 36; (with_reducible refine (hI2.out f1 _ hM1.out hR1.out).mono ?_); rintro e w2 ⟨rfl, f2, hr, hm⟩; have hR2 := Lib.hid hr; have hM2 := Lib.hid hm; clear hr hm)
        have hHv := Lib.hid (hH.out f1 f2 hM1.out hM2.out)
        have hCall := Lib.hid (hMg.out f2 w2 hlt hHv.out.2 hHv.out.1 hR2.out)
        go_loopw [6] (fun sv wr => (sv = .int .i64 20 ∧ wr = w2) ∨ (sv = .int .i64 40 ∧ Hid (∃ f3, Row A g n c W0 wr f3 ∧ Srt.Done lt n f3))) (fun sv _ => (40 - intOf sv).toNat)
        case atStart => exact .inl ⟨rfl, rfl⟩
        case round =>
          rcases hrel with ⟨rfl, rfl⟩ | ⟨rfl, hX⟩
          · go_wp2_with fail
            go_loopw [7, 8] (fun av bv wr' => av = .int .i64 0 ∧ bv = .int .i64 40 ∧ wr' = wr) (fun _ _ _ => 0)
            case atStart => exact ⟨rfl, rfl, rfl⟩
            case round =>
              obtain ⟨rfl, rfl, rfl⟩ := hrel
              go_wp2_with (go_at_call 37; (with_reducible refine hCall.out.mono ?_); rintro e w3 ⟨rfl, f3, hr, hm⟩; have hR3 := Lib.hid hr; have hM3 := Lib.hid hm; clear hr hm)
              go_roundw
              case rel => exact .inr ⟨rfl, Lib.hid ⟨f3, hR3.out, hHv.out.2.re hM3.out.1 (Nat.le_refl _), hM3.out.2⟩⟩
              case measure => simp [intOf]
          · go_wp2_with fail
            go_end0
            exact ⟨rfl, hX.out⟩
      · have k1 : ¬ ((20 : Int) < (n : Int)) := by omega
        have k2 : decide ((20 : Int) < (n : Int)) = false := decide_eq_false k1
        go_wp2_with (go_at_call 36; (with_reducible refine (hI2.out f1 _ hM1.out hR1.out).mono ?_); rintro e w2 ⟨rfl, f2, hr, hm⟩; have hR2 := Lib.hid hr; have hM2 := Lib.hid hm; clear hr hm)
        have hHv := Lib.hid (hH.out f1 f2 hM1.out hM2.out)
        go_loopw [6] (fun sv wr => sv = .int .i64 20 ∧ wr = w2) (fun _ _ => 0)
        case atStart => exact ⟨rfl, rfl⟩
        case round =>
          obtain ⟨rfl, rfl⟩ := hrel
          go_wp2_with fail
          go_end0
          refine ⟨rfl, f2, hR2.out, hHv.out.2, ?_⟩
          have h20 : n = 20 := by omega
          have hl := hHv.out.1.left
          rw [← h20] at hl
          exact hl
set_option maxHeartbeats 1000000 in
theorem sortStable_any (A g n c F : Nat) (lb : Array Value) (W0 w : World) (f : Nat → Int) (sg : Int → Int → Int) (lt : Int → Int → Bool) (hT : Tot n lt) (hC : Cmp F lb g n W0 sg lt) (hn : n < 40) (hf : ∀ k, k < n → f k = (k : Int)) (h : Row A g n c W0 w f) :
    Calls Try.prog 29 #[.slice (some ⟨g, 0, none⟩) n c, .func (.func F) #[] lb] w fun e w' => e = .returned (.tuple #[]) ∧ ∃ f', Row A g n c W0 w' f' ∧ Srt.Done lt n f' := by
  have hS := Lib.hid (show Calls Try.prog 35 #[.slice (some ⟨g, 0, none⟩) n c, .int .i64 n, .func (.func F) #[] lb] w fun e w' => e = .returned (.tuple #[]) ∧ ∃ f', Row A g n c W0 w' f' ∧ Srt.Done lt n f' by
    by_cases h20 : n < 20
    · exact stable_small A g n c F lb W0 w f sg lt hT hC h20 hf h
    · exact stable_big A g n c F lb W0 w f sg lt hT hC (by omega) hn hf h)
  clear h hT hC hf
  go_enter Try.func29, Try.ntmps29
  go_wp2_with (go_at_call 35; (with_reducible refine hS.out.mono ?_); rintro e w' ⟨rfl, hx⟩; have hX := Lib.hid hx; clear hx)
  go_end0
  exact ⟨rfl, hX.out⟩
end Go.Proofs.Ytmnogipmpojoaaa
