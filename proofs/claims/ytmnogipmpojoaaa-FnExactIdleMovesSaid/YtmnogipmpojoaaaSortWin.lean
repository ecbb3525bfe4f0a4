/- Where a merge parts its halves: pure facts. -/
import Derived.Test.YtmnogipmpojoaaaSortPure
namespace Go.Proofs.Ytmnogipmpojoaaa.Srt

/-- The places among which the parting place is searched; d is the middle, p the sum of two places that are compared. -/
structure Win (a m b d p S R : Nat) : Prop where
  am : a < m
  mb : m < b
  pp : p + 1 = d + m
  sa : a ≤ S
  sb : d + m ≤ S + b
  rm : R ≤ m
  rd : R ≤ d
  sr : S ≤ R
  so : S = a ∨ S + b = d + m
  ro : R = m ∨ R = d
theorem Win.low {a m b d p : Nat} (h1 : a < m) (h2 : m < b) (d1 : 2 * d ≤ a + b) (hp : p + 1 = d + m) (h : m ≤ d) : Win a m b d p a m := ⟨h1, h2, hp, Nat.le_refl _, by omega, Nat.le_refl _, h, by omega, .inl rfl, .inl rfl⟩
theorem Win.high {a m b d p S : Nat} (h1 : a < m) (h2 : m < b) (d2 : a + b ≤ 2 * d + 1) (hp : p + 1 = d + m) (h : d < m) (hS : S + b = d + m) : Win a m b d p S d := ⟨h1, h2, hp, by omega, by omega, by omega, Nat.le_refl _, by omega, .inr hS, .inr rfl⟩
theorem Win.lo {lt : Int → Int → Bool} {n a m b d p S R : Nat} {f : Nat → Int} (hT : Tot n lt) (hH : Halves lt a m b f) (w : Win a m b d p S R) (c : Nat) (c1 : S ≤ c) (c2 : c < R) (hl : lt (f (p - c)) (f c) = false) :
    ∀ k, S ≤ k → k < c + 1 → lt (f k) (f (p - k)) = true := fun k k1 k2 => by
  obtain ⟨am, mb, pp, sa, sb, rm, rd, sr, so, ro⟩ := w
  have h1 := hT.of_not hl (by have := hH.apart c (p - c) (by omega) (by omega) (by omega) (by omega); omega)
  by_cases e : k = c
  · rw [e]; exact h1
  · exact hT.tr _ _ _ (hH.left k c (by omega) (by omega) (by omega)) (hT.tr _ _ _ h1 (hH.right (p - c) (p - k) (by omega) (by omega) (by omega)))
theorem Win.hi {lt : Int → Int → Bool} {n a m b d p S R : Nat} {f : Nat → Int} (hT : Tot n lt) (hH : Halves lt a m b f) (w : Win a m b d p S R) (c : Nat) (c1 : S ≤ c) (c2 : c < R) (hl : lt (f (p - c)) (f c) = true) :
    ∀ k, c ≤ k → k < R → lt (f (p - k)) (f k) = true := fun k k1 k2 => by
  obtain ⟨am, mb, pp, sa, sb, rm, rd, sr, so, ro⟩ := w
  by_cases e : k = c
  · rw [e]; exact hl
  · exact hT.tr _ _ _ (hH.right (p - k) (p - c) (by omega) (by omega) (by omega)) (hT.tr _ _ _ hl (hH.left c k (by omega) (by omega) (by omega)))
theorem Win.parts {lt : Int → Int → Bool} {a m b d p S R s : Nat} {f : Nat → Int} (w : Win a m b d p S R) (s1 : S ≤ s) (s2 : s ≤ R) (lo : ∀ k, S ≤ k → k < s → lt (f k) (f (p - k)) = true) (hi : ∀ k, s ≤ k → k < R → lt (f (p - k)) (f k) = true) :
    Parts lt a m b s (d + m - s) f := by
  obtain ⟨am, mb, pp, sa, sb, rm, rd, sr, so, ro⟩ := w
  refine ⟨by omega, by omega, by omega, by omega, fun h1 h2 => ?_, fun h1 h2 => ?_⟩
  · have := lo (s - 1) (by omega) (by omega)
    rw [show p - (s - 1) = d + m - s by omega] at this
    exact this
  · have := hi s (Nat.le_refl _) (by omega)
    rw [show p - s = d + m - s - 1 by omega] at this
    exact this
/-- What is known where the halves are parted at s and e. -/
structure Cut (lt : Int → Int → Bool) (n a m b d s e : Nat) (f g : Nat → Int) : Prop where
  ha : a ≤ s
  hs : s ≤ m
  hd : s ≤ d
  he : e + s = d + m
  eb : e ≤ b
  re : Re a b f g
  arr : Arr n g
  one : Halves lt a s d g
  two : Halves lt d e b g
  less : ∀ i j, a ≤ i → i < d → d ≤ j → j < b → lt (g i) (g j) = true
theorem cut_of {lt : Int → Int → Bool} {n a m b d s e : Nat} {f : Nat → Int} (hT : Tot n lt) (hH : Halves lt a m b f) (hA : Arr n f) (hb : b ≤ n) (hs : s ≤ d) (hse : e + s = d + m) (p : Parts lt a m b s e f) : Cut lt n a m b d s e f (rot f s m e) := by
  obtain ⟨x1, x2, x3⟩ := rot_parts hT hH p (d := d) (by have := p.e1; omega)
  have r : Re s e f (rot f s m e) := Re.rot f p.s2 p.e1
  exact ⟨p.s1, p.s2, hs, hse, p.e2, r.wide p.s1 p.e2, hA.re r (Nat.le_trans p.e2 hb), x1, x2, x3⟩
theorem Cut.first {lt : Int → Int → Bool} {n a m b d s e : Nat} {f g : Nat → Int} (c : Cut lt n a m b d s e f g) (h : s = a ∨ s = d) : Merged lt a d g g := by
  have h1 := c.one
  rcases h with h | h
  · rw [h] at h1; exact h1.done_left
  · rw [h] at h1; exact h1.done_right
theorem Cut.next {lt : Int → Int → Bool} {n a m b d s e : Nat} {f g h : Nat → Int} (c : Cut lt n a m b d s e f g) (p : Merged lt a d g h) (hn : b ≤ n) (hdb : d ≤ b) : Halves lt d e b h ∧ Arr n h :=
  ⟨c.two.re p.1 (by have := c.he; have := c.hs; omega), c.arr.re p.1 (Nat.le_trans hdb hn)⟩
theorem Cut.second {lt : Int → Int → Bool} {d e b : Nat} {h : Nat → Int} (q : Halves lt d e b h) (x : e = d ∨ e = b) : Merged lt d b h h := by
  rcases x with x | x
  · rw [x] at q; exact q.done_left
  · rw [x] at q; exact q.done_right
theorem Cut.done {lt : Int → Int → Bool} {n a m b d s e : Nat} {f g h i : Nat → Int} (c : Cut lt n a m b d s e f g) (p : Merged lt a d g h) (q : Merged lt d b h i) (hdb : d ≤ b) : Merged lt a b f i := by
  have m := merge_whole (by have := c.ha; have := c.hd; omega) hdb p q c.less
  exact ⟨c.re.trans m.1, m.2⟩
end Go.Proofs.Ytmnogipmpojoaaa.Srt
