/- Loads, servers and chances that an input can choose: what the law on waits asks of them, reckoned case by case. No condition. -/
import Derived.Test.YtncbohecppdfnaaWaited
namespace Go.Proofs.Ytncbohecppdfnaa
open Go.RowKit Go.Lst FloatKit

def force (n : Nat) (f : Nat → Bool) : Bool := match n with
  | 0 => f 0
  | m + 1 => f (m + 1)
theorem force_is (n : Nat) (f : Nat → Bool) : force n f = f n := by cases n <;> rfl
/-- The load that the number A chooses, and the chance that C chooses. -/
def ldF (A : Nat) : Nat := fop .quo .f32 (floatOfInt .f32 ((A : Int) + 1)) 1082130432
def chF (C : Nat) : Nat := fop .quo .f32 (floatOfInt .f32 ((C : Int) + 1)) 1098907648
def lt32 (x y : Nat) : Bool := FloatKind.f32.format.order x y == some Ordering.lt
def gt32 (x y : Nat) : Bool := FloatKind.f32.format.order x y == some Ordering.gt
def gt64 (x y : Nat) : Bool := FloatKind.f64.format.order x y == some Ordering.gt
def nn32 (x : Nat) : Bool := !(isNaN Ieee.single x)
def nn64 (x : Nat) : Bool := !(isNaN Ieee.double x)
/-- The greater one of two differences. -/
def maxM (s t : Nat) : Nat := match Ieee.double.order s t with
  | some .gt => s
  | some .eq => if (FloatKind.f64.decode s).neg then t else s
  | _ => t
/-- What the law asks of two numbers whose gap is small. -/
def gapOk (x y : Nat) : Bool := force (fop .sub .f64 x y) fun s => force (fop .sub .f64 y x) fun t => nn64 s && (nn64 t && !gt64 (maxM s t) 4562254508917369340)
def stepF (L k a : Nat) : Nat := fop .quo .f32 (fop .mul .f32 L a) (fop .add .f32 (floatOfInt .f32 ((k : Int) + 1)) (fop .mul .f32 L a))
def waitV (L a : Nat) (n : Nat) : Nat := fop .quo .f32 a (fop .sub .f32 1065353216 (fop .mul .f32 (fop .quo .f32 L (floatOfInt .f32 (n : Int))) (fop .sub .f32 1065353216 a)))
def meanV (L W : Nat) (n : Nat) : Nat := fop .quo .f32 W (fop .sub .f32 (floatOfInt .f32 (n : Int)) L)
/-- The first part: of being sent away. -/
def partA (L n a b : Nat) : Bool :=
  nn32 a && (nn32 b && (!lt32 a 0 && (!gt32 a 1065353216 && (!gt32 b a &&
    (force (widen L) fun l => force (widen a) fun x => force (widen b) fun y => force (fop .mul .f64 l x) fun m => force (fop .add .f64 (floatOfInt .f64 ((n : Int) + 1)) m) fun s => force (fop .mul .f64 y s) fun p =>
      nn64 m && (nn64 s && (nn64 p && gapOk p m)))))))
/-- The second part: of waiting. -/
def partB (L n a b : Nat) : Bool :=
  force (waitV L a n) fun w => force (waitV L b (n + 1)) fun w2 => force (meanV L w n) fun m => force (meanV L w2 (n + 1)) fun m2 =>
    above L ((n : Int) + 1) && (nn32 w && (nn32 w2 && (nn32 m && (nn32 m2 && (!lt32 w a &&
      (force (widen w) fun x => force (widen w2) fun x2 => force (widen m) fun y => force (widen m2) fun y2 => force (widen L) fun l =>
        !gt64 x 4607186922399644778 && (force (fop .add .f64 x 4532020583610935537) fun s => nn64 s && (!gt64 x2 s && (force (fop .add .f64 y 4532020583610935537) fun t => nn64 t && (!gt64 y2 t &&
          (force (fop .sub .f64 (floatOfInt .f64 (n : Int)) l) fun d => force (fop .mul .f64 y d) fun q => nn64 d && (nn64 q && gapOk q x))))))))))))
def partN (L n a b : Nat) : Bool := partA L n a b && ((above L (n : Int) == lt32 L (floatOfInt .f32 (n : Int))) && (!above L (n : Int) || partB L n a b))
def rowW (L : Nat) : Nat → Nat → Nat → Bool
  | 0, _, _ => true
  | f + 1, k, a => force (stepF L k a) fun b => partN L k a b && rowW L f (k + 1) b
def loadW (A : Nat) : Bool := force (ldF A) fun L => okLoad L && (nn32 L && force (stepF L 0 1065353216) fun a => rowW L 20 1 a)
theorem loads1 : ∀ A, A < 10 → loadW A = true := by decide +kernel
theorem loads2 : ∀ A, A < 10 → loadW (A + 10) = true := by decide +kernel
theorem loads3 : ∀ A, A < 10 → loadW (A + 20) = true := by decide +kernel
theorem loads4 : ∀ A, A < 10 → loadW (A + 30) = true := by decide +kernel
theorem loads (A : Nat) (h : A < 40) : loadW A = true := by
  rcases (show A < 10 ∨ (10 ≤ A ∧ A < 20) ∨ (20 ≤ A ∧ A < 30) ∨ 30 ≤ A by omega) with h | ⟨h1, h2⟩ | ⟨h1, h2⟩ | h1
  · exact loads1 A h
  · have := loads2 (A - 10) (by omega)
    rwa [show A - 10 + 10 = A by omega] at this
  · have := loads3 (A - 20) (by omega)
    rwa [show A - 20 + 20 = A by omega] at this
  · have := loads4 (A - 30) (by omega)
    rwa [show A - 30 + 30 = A by omega] at this
theorem row_is (L : Nat) : ∀ f k, rowW L f k (blockF L k) = true → ∀ n, k ≤ n → n < k + f → partN L n (blockF L n) (blockF L (n + 1)) = true
  | 0, k, _, n, h1, h2 => by omega
  | f + 1, k, h, n, h1, h2 => by
    unfold rowW at h
    rw [force_is, Bool.and_eq_true] at h
    by_cases e : n = k
    · rw [e]; exact h.1
    · exact row_is L f (k + 1) h.2 n (by omega) (by omega)
theorem load_is {A : Nat} (h : A < 40) : okLoad (ldF A) = true ∧ nn32 (ldF A) = true ∧ ∀ n, 1 ≤ n → n < 21 → partN (ldF A) n (blockF (ldF A) n) (blockF (ldF A) (n + 1)) = true := by
  have := loads A h
  unfold loadW at this
  rw [force_is, force_is, Bool.and_eq_true, Bool.and_eq_true] at this
  exact ⟨this.1, this.2.1, fun n h1 h2 => row_is (ldF A) 20 1 this.2.2 n h1 (by omega)⟩
/-- Enough servers for every chance. -/
def lastW (L : Nat) : Nat → Nat → Nat → Bool
  | 0, k, a => force (waitV L a k) fun w => above L (k : Int) && ((List.range 15).all fun C => atMost w (chF C))
  | f + 1, k, a => force (stepF L k a) fun b => lastW L f (k + 1) b
def loadS (A : Nat) : Bool := force (ldF A) fun L => lastW L 30 0 1065353216
theorem last_all : ∀ A, A < 40 → loadS A = true := by decide +kernel
theorem chances : ∀ C, C < 15 → (shareF (chF C) && nn32 (chF C)) = true := by decide +kernel
theorem last_is (L : Nat) : ∀ f k, lastW L f k (blockF L k) = true → above L ((k + f : Nat) : Int) = true ∧ ∀ C, C < 15 → atMost (waitF L (k + f)) (chF C) = true
  | 0, k, h => by
    unfold lastW at h
    rw [force_is, Bool.and_eq_true, List.all_eq_true] at h
    exact ⟨h.1, fun C hC => h.2 C (List.mem_range.2 hC)⟩
  | f + 1, k, h => by
    unfold lastW at h
    rw [force_is] at h
    have := last_is L f (k + 1) h
    rwa [show k + 1 + f = k + (f + 1) by omega] at this
theorem find_some {f : Nat → Bool} {n : Nat} : ∀ m, m < n → f (m + 1) = true → ∃ k, k < n ∧ findFrom f n 0 = k + 1 ∧ f (k + 1) = true ∧ ∀ j, j < k → f (j + 1) = false := by
  have key : ∀ m, (∀ j, j < m → f (j + 1) = false) ∨ ∃ k, k < m ∧ f (k + 1) = true ∧ ∀ j, j < k → f (j + 1) = false := by
    intro m
    induction m with
    | zero => exact .inl fun j hj => by omega
    | succ m ih =>
      rcases ih with h | ⟨k, hk, h1, h2⟩
      · cases e : f (m + 1)
        · refine .inl fun j hj => ?_
          by_cases c : j = m
          · rw [c]; exact e
          · exact h j (by omega)
        · exact .inr ⟨m, by omega, e, h⟩
      · exact .inr ⟨k, by omega, h1, h2⟩
  intro m hm hf
  rcases key (m + 1) with h | ⟨k, hk, h1, h2⟩
  · have := h m (by omega)
    rw [hf] at this; cases this
  · exact ⟨k, by omega, find_yes (by omega) h2 h1, h1, h2⟩
theorem small_real {x : Nat} (h : x < 2139095040) : isNaN Ieee.single x = false := finite_nan (word_finite h)
/-- The staff that the law is told. -/
theorem staff_is {A C : Nat} (hA : A < 40) (hC : C < 15) : ∃ k, k < 96 ∧ staffN (ldF A) (chF C) = k + 1 ∧ canWait (ldF A) ((k + 1 : Nat) : Int) = true ∧ gt32 (waitF (ldF A) (k + 1)) (chF C) = false ∧ (canWait (ldF A) (k : Int) = true → gt32 (waitF (ldF A) k) (chF C) = true) := by
  obtain ⟨l1, l2, -⟩ := load_is hA
  have hs := chances C hC
  rw [Bool.and_eq_true] at hs
  have hl := last_all A hA
  unfold loadS at hl
  rw [force_is] at hl
  obtain ⟨b1, b2⟩ := last_is (ldF A) 30 0 hl
  rw [Nat.zero_add] at b1 b2
  have hfit : fitsK (ldF A) (chF C) (29 + 1) = true := by rw [fits_is l1 (by omega), b2 C hC, Bool.and_true]; exact b1
  obtain ⟨k, hk, e, f1, f2⟩ := find_some (f := fitsK (ldF A) (chF C)) (n := 96) 29 (by omega) hfit
  have hc : isNaN Ieee.single (chF C) = false := by
    have := hs.2
    unfold nn32 at this
    simpa using this
  have hf1 := f1
  unfold fitsK at hf1
  rw [Bool.and_eq_true] at hf1
  refine ⟨k, hk, by unfold staffN; rw [if_pos hs.1]; exact e, hf1.1, ?_, fun hw => ?_⟩
  · have := hf1.2
    unfold atMost at this
    unfold gt32
    cases q : FloatKind.f32.format.order (waitF (ldF A) (k + 1)) (chF C) with
    | none => rfl
    | some o =>
      rw [q] at this
      cases o
      · rfl
      · rfl
      · cases this
  · obtain ⟨k', rfl⟩ : ∃ k', k = k' + 1 := by
      refine ⟨k - 1, ?_⟩
      have h0 := hw
      unfold canWait at h0
      rw [Bool.and_eq_true] at h0
      have := (canServe_of h0.1).2.1
      omega
    have hn := f2 k' (by omega)
    unfold fitsK at hn
    rw [hw, Bool.true_and] at hn
    have hlw : ldF A < 4294967296 := by
      have hb : ∀ A, A < 40 → ldF A < 4294967296 := by decide +kernel
      exact hb A hA
    obtain ⟨m, hm, _, hwl, _⟩ := wait_words hlw hw
    obtain rfl : k' + 1 = m := by omega
    have hreal := small_real hwl
    clear hfit b1 b2 e f1 f2 hf1 hl hw
    generalize waitF (ldF A) (k' + 1) = w at *
    generalize chF C = c at *
    unfold atMost at hn
    unfold gt32
    have h1 := (order_total hreal hc).1
    rw [Bool.or_eq_false_iff] at hn
    rw [show Ieee.single.order w c = FloatKind.f32.format.order w c from rfl, hn.1, hn.2, Bool.or_false] at h1
    exact h1
end Go.Proofs.Ytncbohecppdfnaa
