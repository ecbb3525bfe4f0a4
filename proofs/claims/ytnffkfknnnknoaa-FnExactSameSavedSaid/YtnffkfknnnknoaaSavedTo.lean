/- A list of what is saved, copied by the law's own function. -/
import Derived.Test.YtnffkfknnnknoaaSavedS
namespace Go.Proofs.Ytnffkfknnnknoaa
open Go.RowKit Go.Lst

theorem infoSaved : (Try.prog.info? 30).map (fun i => (i.zero, i.size, i.bytes)) = some (some (.agg #[.string ⟨#[]⟩, .slice none 0 0, .slice none 0 0]), 3, 64) := by kernel_rfl
/-- The first k rows hold copies that hang on the blocks behind A alone. -/
def SavUpto (A : Nat) (w : World) (xs : List SavedD) (ys : List Value) (k : Nat) : Prop := ∀ (j : Nat) (x : SavedD), j < k → xs[j]? = some x → ∃ vt vs,
  ys[j * 3]? = some (.string x.name) ∧ ys[j * 3 + 1]? = some vt ∧ ys[j * 3 + 2]? = some vs ∧ x.name.size ≤ maxLen ∧
    ∀ w' : World, (∀ g, A + 1 ≤ g → g < w.heap.size → w'.heap[g]? = w.heap[g]?) → LstTask w.heap.size w' vt x.tasks ∧ LstI w.heap.size w' vs x.starts
theorem savUpto_step {A k n : Nat} {w w1 : World} {xs : List SavedD} {ys : List Value} {x : SavedD} {vt vs : Value} (h : SavUpto A w xs ys k) (hA : A < w.heap.size) (hx : xs[k]? = some x) (hn : xs.length = n) (hy : ys.length = n * 3) (hp : x.name.size ≤ maxLen)
    (hb : Below w.heap.size w w1) (ho : ∀ w' : World, (∀ g, w.heap.size ≤ g → g < w1.heap.size → w'.heap[g]? = w1.heap[g]?) → LstTask w1.heap.size w' vt x.tasks ∧ LstI w1.heap.size w' vs x.starts) :
    SavUpto A (setMany w1 A (k * 3) [.string x.name, vt, vs]) xs (setAll ys (k * 3) [.string x.name, vt, vs]) (k + 1) := by
  have hk : k < n := by rw [← hn]; exact (List.getElem?_eq_some_iff.1 hx).1
  have hs : (setMany w1 A (k * 3) [.string x.name, vt, vs]).heap.size = w1.heap.size := setMany_size
  have hw : ∀ g, A + 1 ≤ g → (setMany w1 A (k * 3) [.string x.name, vt, vs]).heap[g]? = w1.heap[g]? := fun g hg => setMany_block (by omega)
  have hsz := hb.size
  intro j y hj hy'
  rw [hs]
  by_cases h1 : j < k
  · obtain ⟨ut, us, y0, y1, y2, hq, hr⟩ := h j y h1 hy'
    refine ⟨ut, us, ?_, ?_, ?_, hq, fun w' hw' => ?_⟩
    · rw [setAll_before _ _ _ _ (by omega)]; exact y0
    · rw [setAll_before _ _ _ _ (by omega)]; exact y1
    · rw [setAll_before _ _ _ _ (by omega)]; exact y2
    · obtain ⟨r1, r2⟩ := hr w' fun g g1 g2 => ((hw' g g1 (by omega)).trans (hw g g1)).trans (hb.block g g2)
      exact ⟨r1.mono hsz, r2.mono hsz⟩
  · have : j = k := by omega
    subst this
    obtain rfl : x = y := by rw [hx] at hy'; exact Option.some.inj hy'
    refine ⟨vt, vs, ?_, ?_, ?_, hp, fun w' hw' => ho w' fun g g1 g2 => (hw' g (by omega) g2).trans (hw g (by omega))⟩
    · have := setAll_at ys (j * 3) [Value.string x.name, vt, vs] 0 (by simp) (by simp; omega); simpa using this
    · have := setAll_at ys (j * 3) [Value.string x.name, vt, vs] 1 (by simp) (by simp; omega); simpa using this
    · have := setAll_at ys (j * 3) [Value.string x.name, vt, vs] 2 (by simp) (by simp; omega); simpa using this
theorem savUpto_end {A C : Nat} {w : World} {v : Value} {xs : List SavedD} {ys : List Value} (ho : Own A (A + 1) w v 30 3 xs.length ys) (h : SavUpto A w xs ys xs.length) (hA : A < w.heap.size) (hC : w.heap.size = C) : OwnSavedS A C w v xs := by
  subst hC
  intro w' hs
  have ho' := ho.same (w' := w') fun g g1 g2 => hs g g1 (by omega)
  obtain ⟨a, cap, hv, hl, h1, h2, h3, hc⟩ := ho'.lstK (Nat.le_refl _)
  refine ⟨a, cap, hv, hl, h1, h2, fun k x hx => ?_⟩
  have hk : k < xs.length := (List.getElem?_eq_some_iff.1 hx).1
  obtain ⟨b, o, ha, hb, hcell⟩ := hc (by omega)
  obtain ⟨vt, vs, y0, y1, y2, hp, hr⟩ := h k x hk hx
  obtain ⟨r1, r2⟩ := hr w' fun g g1 g2 => hs g (by omega) g2
  exact ⟨b, o, vt, vs, ha, by omega, hcell _ _ y0, hcell _ _ y1, hcell _ _ y2, r1, r2, hp⟩
set_option maxHeartbeats 2000000 in
set_option maxRecDepth 100000 in
theorem toSavedS_any (B : Nat) (v : Value) (xs : List SavedD) (w : World) (h : LstSavedS B w v xs) (hB : B ≤ w.heap.size) (hlen : vsz xs ≤ 1048576) :
    Calls Try.prog 12 #[v] w fun e w' => ∃ v', e = .returned v' ∧ OwnSavedS w.heap.size w'.heap.size w' v' xs ∧ Below w.heap.size w w' := by
  obtain ⟨a, cap, rfl, hl, _, _, hc⟩ := h.at_
  obtain ⟨i0, hi, hz0, hz1, hz2⟩ := info_parts infoSaved
  have hIn : Hid (∀ (k : Nat) (x : SavedD), xs[k]? = some x → tsz x.tasks ≤ 1048576 ∧ x.starts.length ≤ 1048576) := Lib.hid fun k x hx => by
    have h1 := vin_take hx
    have h2 := vin_take_le xs (k + 1)
    unfold vsz at hlen
    unfold vone at h1
    omega
  have hlen' : xs.length ≤ 1048576 := by unfold vsz at hlen; omega
  have hStep : Hid (∀ (A k : Nat) (w w1 : World) (ys : List Value) (x : SavedD) (vt vs : Value), SavUpto A w xs ys k → A < w.heap.size → xs[k]? = some x → ys.length = xs.length * 3 → x.name.size ≤ maxLen →
      Below w.heap.size w w1 → (∀ w' : World, (∀ g, w.heap.size ≤ g → g < w1.heap.size → w'.heap[g]? = w1.heap[g]?) → LstTask w1.heap.size w' vt x.tasks ∧ LstI w1.heap.size w' vs x.starts) →
      SavUpto A (setMany w1 A (k * 3) [.string x.name, vt, vs]) xs (setAll ys (k * 3) [.string x.name, vt, vs]) (k + 1)) :=
    Lib.hid fun A k w w1 ys x vt vs p1 p2 p3 p4 p5 p6 p7 => savUpto_step p1 p2 p3 rfl p4 p5 p6 p7
  have hEnd : Hid (∀ (C : Nat) (w' : World) (v' : Value) (ys : List Value), Own w.heap.size (w.heap.size + 1) w' v' 30 3 xs.length ys → SavUpto w.heap.size w' xs ys xs.length → w.heap.size < w'.heap.size → w'.heap.size = C → OwnSavedS w.heap.size C w' v' xs) :=
    Lib.hid fun C w' v' ys p1 p2 p3 p4 => savUpto_end p1 p2 p3 p4
  generalize hn : xs.length = n at *
  unfold maxLen at hl
  have hC := Lib.hid hc
  have hNn := Lib.hid hn
  clear hn hc h
  go_enter Try.func12, Try.ntmps12
  go_wp2_with (at_make; refine wpList_make_full _ rfl _ _ _ rfl w.heap.size _ i0 (.agg #[.string ⟨#[]⟩, .slice none 0 0, .slice none 0 0]) 3 Try.underlying37 hi hz0 hz1 _ _ _ _ n rfl rfl rfl rfl ?c1 ?c2 ?c3 ?_)
  case c1 => first | (rw [hz2]; omega) | omega
  case c2 => unfold maxLen; omega
  try case c3 => exact Nat.le_refl _
  intro w0 hown0 hg0
  have hB0 := Lib.hid (show Below w.heap.size w w0 from (Below.refl _ _).grown hg0 (Nat.le_refl _) (fun k hk => by cases hk))
  have hs0 : w.heap.size < w0.heap.size := (hown0.lt _ rfl).2
  generalize (madeCells _ _).toList = ys0 at hown0
  have hO := Lib.hid hown0
  clear hown0 hg0 hz0 hz1 hz2 hi
  go_wp2
  go_loopw [4] (fun i wr => ∃ (k : Nat) (ys : List Value), k ≤ n ∧ i = .int .i64 k ∧ Hid (SavUpto w.heap.size wr xs ys k) ∧ Hid (wr.ownsRow w.heap.size 30 3 (.slice (some ⟨w.heap.size, 0, none⟩) n n) n ys) ∧ Hid (Below w.heap.size w wr) ∧ w.heap.size < wr.heap.size) (fun i _ => n - (intOf i).toNat)
  case atStart => exact ⟨0, ys0, Nat.zero_le _, rfl, Lib.hid (fun j x hj _ => absurd hj (Nat.not_lt_zero _)), hO, hB0, hs0⟩
  case round =>
    obtain ⟨k, ys, hk, rfl, hU, hO1, hB1, hs1⟩ := hrel
    by_cases hlt : k < n
    · obtain ⟨b, o, x, vt, vs, rfl, hbB, hx, h0, h1, h2, l0, l1, hp⟩ := hC.out k hlt
      rw [← hB1.out.cell (p := ⟨b, o + k * 3, none⟩) (show b < w.heap.size by omega)] at h0
      rw [← hB1.out.cell (p := ⟨b, o + k * 3 + 1, none⟩) (show b < w.heap.size by omega)] at h1
      rw [← hB1.out.cell (p := ⟨b, o + k * 3 + 2, none⟩) (show b < w.heap.size by omega)] at h2
      have hX := Lib.hid hx
      have hPp := Lib.hid hp
      have hJ := Lib.hid (toSavedD_any B (savedV x.name vt vs) x wr ⟨vt, vs, rfl, l0.below hB1.out hB, l1.below hB1.out hB⟩ (hIn.out k x hx).1 (hIn.out k x hx).2 (Nat.le_trans hB hB1.out.size))
      obtain ⟨ab, nb, rfl, _⟩ := l0.at_
      obtain ⟨al, nl, rfl, _⟩ := l1.at_
      clear l0 l1 hx hp
      go_wp2_with fail
      refine (hJ.out).mono ?_
      rintro e w1 ⟨U, rfl, hdep, hb1⟩
      obtain ⟨ut, us, hUe, _, _⟩ := hdep w1 (fun _ _ _ => rfl)
      subst hUe
      have hD := Lib.hid (show ∀ w' : World, (∀ g, wr.heap.size ≤ g → g < w1.heap.size → w'.heap[g]? = w1.heap[g]?) → LstTask w1.heap.size w' ut x.tasks ∧ LstI w1.heap.size w' us x.starts from fun w' hs => by
        obtain ⟨ut', us', he, r1, r2⟩ := hdep w' hs
        injection he with he
        injection he with he
        simp only [List.cons.injEq, Array.mk.injEq, and_true, true_and] at he
        obtain ⟨rfl, rfl⟩ := he
        exact ⟨r1, r2⟩)
      have hsl : (∃ a c, ut = .slice a x.tasks.length c) ∧ ∃ a c, us = .slice a x.starts.length c := by
        obtain ⟨r1, r2⟩ := hD.out w1 (fun _ _ _ => rfl)
        obtain ⟨a, c, rfl, -⟩ := r1
        obtain ⟨a', c', rfl, -⟩ := r2
        exact ⟨⟨a, c, rfl⟩, ⟨a', c', rfl⟩⟩
      obtain ⟨⟨q1, c1, rfl⟩, ⟨q2, c2, rfl⟩⟩ := hsl
      clear hdep hJ
      have hO2 : w1.ownsRow w.heap.size 30 3 (.slice (some ⟨w.heap.size, 0, none⟩) n n) n ys := ownsRow_kept hO1.out hb1
      have hs1' : w.heap.size < w1.heap.size := Nat.lt_of_lt_of_le hs1 hb1.size
      have hB2 := Lib.hid (below_on hB1.out (Nat.le_refl _) hb1)
      have hy := hO2.1
      obtain ⟨u0, hd0⟩ : ∃ u, w1.cell? ⟨w.heap.size, k * 3, none⟩ = some u := ⟨_, (hO2.cellAt (k * 3 + 0) (by omega)).trans (List.getElem?_eq_getElem (by omega))⟩
      have hf0' : w1.frozen? ⟨w.heap.size, k * 3, none⟩ = false := hO2.frozenAt (k * 3 + 0)
      obtain ⟨u1, hd1⟩ : ∃ u, w1.cell? ⟨w.heap.size, k * 3 + 1, none⟩ = some u := ⟨_, (hO2.cellAt (k * 3 + 1) (by omega)).trans (List.getElem?_eq_getElem (by omega))⟩
      have hf1 : w1.frozen? ⟨w.heap.size, k * 3 + 1, none⟩ = false := hO2.frozenAt (k * 3 + 1)
      obtain ⟨u2, hd2⟩ : ∃ u, w1.cell? ⟨w.heap.size, k * 3 + 2, none⟩ = some u := ⟨_, (hO2.cellAt (k * 3 + 2) (by omega)).trans (List.getElem?_eq_getElem (by omega))⟩
      have hf2 : w1.frozen? ⟨w.heap.size, k * 3 + 2, none⟩ = false := hO2.frozenAt (k * 3 + 2)
      have hst := ownsRow_setMany (j := k * 3) (us := [.string x.name, .slice q1 x.tasks.length c1, .slice q2 x.starts.length c2]) hO2
      have hB3 := Lib.hid (setMany_below (j := k * 3) (us := [.string x.name, .slice q1 x.tasks.length c1, .slice q2 x.starts.length c2]) hB2.out (Nat.le_refl w.heap.size))
      have hsz : (setMany w1 w.heap.size (k * 3) [.string x.name, .slice q1 x.tasks.length c1, .slice q2 x.starts.length c2]).heap.size = w1.heap.size := setMany_size
      have hS2 := Lib.hid (show w.heap.size < (setMany w1 w.heap.size (k * 3) [.string x.name, .slice q1 x.tasks.length c1, .slice q2 x.starts.length c2]).heap.size by rw [hsz]; exact hs1')
      have hG3 := Lib.hid (hStep.out w.heap.size k wr w1 ys x _ _ hU.out hs1 hX.out hy hPp.out hb1 hD.out)
      have hO5 := Lib.hid hst.1
      clear hst hy hO2 hb1 hU hO1 hB1 hB2 h0 h1 h2 hs1 hs1' hsz hD
      go_wp2_with fail
      go_roundw
      case rel => exact ⟨k + 1, _, by omega, by go_num, hG3, hO5, hB3, hS2.out⟩
      case measure => simp [intOf]; omega
    · have hkn : k = n := by omega
      subst hkn
      have hE := Lib.hid (hEnd.out wr.heap.size wr _ ys ⟨hO1.out, by unfold maxLen; omega, fun g hg => blk_lt hg⟩ hU.out hs1 rfl)
      go_wp2
      go_ret
      exact ⟨_, rfl, hE.out, hB1.out⟩
theorem copiedSavedS (B : Nat) (v : Value) (xs : List SavedD) (w : World) (h : LstSavedS B w v xs) (hB : B ≤ w.heap.size) (hlen : vsz xs ≤ 1048576) :
    Calls Try.prog 12 #[v] w fun e w' => ∃ v', e = .returned v' ∧ OwnSavedS w.heap.size w'.heap.size w' v' xs ∧ Below w.heap.size w w' := toSavedS_any B v xs w h hB hlen
end Go.Proofs.Ytnffkfknnnknoaa
