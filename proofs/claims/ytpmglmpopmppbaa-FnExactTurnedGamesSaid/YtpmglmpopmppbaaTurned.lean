/- Contracts: games that begin with a round. -/
import Derived.Test.YtpmglmpopmppbaaConcat
import Derived.Test.YtpmglmpopmppbaaRoundsRun
import Derived.Test.YtpmglmpopmppbaaInRows
namespace Go.Proofs.Ytpmglmpopmppbaa
open Go.RowKit Go.Lst

def turnOk (T : Int) (xs : List Int) (k : Int) : Bool := roundsOk T xs && inB k 0 ((xs.length : Int) / T - 1)
def turnL (T : Int) (xs : List Int) (k : Int) : List Int := if turnOk T xs k then xs.drop (k * T).toNat ++ xs.take (k * T).toNat else []
def twoParts (xs : List Int) (m : Nat) : Nat → List Int
  | 0 => xs.drop m
  | _ => xs.take m
theorem twoParts_cat (xs : List Int) (m : Nat) : cat (twoParts xs m) 2 = xs.drop m ++ xs.take m := by simp [cat, twoParts]
theorem turn_len (xs : List Int) (m : Nat) : (xs.drop m ++ xs.take m).length = xs.length := by simp; omega
theorem slice_from (b o n cap m : Nat) (W : World) (h1 : m < n) (h2 : n ≤ cap) :
    (Instr.slice 22 (.slice (some ⟨b, o, none⟩) n cap) (some (.int .i64 (m : Int))) none none).run Try.prog W = .ok (.slice (some ⟨b, o + m, none⟩) (n - m) (cap - m)) W := by
  have e1 : m ≤ n := by omega
  have e2 : ¬ cap = m := by omega
  simp [Instr.slice, run_underlying Try.underlying22, Instr.sliceBounds, Instr.sliceBound, asIntOf, go_sem, e1, e2]
theorem slice_to (b o n cap m : Nat) (W : World) (h1 : m < n) (h2 : n ≤ cap) :
    (Instr.slice 22 (.slice (some ⟨b, o, none⟩) n cap) none (some (.int .i64 (m : Int))) none).run Try.prog W = .ok (.slice (some ⟨b, o, none⟩) m cap) W := by
  have e1 : m ≤ cap := by omega
  have e2 : ¬ cap < m := by omega
  simp [Instr.slice, run_underlying Try.underlying22, Instr.sliceBounds, Instr.sliceBound, asIntOf, go_sem, e1, e2]
theorem areRounds_is {q : Bool} (B : Nat) (v : Value) (xs : List Int) (T : Int) (w : World) (h : LstI B w v xs) (hB : B ≤ w.heap.size) (hwf : ∀ x ∈ xs, (Lit.int .i64 x).wf = true) (hq : roundsOk T xs = q) :
    Calls Try.prog 22 #[.int .i64 T, v] w fun x w' => x = .returned (.bool q) ∧ Below w.heap.size w w' := by
  rw [← hq]; exact implAreRounds_any B v xs T w h hB hwf
set_option maxHeartbeats 4000000 in
set_option maxRecDepth 100000 in
theorem implTurned_any (B : Nat) (v : Value) (xs : List Int) (T K : Int) (w : World) (h : LstI B w v xs) (hB : B ≤ w.heap.size) (hwf : ∀ x ∈ xs, (Lit.int .i64 x).wf = true) :
    Calls Try.prog 35 #[.int .i64 T, v, .int .i64 K] w (ListPost (turnL T xs K) (turnOk T xs K) w) := by
  cases hq : roundsOk T xs
  · have hC := Lib.hid (areRounds_is B v xs T w h hB hwf hq)
    have hok : turnOk T xs K = false := by unfold turnOk; rw [hq]; rfl
    have hF : Hid (∀ w', Below w.heap.size w w' → ListPost (turnL T xs K) (turnOk T xs K) w (.returned (.tuple #[.slice none 0 0, .bool false])) w') := Lib.hid fun w' hb => list_no (by unfold turnL; rw [hok]; rfl) hok hb
    obtain ⟨a, cap, rfl, _⟩ := h.at_
    clear h hwf hok
    generalize ListPost (turnL T xs K) (turnOk T xs K) w = Q at *
    generalize xs.length = n at *
    go_enter Try.func35, Try.ntmps35
    go_wp2_with (go_at_call 22; (with_reducible refine hC.out.mono ?_); rintro e' w5 ⟨rfl, hb5⟩; have hQe := Lib.hid (hF.out _ hb5); clear hb5)
    show Q (.returned (.tuple #[_, _])) _
    exact Hid.out (by assumption)
  · obtain ⟨t, r, m, rfl, t1, t2, t3, r1, r2, hn, _, _⟩ := rounds_of hq
    clear t3
    have hC := Lib.hid (areRounds_is B v xs t w h hB hwf hq)
    have hLw := Lib.hid h
    have hok : turnOk t xs K = inB K 0 ((r : Int) - 1) := by
      unfold turnOk
      rw [hq, Bool.true_and, hn, (divB (r * t) t).1, Nat.mul_div_cancel _ (by omega)]
    have hL1 : 1 ≤ r * t := Nat.mul_pos (by omega) (by omega)
    have hL2 : r * t ≤ (2 * t - 2) * t := Nat.mul_le_mul_right t r2
    have hL3 : (2 * t - 2) * t ≤ 480 := Nat.mul_le_mul (show 2 * t - 2 ≤ 30 by omega) t2
    obtain ⟨a, cap, rfl, g1, g2, g3, _⟩ := h.at_
    obtain ⟨b, o, rfl, hbB⟩ := lstI_block h (by omega)
    have hIn := Lib.hid (fun w' => isWithin_any K 0 ((r : Int) - 1) w')
    have x3 : ((xs.length : Int)).tdiv (t : Int) = (r : Int) := by rw [hn, (divB (r * t) t).2, Nat.mul_div_cancel _ (by omega)]
    have x6 : ((t : Int) == 0) = false := by rw [beq_eq_false_iff_ne]; omega
    have x7 : ¬ (t : Int) = 0 := by omega
    have x8 : ¬ t = 0 := by omega
    have x9 : IntKind.i64.wrap (r : Int) = (r : Int) := IntWalk.i64_in _ (by omega)
    have y1 : IntKind.i64.wrap ((r : Int) - 1) = (r : Int) - 1 := IntWalk.i64_in _ (by omega)
    cases hk : inB K 0 ((r : Int) - 1)
    · rw [hk] at hok
      simp only [hk] at hIn
      have hF : Hid (∀ w', Below w.heap.size w w' → ListPost (turnL t xs K) (turnOk t xs K) w (.returned (.tuple #[.slice none 0 0, .bool false])) w') := Lib.hid fun w' hb => list_no (by unfold turnL; rw [hok]; rfl) hok hb
      generalize ListPost (turnL t xs K) (turnOk t xs K) w = Q at *
      clear h hwf hok hq hk hL1 hL2 hL3 hn
      generalize xs.length = n at *
      go_enter Try.func35, Try.ntmps35
      go_wp2_with (first | (go_at_call 22; (with_reducible refine hC.out.mono ?_); rintro e' w5 ⟨rfl, hb5⟩; have hQe := Lib.hid (hF.out _ hb5); clear hb5) | (go_at_call 59; (with_reducible refine (hIn.out _).mono ?_); rintro e' w' ⟨rfl, rfl⟩))
      show Q (.returned (.tuple #[_, _])) _
      exact Hid.out (by assumption)
    · rw [hk] at hok
      simp only [hk] at hIn
      have hk2 := hk
      unfold inB at hk2
      simp only [Bool.and_eq_true, decide_eq_true_eq] at hk2
      obtain ⟨k, rfl⟩ : ∃ k : Nat, K = (k : Int) := ⟨K.toNat, by omega⟩
      have hkr : k < r := by omega
      obtain ⟨M, hM⟩ : ∃ M, M = k * t := ⟨_, rfl⟩
      have hMn : M < xs.length := by
        rw [hM, hn]
        exact Nat.mul_lt_mul_of_lt_of_le hkr (Nat.le_refl _) (by omega)
      have x1 : ((k : Int) * (t : Int)) = (M : Int) := by rw [hM, Int.natCast_mul]
      have hTl : turnL t xs k = xs.drop M ++ xs.take M := by unfold turnL; rw [hok, if_pos rfl, x1, Int.toNat_natCast]
      have y2 : IntKind.i64.wrap (M : Int) = (M : Int) := IntWalk.i64_in _ (by omega)
      obtain ⟨b', o', cap', hv', hb', _, hcell⟩ := cells_ofG h (by omega)
      injection hv' with e1 _ e2
      injection e1 with e1
      injection e1 with e1 e3 _
      subst e1 e2 e3
      have hCat : Hid (∀ W : World, Below w.heap.size w W → Calls Try.prog 60 #[.slice (some ⟨W.heap.size, 0, none⟩) 2 2] (W.alloc (.cells #[.slice (some ⟨b, o + M, none⟩) (xs.length - M) (cap - M), .slice (some ⟨b, o, none⟩) M cap] 22)).drew fun e w' => ∃ v', e = .returned v' ∧ w'.ownsRow w.heap.size 2 1 v' xs.length ((xs.drop M ++ xs.take M).map (Value.int .i64)) ∧ Below w.heap.size w w') := Lib.hid fun W hW => by
        have hbB' : b < w.heap.size := by omega
        have hwh := Whole.made W 22 #[.slice (some ⟨b, o + M, none⟩) (xs.length - M) (cap - M), .slice (some ⟨b, o, none⟩) M cap] rfl
        have hA := Below.drew (hW.alloc hW.size (.cells #[.slice (some ⟨b, o + M, none⟩) (xs.length - M) (cap - M), .slice (some ⟨b, o, none⟩) M cap] 22))
        have hs : w.heap.size ≤ (W.alloc (.cells #[.slice (some ⟨b, o + M, none⟩) (xs.length - M) (cap - M), .slice (some ⟨b, o, none⟩) M cap] 22)).drew.heap.size := hA.size
        have hC2 := concat0_any W.heap.size 0 2 2 (twoParts xs M) (W.alloc (.cells #[.slice (some ⟨b, o + M, none⟩) (xs.length - M) (cap - M), .slice (some ⟨b, o, none⟩) M cap] 22)).drew (by show W.heap.size < (W.alloc (.cells #[.slice (some ⟨b, o + M, none⟩) (xs.length - M) (cap - M), .slice (some ⟨b, o, none⟩) M cap] 22)).heap.size; rw [World.size_alloc]; omega) (by omega) (by omega) (by
          intro i hi
          match i, hi with
          | 0, _ =>
            refine ⟨b, o + M, cap - M, by rw [show (twoParts xs M 0).length = xs.length - M from List.length_drop]; exact hwh.at_ (i := 0) rfl, by omega, fun j x hj => ?_⟩
            rw [show twoParts xs M 0 = xs.drop M from rfl, List.getElem?_drop] at hj
            rw [hA.cell (p := ⟨b, o + M + j, none⟩) hbB', Nat.add_assoc]
            exact hcell _ _ hj
          | 1, _ =>
            refine ⟨b, o, cap, by rw [show (twoParts xs M 1).length = M from by rw [show twoParts xs M 1 = xs.take M from rfl, List.length_take]; omega]; exact hwh.at_ (i := 1) rfl, by omega, fun j x hj => ?_⟩
            rw [show twoParts xs M 1 = xs.take M from rfl, List.getElem?_take] at hj
            rw [hA.cell (p := ⟨b, o + j, none⟩) hbB']
            split at hj
            · exact hcell _ _ hj
            · cases hj) (by
          intro i hi
          match i, hi with
          | 0, _ => rw [show (twoParts xs M 0).length = xs.length - M from List.length_drop]; omega
          | 1, _ => rw [show twoParts xs M 1 = xs.take M from rfl, List.length_take]; omega) (by rw [twoParts_cat, turn_len]; omega)
        rw [twoParts_cat, turn_len] at hC2
        refine hC2.mono ?_
        rintro e w' ⟨v', rfl, ho, hb⟩
        exact ⟨v', rfl, ownsRow_mono ho hs, hA.trans (hb.mono hs)⟩
      have hP : Hid (∀ (w' : World) (v : Value), w'.ownsRow w.heap.size 2 1 v xs.length ((xs.drop M ++ xs.take M).map (Value.int .i64)) → Below w.heap.size w w' → ListPost (turnL t xs k) (turnOk t xs k) w (.returned (.tuple #[v, .bool true])) w') := Lib.hid fun w' v ho hb => by
        rw [hTl]
        exact list_yes hok (Nat.le_refl _) (turn_len xs M) ho (by omega) hb
      generalize ListPost (turnL t xs k) (turnOk t xs k) w = Q at *
      have hXn := Lib.hid (show xs.length = r * t from hn)
      clear h hwf hok hq hk hk2 hTl hM hcell
      have hn480 : xs.length ≤ 480 := by omega
      clear hL1 hL2 hL3 hn
      have hXl := Lib.hid (show xs.length = xs.length from rfl)
      generalize (xs.drop M ++ xs.take M).map (Value.int .i64) = us at *
      generalize hnn : xs.length = n at *
      have hNn := Lib.hid hnn
      clear hnn
      have hs1 := fun W => slice_from b o n cap M W hMn g2
      have hs2 := fun W => slice_to b o n cap M W hMn g2
      go_enter Try.func35, Try.ntmps35
      go_wp2_with (first | (go_at_call 22; (with_reducible refine hC.out.mono ?_); rintro e' w5 ⟨rfl, hb5⟩; have hB5 := Lib.hid hb5; have hS5 := hb5.size; clear hb5) | (go_at_call 59; (with_reducible refine (hIn.out _).mono ?_); rintro e' w' ⟨rfl, rfl⟩))
      go_region_with (go_at_call 60; ((with_reducible refine (hCat.out _ (by first | exact hB5.out | exact hB5.out.drew)).mono ?_); rintro e8 w8 ⟨v8, rfl, ho8, hb8⟩; have hQe := Lib.hid (hP.out _ _ ho8 hb8); clear ho8 hb8))
      go_wp2
      exact bodyPost_ret (v := .tuple #[v8, .bool true]) (by first | rfl | simp [results, Try.f35, go_sem, Act.put]) rfl hQe.out
end Go.Proofs.Ytpmglmpopmppbaa
