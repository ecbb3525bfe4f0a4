/- Contracts: how long flows have green. -/
import Derived.Test.YthliapjnfcahlabFlows
import Derived.Test.YthliapjnfcahlabListF
import Derived.Test.YthliapjnfcahlabOwn
import Derived.Test.YthliapjnfcahlabShopRows
import Derived.Test.YthliapjnfcahlabPost
namespace Go.Proofs.Ythliapjnfcahlab
open Go.RowKit Go.Lst FloatKit

def ltF (a b : Nat) : Bool := Ieee.single.order a b == some .lt
def posF (s : Nat) : Bool := Ieee.single.order s 0 == some .gt
def canGreen (xs : List Nat) (lo cy : Nat) : Bool := okA 12 xs && !badF lo && finite Ieee.single cy && !ltF cy lo && posF (sumF xs)
def shF (lo cy s x : Nat) : Nat := fop .quo .f32 (fop .mul .f32 (fop .sub .f32 cy lo) x) s
def sharesOf (xs : List Nat) (lo cy : Nat) : List Nat := xs.map (shF lo cy (sumF xs))
def allFin (ys : List Nat) : Bool := ys.all (finite Ieee.single)
def okGreen (xs : List Nat) (lo cy : Nat) : Bool := canGreen xs lo cy && allFin (sharesOf xs lo cy)
def greenRes (xs : List Nat) (lo cy : Nat) : List Nat := if okGreen xs lo cy then sharesOf xs lo cy else []
def FPost (r : List Nat) (ok : Bool) (w : World) (e : Ending) (w' : World) : Prop :=
  ∃ v', e = .returned (.tuple #[v', .bool ok]) ∧ Own w.heap.size w'.heap.size w' v' 23 1 r.length (r.map (Value.float .f32)) ∧ Below w.heap.size w w'
theorem f_no {r : List Nat} {ok : Bool} {w w' : World} (h1 : r = []) (h2 : ok = false) (hb : Below w.heap.size w w') : FPost r ok w (.returned (.tuple #[.slice none 0 0, .bool false])) w' := by
  subst h1 h2
  exact ⟨_, rfl, own_nil, hb⟩
theorem f_yes {r : List Nat} {ok : Bool} {v : Value} {w w' : World} {A n : Nat} (h2 : ok = true) (hA : w.heap.size ≤ A) (hn : r.length = n) (ho : w'.ownsRow A 23 1 v n (r.map (Value.float .f32))) (hm : n ≤ 1048576) (hb : Below w.heap.size w w') : FPost r ok w (.returned (.tuple #[v, .bool true])) w' := by
  subst h2 hn
  exact ⟨_, rfl, (Own.new ho (by unfold maxLen; omega)).mono hA (Nat.le_refl _), hb⟩
theorem green_no {xs : List Nat} {lo cy : Nat} {w w' : World} (h : okGreen xs lo cy = false) (hb : Below w.heap.size w w') : FPost (greenRes xs lo cy) (okGreen xs lo cy) w (.returned (.tuple #[.slice none 0 0, .bool false])) w' :=
  f_no (by unfold greenRes; rw [h]; rfl) h hb
theorem green_yes {xs : List Nat} {lo cy : Nat} {v : Value} {w w' : World} (h : okGreen xs lo cy = true) (hn : xs.length ≤ 12) (ho : w'.ownsRow w.heap.size 23 1 v xs.length ((sharesOf xs lo cy).map (Value.float .f32))) (hb : Below w.heap.size w w') : FPost (greenRes xs lo cy) (okGreen xs lo cy) w (.returned (.tuple #[v, .bool true])) w' := by
  have e : greenRes xs lo cy = sharesOf xs lo cy := by unfold greenRes; rw [h, if_pos rfl]
  rw [e]
  exact f_yes h (Nat.le_refl _) (by unfold sharesOf; rw [List.length_map]) ho (by omega) hb
theorem sh_chain {lo cy s x p1 p2 p3 : Nat} (h1 : Eqv FloatKind.f32.format p1 (fop .sub .f32 cy lo)) (h2 : Eqv FloatKind.f32.format p2 (fop .mul .f32 p1 x)) (h3 : Eqv FloatKind.f32.format p3 (fop .quo .f32 p2 s)) : Eqv Ieee.single p3 (shF lo cy s x) :=
  h3.trans (.inl (fop_eqv .quo .f32 (h2.trans (.inl (fop_eqv .mul .f32 h1 (Eqv.refl _ x)))) (Eqv.refl _ s)))
/-- The first words are those of the shares, up to NaN. -/
def Near12 (xs : List Nat) (lo cy s : Nat) (ys : List Nat) (k : Nat) : Prop := ys.length = k ∧ ∀ (i y x : Nat), ys[i]? = some y → xs[i]? = some x → Eqv Ieee.single y (shF lo cy s x)
theorem near_snoc {xs ys : List Nat} {lo cy s k x y : Nat} (h : Near12 xs lo cy s ys k) (hx : xs[k]? = some x) (hy : Eqv Ieee.single y (shF lo cy s x)) : Near12 xs lo cy s (ys ++ [y]) (k + 1) := by
  obtain ⟨h1, h2⟩ := h
  refine ⟨by rw [List.length_append, h1]; rfl, fun i y' x' hy' hx' => ?_⟩
  by_cases hi : i < k
  · rw [List.getElem?_append_left (by omega)] at hy'
    exact h2 i y' x' hy' hx'
  · have hi2 := (List.getElem?_eq_some_iff.1 hy').1
    rw [List.length_append, h1] at hi2
    have : i = k := by simp at hi2; omega
    subst this
    rw [List.getElem?_append_right (by omega), h1, Nat.sub_self] at hy'
    obtain rfl : y = y' := by simpa using hy'
    rw [hx] at hx'
    obtain rfl := Option.some.inj hx'
    exact hy
theorem near_all {xs ys : List Nat} {lo cy : Nat} (h : Near12 xs lo cy (sumF xs) ys xs.length) : allFin ys = allFin (sharesOf xs lo cy) ∧ (allFin ys = true → ys = sharesOf xs lo cy) := by
  obtain ⟨h1, h2⟩ := h
  have hl : (sharesOf xs lo cy).length = xs.length := by unfold sharesOf; rw [List.length_map]
  have hat : ∀ (i y z : Nat), ys[i]? = some y → (sharesOf xs lo cy)[i]? = some z → Eqv Ieee.single y z := fun i y z hy hz => by
    unfold sharesOf at hz
    rw [List.getElem?_map] at hz
    cases hx : xs[i]? with
    | none => rw [hx] at hz; cases hz
    | some x =>
      rw [hx] at hz
      obtain rfl : shF lo cy (sumF xs) x = z := Option.some.inj hz
      exact h2 i y x hy hx
  constructor
  · unfold allFin
    rw [Bool.eq_iff_iff, List.all_eq_true, List.all_eq_true]
    constructor
    · intro h z hz
      obtain ⟨i, hi, rfl⟩ := List.mem_iff_getElem.1 hz
      have e1 : ys[i]? = some (ys[i]'(by omega)) := List.getElem?_eq_getElem _
      rw [← finite_eqv (hat i _ _ e1 (List.getElem?_eq_getElem hi))]
      exact h _ (List.getElem_mem _)
    · intro h y hy
      obtain ⟨i, hi, rfl⟩ := List.mem_iff_getElem.1 hy
      have e1 : (sharesOf xs lo cy)[i]? = some ((sharesOf xs lo cy)[i]'(by omega)) := List.getElem?_eq_getElem _
      rw [finite_eqv (hat i _ _ (List.getElem?_eq_getElem hi) e1)]
      exact h _ (List.getElem_mem _)
  · intro h
    refine List.ext_getElem? fun i => ?_
    by_cases hi : i < ys.length
    · have e1 : ys[i]? = some ys[i] := List.getElem?_eq_getElem _
      have e2 : (sharesOf xs lo cy)[i]? = some ((sharesOf xs lo cy)[i]'(by omega)) := List.getElem?_eq_getElem _
      have hq := hat i _ _ e1 e2
      have hf := List.all_eq_true.1 h _ (List.getElem_mem hi)
      rw [e1, e2, word_of hq (by rw [← finite_eqv hq]; exact hf)]
    · rw [List.getElem?_eq_none (by omega), List.getElem?_eq_none (by omega)]
theorem okA_two (x y : Nat) : okA 2 [x, y] = (!badF x && !badF y) := by
  simp [okA, Bool.not_or]
/-- A cycle that is finite, and at least lost, is no less than 0. -/
theorem cycle_good {lo cy : Nat} (h1 : badF lo = false) (h2 : finite Ieee.single cy = true) (h3 : ltF cy lo = false) : badF cy = false := by
  have hlo := badF_good h1
  have r1 := finite_nan hlo.1
  have r2 := finite_nan h2
  unfold badF
  rw [h2]
  have o1 := (order_total r2 r1).2.2
  have o2 := (order_total r1 single_zero.1).2.2
  have o3 := (order_total r2 single_zero.1).2.2
  unfold ltF at h3
  rw [o1] at h3
  have e3 := of_decide_eq_false h3
  have e2 : ¬ sval Ieee.single lo < sval Ieee.single 0 := by
    intro hq
    rw [decide_eq_true hq] at o2
    exact hlo.2 (by simpa using o2)
  unfold ltz
  rw [o3, decide_eq_false (by omega)]; rfl
theorem green_two {xs : List Nat} {lo cy : Nat} (h : okA 2 [lo, cy] = false) : okGreen xs lo cy = false := by
  cases hq : okGreen xs lo cy
  · rfl
  · unfold okGreen canGreen at hq
    simp only [Bool.and_eq_true, Bool.not_eq_true'] at hq
    obtain ⟨⟨⟨⟨⟨_, h1⟩, h2⟩, h3⟩, _⟩, _⟩ := hq
    rw [okA_two, h1, cycle_good h1 h2 h3] at h
    cases h
theorem two_of {lo cy : Nat} (h : okA 2 [lo, cy] = true) : badF lo = false ∧ finite Ieee.single cy = true := by
  rw [okA_two, Bool.and_eq_true, Bool.not_eq_true', Bool.not_eq_true'] at h
  exact ⟨h.1, (badF_good h.2).1⟩
/-- A sum that is not less than 0 is greater than 0 just where it is not 0. -/
theorem pos_of {s : Nat} (h1 : isNaN Ieee.single s = false) (h2 : NotLess s) : (Ieee.single.order s 0 == some Ordering.eq) = !posF s := by
  unfold posF
  unfold NotLess at h2
  rw [order_sval single_hb h1 single_zero.1] at h2 ⊢
  cases hc : compare (sval Ieee.single s) (sval Ieee.single 0) with
  | lt => rw [hc] at h2; exact (h2 rfl).elim
  | eq => rfl
  | gt => rfl
set_option maxHeartbeats 1000000 in
theorem l02Finite_any (B : Nat) (v : Value) (xs : List Nat) (w : World) (h : Lst B w v (xs.map (Value.float .f32))) :
    Calls Try.prog 59 #[v] w (Ret (.bool (allFin xs)) w) := by
  obtain ⟨a, cap, rfl, hl, hc⟩ := h
  rw [List.length_map] at hl ⊢
  have hX : Hid (∀ k, k < xs.length → ∃ b o x, a = some ⟨b, o, none⟩ ∧ w.cell? ⟨b, o + k, none⟩ = some (.float .f32 x) ∧ xs[k]? = some x) := Lib.hid fun k hk => by
    obtain ⟨b, o, ha, _, hb⟩ := hc (by intro h0; simp at h0; rw [h0] at hk; simp at hk)
    have e1 : xs[k]? = some xs[k] := List.getElem?_eq_getElem _
    exact ⟨b, o, xs[k], ha, hb k _ (by rw [List.getElem?_map, e1]; rfl), e1⟩
  have hN : Hid (∀ k, k = xs.length → (∀ i x : Nat, i < k → xs[i]? = some x → finite Ieee.single x = true) → allFin xs = true) := Lib.hid fun k hk hp => List.all_eq_true.2 fun x hx => by
    obtain ⟨i, hi, rfl⟩ := List.mem_iff_getElem.1 hx
    exact hp i _ (by omega) (List.getElem?_eq_getElem hi)
  have hM : Hid (∀ (k x : Nat), xs[k]? = some x → finite Ieee.single x = false → allFin xs = false) := Lib.hid fun k x hx hq => by
    cases ha : allFin xs
    · rfl
    · have := List.all_eq_true.1 ha x (List.mem_of_getElem? hx)
      rw [hq] at this; cases this
  clear hc
  generalize allFin xs = q at *
  generalize xs.length = n at *
  unfold maxLen at hl
  go_enter Try.func59, Try.ntmps59
  go_wp2_with fail
  go_loopw [3] (fun i wr => ∃ k m : Nat, k ≤ n ∧ i = .int .i64 k ∧ Hid (∀ i x : Nat, i < k → xs[i]? = some x → finite Ieee.single x = true) ∧ wr = w.drewN m) (fun i _ => n - (intOf i).toNat)
  case atStart => exact ⟨0, 0, Nat.zero_le _, rfl, Lib.hid (fun i x hi => by omega), rfl⟩
  case round =>
    obtain ⟨k, m, hk, rfl, hP, rfl⟩ := hrel
    by_cases hlt : k < n
    · obtain ⟨b, o, x, rfl, hcell, hx⟩ := hX.out k hlt
      have hXx := Lib.hid hx
      clear hx
      cases hq : finite Ieee.single x
      · have hF := Lib.hid (hM.out k x hXx.out hq)
        go_wp2_with (go_at_call 58; refine (l01Finite_any _ _).mono ?_; rintro e w' ⟨m2, rfl, rfl⟩)
        go_ret
        exact ⟨_, ret_b (by rw [hF.out]), by first | rfl | exact World.drewN_drewN ..⟩
      · have hP2 : Hid (∀ i y : Nat, i < k + 1 → xs[i]? = some y → finite Ieee.single y = true) := Lib.hid fun i y hi hy => by
          by_cases h1 : i < k
          · exact hP.out i y h1 hy
          · have : i = k := by omega
            subst this
            rw [hXx.out] at hy
            cases hy
            exact hq
        go_wp2_with (go_at_call 58; refine (l01Finite_any _ _).mono ?_; rintro e w' ⟨m2, rfl, rfl⟩)
        go_roundw
        case rel => exact ⟨k + 1, _, by omega, by go_num, hP2, by first | rfl | exact World.drewN_drewN ..⟩
        case measure => simp [intOf]; omega
    · have hF := Lib.hid (hN.out k (by omega) hP.out)
      go_wp2
      go_ret
      exact ⟨_, ret_b (by rw [hF.out]), rfl⟩
theorem one_float (x : Nat) : ∀ u ∈ [Value.float .f32 x], u.oneCell' = true := by simp [Value.oneCell']
set_option maxHeartbeats 4000000 in
set_option maxRecDepth 100000 in
theorem specGreen_any (B : Nat) (v : Value) (xs : List Nat) (lo cy : Nat) (w : World) (h : Lst B w v (xs.map (Value.float .f32))) (hB : B ≤ w.heap.size) :
    Calls Try.prog 19 #[v, .float .f32 lo, .float .f32 cy] w (FPost (greenRes xs lo cy) (okGreen xs lo cy) w) := by
  have hQ := Lib.hid (l05Flows_any B v xs w h)
  have hL := Lib.hid (fun w' => l02Least_any lo w')
  have hFc := Lib.hid (fun w' => l01Finite_any cy w')
  have hNo : Hid (okGreen xs lo cy = false → ∀ w', Below w.heap.size w w' → FPost (greenRes xs lo cy) (okGreen xs lo cy) w (.returned (.tuple #[.slice none 0 0, .bool false])) w') := Lib.hid fun hn w' hb => green_no hn hb
  have hCan : Hid (canGreen xs lo cy = false → okGreen xs lo cy = false) := Lib.hid fun hn => by unfold okGreen; rw [hn]; rfl
  have hYes : Hid (okGreen xs lo cy = true → xs.length ≤ 12 → ∀ v' w', w'.ownsRow w.heap.size 23 1 v' xs.length ((sharesOf xs lo cy).map (Value.float .f32)) → Below w.heap.size w w' → FPost (greenRes xs lo cy) (okGreen xs lo cy) w (.returned (.tuple #[v', .bool true])) w') := Lib.hid fun hy hn v' w' ho hb => green_yes hy hn ho hb
  obtain ⟨a, cap, rfl, hl, hc⟩ := h
  rw [List.length_map] at hl hQ ⊢
  generalize FPost (greenRes xs lo cy) (okGreen xs lo cy) w = Q at *
  unfold RetFl at hQ
  cases c0 : okA 12 xs
  · rw [c0] at hQ
    have hN := Lib.hid (hNo.out (hCan.out (by unfold canGreen; rw [c0]; rfl)))
    generalize xs.length = n at *
    unfold maxLen at hl
    go_enter Try.func19, Try.ntmps19
    go_wp2_with fail
    refine (hQ.out).mono ?_
    rintro e w1 ⟨r, m, rfl, _, _, rfl⟩
    go_wp2_with fail
    first | exact hN.out _ (below_drawn w _) | (go_ret2; exact hN.out _ (below_drawn w _))
  rw [c0] at hQ
  have hReal := (okA_sum c0).1
  have hNl := (okA_sum c0).2
  have hn12 := okA_few c0
  cases c1 : badF lo
  case true =>
    rw [c1] at hL
    have hN := Lib.hid (hNo.out (hCan.out (by unfold canGreen; rw [c1, Bool.not_true, Bool.and_false, Bool.false_and, Bool.false_and, Bool.false_and])))
    generalize xs.length = n at *
    unfold maxLen at hl
    go_enter Try.func19, Try.ntmps19
    go_wp2_with fail
    refine (hQ.out).mono ?_
    rintro e w1 ⟨r, m, rfl, _, _, rfl⟩
    go_wp2_with (go_at_call 53; (with_reducible refine (hL.out _).mono ?_); rintro e w' ⟨m, rfl, rfl⟩)
    first | exact hN.out _ (below_drawn w _) | (go_ret2; exact hN.out _ (below_drawn w _))
  rw [c1] at hL
  cases c2 : finite Ieee.single cy
  case false =>
    rw [c2] at hFc
    have hN := Lib.hid (hNo.out (hCan.out (by unfold canGreen; rw [c2, Bool.and_false, Bool.false_and, Bool.false_and])))
    generalize xs.length = n at *
    unfold maxLen at hl
    go_enter Try.func19, Try.ntmps19
    go_wp2_with fail
    refine (hQ.out).mono ?_
    rintro e w1 ⟨r, m, rfl, _, _, rfl⟩
    go_wp2_with (first | (go_at_call 53; (with_reducible refine (hL.out _).mono ?_); rintro e w' ⟨m, rfl, rfl⟩) | (go_at_call 58; (with_reducible refine (hFc.out _).mono ?_); rintro e w' ⟨m, rfl, rfl⟩))
    first | exact hN.out _ (below_drawn w _) | (go_ret2; exact hN.out _ (below_drawn w _))
  rw [c2] at hFc
  cases c3 : ltF cy lo
  case true =>
    have hz : (FloatKind.f32.format.order cy lo == some Ordering.lt) = true := c3
    have hN := Lib.hid (hNo.out (hCan.out (by unfold canGreen; rw [c3, Bool.not_true, Bool.and_false, Bool.false_and])))
    generalize xs.length = n at *
    unfold maxLen at hl
    go_enter Try.func19, Try.ntmps19
    go_wp2_with fail
    refine (hQ.out).mono ?_
    rintro e w1 ⟨r, m, rfl, _, _, rfl⟩
    go_wp2_with (first | (go_at_call 53; (with_reducible refine (hL.out _).mono ?_); rintro e w' ⟨m, rfl, rfl⟩) | (go_at_call 58; (with_reducible refine (hFc.out _).mono ?_); rintro e w' ⟨m, rfl, rfl⟩))
    first | exact hN.out _ (below_drawn w _) | (go_ret2; exact hN.out _ (below_drawn w _))
  have hz : (FloatKind.f32.format.order cy lo == some Ordering.lt) = false := c3
  have hCanP : canGreen xs lo cy = posF (sumF xs) := by unfold canGreen; rw [c0, c1, c2, c3]; rfl
  cases c4 : posF (sumF xs)
  case false =>
    have hN := Lib.hid (hNo.out (hCan.out (by rw [hCanP, c4])))
    have hz2 : (FloatKind.f32.format.order (sumF xs) 0 == some Ordering.gt) = false := c4
    generalize xs.length = n at *
    unfold maxLen at hl
    go_enter Try.func19, Try.ntmps19
    go_wp2_with fail
    refine (hQ.out).mono ?_
    rintro e w1 ⟨r, m, rfl, hrs, _, rfl⟩
    obtain rfl : r = sumF xs := (hrs (by simp)).eq hReal
    clear hrs hReal hNl
    generalize sumF xs = s at *
    go_wp2_with (first | (go_at_call 53; (with_reducible refine (hL.out _).mono ?_); rintro e w' ⟨m, rfl, rfl⟩) | (go_at_call 58; (with_reducible refine (hFc.out _).mono ?_); rintro e w' ⟨m, rfl, rfl⟩))
    first | exact hN.out _ (below_drawn w _) | (go_ret2; exact hN.out _ (below_drawn w _))
  have hz2 : (FloatKind.f32.format.order (sumF xs) 0 == some Ordering.gt) = true := c4
  have hOk : Hid (okGreen xs lo cy = allFin (sharesOf xs lo cy)) := Lib.hid (by unfold okGreen; rw [hCanP, c4]; rfl)
  have hX : Hid (∀ k, k < xs.length → ∃ b o x, a = some ⟨b, o, none⟩ ∧ b < B ∧ w.cell? ⟨b, o + k, none⟩ = some (.float .f32 x) ∧ xs[k]? = some x) := Lib.hid fun k hk => by
    obtain ⟨b, o, ha, hbb, hb⟩ := hc (by intro h0; simp at h0; rw [h0] at hk; simp at hk)
    have e1 : xs[k]? = some xs[k] := List.getElem?_eq_getElem _
    exact ⟨b, o, xs[k], ha, hbb, hb k _ (by rw [List.getElem?_map, e1]; rfl), e1⟩
  have hAll : Hid (∀ ys, Near12 xs lo cy (sumF xs) ys xs.length → allFin ys = allFin (sharesOf xs lo cy) ∧ (allFin ys = true → ys = sharesOf xs lo cy)) := Lib.hid fun ys h => near_all h
  have hFin : Hid (∀ (w' : World) (v' : Value) (ys : List Nat), w'.ownsRow w.heap.size 23 1 v' xs.length (ys.map (Value.float .f32)) → ys.length = xs.length → Calls Try.prog 59 #[v'] w' (Ret (.bool (allFin ys)) w')) := Lib.hid fun w' v' ys ho hly => by
    rw [← hly] at ho
    exact l02Finite_any w'.heap.size v' ys w' ((Own.new ho (by unfold maxLen; omega)).lst (Nat.le_refl _))
  obtain ⟨i0, hi, hz0, hz1, hz2i⟩ := info_parts infoF
  clear hc hCanP hCan
  generalize hnn : xs.length = n at *
  clear hnn
  unfold maxLen at hl
  go_enter Try.func19, Try.ntmps19
  go_wp2_with fail
  refine (hQ.out).mono ?_
  rintro e w1 ⟨r, m, rfl, hrs, _, rfl⟩
  obtain rfl : r = sumF xs := (hrs (by simp)).eq hReal
  clear hrs hReal hNl c4
  generalize sumF xs = s at *
  go_wp2_with (first | (go_at_call 53; (with_reducible refine (hL.out _).mono ?_); rintro e w' ⟨m2, rfl, rfl⟩) | (go_at_call 58; (with_reducible refine (hFc.out _).mono ?_); rintro e w' ⟨m3, rfl, rfl⟩))
  have hO0 : ∀ j, ((w.drewN j).alloc (Obj.cells #[] 23)).ownsRow w.heap.size 23 1 (.slice (some ⟨w.heap.size, 0, none⟩) 0 0) 0 (([] : List Nat).map (Value.float .f32)) := fun j => World.ownsRow_lit (w.drewN j) #[] 0 (Nat.le_refl _) (Nat.zero_le _) rfl
  have hB0 : ∀ j, Below w.heap.size w ((w.drewN j).alloc (Obj.cells #[] 23)) := fun j => below_alloc (below_drawn w j) _
  generalize hgg : w.heap.size = g at *
  have hGG := Lib.hid hgg
  clear hgg hQ hL hFc
  go_loopw [10, 42] (fun gv iv wr => ∃ (k : Nat) (ys : List Nat), k ≤ n ∧ iv = .int .i64 k ∧ Hid (Near12 xs lo cy s ys k) ∧ Hid (wr.ownsRow g 23 1 gv k (ys.map (Value.float .f32))) ∧ Hid (Below g w wr)) (fun _ iv _ => n - (intOf iv).toNat)
  case atStart => exact ⟨0, [], Nat.zero_le _, rfl, Lib.hid ⟨rfl, fun i y x h _ => by simp at h⟩, Lib.hid (hO0 _), Lib.hid (hB0 _)⟩
  case round =>
    clear hO0 hB0
    obtain ⟨k, ys, hk, rfl, hN, hO, hBb⟩ := hrel
    by_cases hlt : k < n
    · obtain ⟨b, o, x, rfl, hbb, hcell, hx⟩ := hX.out k hlt
      rw [← hBb.out.cell (p := ⟨b, o + k, none⟩) (show b < g by omega)] at hcell
      have hXx := Lib.hid hx
      clear hx
      have hgs := Lib.hid (show g ≤ wr.heap.size by have := hBb.out.size; rw [hGG.out] at this; exact this)
      go_wp2_with (first | (refine wpList_farith rfl _ _ _ _ _ rfl _ _ _ rfl rfl (by rfl) ?_; intro p1 j1 hp l1; have E1 : Hid (Eqv FloatKind.f32.format p1 (fop .sub .f32 cy lo)) := (by with_reducible exact Lib.hid hp); clear hp l1) | (refine wpList_farith rfl _ _ _ _ _ rfl _ _ _ rfl rfl (by rfl) ?_; intro p2 j2 hp l2; have E2 : Hid (Eqv FloatKind.f32.format p2 (fop .mul .f32 p1 x)) := (by with_reducible exact Lib.hid hp); clear hp l2) | (refine wpList_farith rfl _ _ _ _ _ rfl _ _ _ rfl rfl (by rfl) ?_; intro p3 j3 hp l3; have E3 : Hid (Eqv FloatKind.f32.format p3 (fop .quo .f32 p2 s)) := (by with_reducible exact Lib.hid hp); clear hp l3) | (at_builtin; refine wpList_append_own _ rfl _ _ _ rfl g 23 i0 (.float .f32 0) 1 4 Try.underlying22 hi hz0 hz1 hz2i rfl (by decide) _ k _ rfl ((ownsRow_drewN hO.out _).alloc _) ⟨wr.heap.size, 0, none⟩ 1 1 [.float .f32 p3] rfl rfl (news1 _ _ _) (one_float _) (by unfold maxLen; omega) (by omega) (grow_le (w := wr.drewN _) hgs.out _) ?_; intro v8 w8 hown8 hgrow8 hnil8; have hB8 := Lib.hid (below_app (Lst.Below.drewN hBb.out _) (ownsRow_drewN hO.out _) hgrow8 hgs.out (Nat.le_refl _)); have hO8 := Lib.hid (show w8.ownsRow g 23 1 v8 (k + 1) ((ys ++ [p3]).map (Value.float .f32)) by rw [List.map_append]; exact hown8); clear hown8 hgrow8 hnil8))
      have hN8 := Lib.hid (near_snoc hN.out hXx.out (sh_chain E1.out E2.out E3.out))
      go_roundw
      case rel => exact ⟨k + 1, _, by omega, by go_num, hN8, hO8, hB8⟩
      case measure => simp [intOf]; omega
    · obtain rfl : n = k := by omega
      obtain ⟨e1, e2⟩ := hAll.out ys hN.out
      have hFn := Lib.hid (hFin.out wr _ ys hO.out hN.out.1)
      cases hq : allFin ys
      · rw [hq] at hFn
        have hR := Lib.hid (fun w' hb => hNo.out (by rw [hOk.out, ← e1, hq]) w' hb)
        clear e1 e2 hq
        go_wp2_with (go_at_call 59; (with_reducible refine (hFn.out).mono ?_); rintro e w' ⟨m, rfl, rfl⟩)
        first | exact hR.out _ (Lst.Below.drewN hBb.out _) | (go_ret2; exact hR.out _ (Lst.Below.drewN hBb.out _))
      · rw [hq] at hFn
        obtain rfl := e2 hq
        have hR := Lib.hid (fun j => hYes.out (by rw [hOk.out]; exact hq) hn12.2 _ _ (ownsRow_drewN hO.out j) (Lst.Below.drewN hBb.out j))
        clear e1 e2 hq
        go_wp2_with (go_at_call 59; (with_reducible refine (hFn.out).mono ?_); rintro e w' ⟨m, rfl, rfl⟩)
        first | exact hR.out _ | (go_ret2; exact hR.out _)
theorem areAmounts_two (x y : Nat) (w' : World) (g : Nat) (hg : g = w'.heap.size) : Calls Try.prog 55 #[.slice (some ⟨g, 0, none⟩) 2 2, .int .i64 2] (w'.alloc (.cells #[.float .f32 x, .float .f32 y] 23)) (Ret (.bool (okA 2 [x, y])) (w'.alloc (.cells #[.float .f32 x, .float .f32 y] 23))) := by
  have h := lst_litF (t := 23) [x, y] hg (by simp)
  have := areAmounts_any (g + 1) _ [x, y] 2 _ h
  simpa using this
theorem green_yesA {xs : List Nat} {lo cy A : Nat} {v : Value} {w w' : World} (hA : w.heap.size ≤ A) (h : okGreen xs lo cy = true) (hn : xs.length ≤ 12) (ho : w'.ownsRow A 23 1 v xs.length ((sharesOf xs lo cy).map (Value.float .f32))) (hb : Below w.heap.size w w') : FPost (greenRes xs lo cy) (okGreen xs lo cy) w (.returned (.tuple #[v, .bool true])) w' := by
  have e : greenRes xs lo cy = sharesOf xs lo cy := by unfold greenRes; rw [h, if_pos rfl]
  rw [e]
  exact f_yes h hA (by unfold sharesOf; rw [List.length_map]) ho (by omega) hb
def fillF (zs : List Nat) (k n : Nat) : List Nat := zs.take k ++ List.replicate (n - k) 0
theorem fillF_length {zs : List Nat} {k n : Nat} (h : k ≤ n) (hl : zs.length = n) : (fillF zs k n).length = n := by
  unfold fillF
  rw [List.length_append, List.length_take, List.length_replicate]; omega
theorem fillF_set {zs : List Nat} {k n z : Nat} (hz : zs[k]? = some z) (hl : zs.length = n) : (fillF zs k n).set k z = fillF zs (k + 1) n := by
  have hk := (List.getElem?_eq_some_iff.1 hz).1
  unfold fillF
  rw [List.set_append_right _ _ (by rw [List.length_take]; omega), List.length_take, show k - min k zs.length = 0 by omega, List.take_add_one, hz]
  have : n - k = (n - (k + 1)) + 1 := by omega
  rw [this, List.replicate_succ]
  simp
theorem fillF_all {zs : List Nat} {n : Nat} (hl : zs.length = n) : fillF zs n n = zs := by
  unfold fillF
  rw [Nat.sub_self, List.take_of_length_le (by omega)]; simp
theorem zerosF_row {w0 : World} {B g n : Nat} (h : w0.ownsRow B 23 1 (.slice (some ⟨g, 0, none⟩) n n) n (madeCells #[Value.float .f32 0] n).toList) :
    w0.ownsRow B 23 1 (.slice (some ⟨g, 0, none⟩) n n) n ((List.replicate n (0 : Nat)).map (Value.float .f32)) := by
  rw [toList_madeCells_one] at h
  rw [List.map_replicate]
  exact h
theorem row_setF {w : World} {A g n cap : Nat} {e : TypeId} {bs : List Nat} (h : w.ownsRow A e 1 (.slice (some ⟨g, 0, none⟩) n cap) n (bs.map (Value.float .f32))) (k x : Nat) : (w.setCell ⟨g, k, none⟩ (.float .f32 x)).ownsRow A e 1 (.slice (some ⟨g, 0, none⟩) n cap) n ((bs.set k x).map (Value.float .f32)) := by
  have := (h.stored k (.float .f32 x)).1
  rwa [← List.map_set] at this
set_option maxHeartbeats 4000000 in
set_option maxRecDepth 100000 in
theorem implGreen_any (B : Nat) (v : Value) (xs : List Nat) (lo cy : Nat) (w : World) (h : Lst B w v (xs.map (Value.float .f32))) (hB : B ≤ w.heap.size) :
    Calls Try.prog 20 #[v, .float .f32 lo, .float .f32 cy] w (FPost (greenRes xs lo cy) (okGreen xs lo cy) w) := by
  have hQ : Hid (Calls Try.prog 55 #[v, .int .i64 12] w (Ret (.bool (okA 12 xs)) w)) := Lib.hid (areAmounts_any B v xs 12 w h)
  have hTwo := Lib.hid (fun w' g hg => areAmounts_two lo cy w' g hg)
  have hNo : Hid (okGreen xs lo cy = false → ∀ w', Below w.heap.size w w' → FPost (greenRes xs lo cy) (okGreen xs lo cy) w (.returned (.tuple #[.slice none 0 0, .bool false])) w') := Lib.hid fun hn w' hb => green_no hn hb
  have hCan : Hid (canGreen xs lo cy = false → okGreen xs lo cy = false) := Lib.hid fun hn => by unfold okGreen; rw [hn]; rfl
  have hYes : Hid (okGreen xs lo cy = true → xs.length ≤ 12 → ∀ A v' w', w.heap.size ≤ A → w'.ownsRow A 23 1 v' xs.length ((sharesOf xs lo cy).map (Value.float .f32)) → Below w.heap.size w w' → FPost (greenRes xs lo cy) (okGreen xs lo cy) w (.returned (.tuple #[v', .bool true])) w') := Lib.hid fun hy hn A v' w' hA ho hb => green_yesA hA hy hn ho hb
  have hLs := Lib.hid h
  obtain ⟨a, cap, rfl, hl, hc⟩ := h
  rw [List.length_map] at hl hQ ⊢
  generalize FPost (greenRes xs lo cy) (okGreen xs lo cy) w = Q at *
  cases c0 : okA 12 xs
  · rw [c0] at hQ
    have hN := Lib.hid (hNo.out (hCan.out (by unfold canGreen; rw [c0]; rfl)))
    generalize xs.length = n at *
    unfold maxLen at hl
    go_enter Try.func20, Try.ntmps20
    go_wp2_with (go_at_call 55; first | ((with_reducible refine (hQ.out).mono ?_); rintro e w' ⟨m1, rfl, rfl⟩) | ((with_reducible refine (hTwo.out _ _ (by simp)).mono ?_); rintro e w' ⟨m2, rfl, rfl⟩))
    first | exact hN.out _ (below_drawn w _) | (go_ret2; exact hN.out _ (below_drawn w _))
  rw [c0] at hQ
  have hReal := (okA_sum c0).1
  have hNl := (okA_sum c0).2
  have hn12 := okA_few c0
  cases c1 : okA 2 [lo, cy]
  case false =>
    rw [c1] at hTwo
    have hN := Lib.hid (hNo.out (green_two c1))
    generalize xs.length = n at *
    unfold maxLen at hl
    go_enter Try.func20, Try.ntmps20
    go_wp2_with (go_at_call 55; first | ((with_reducible refine (hQ.out).mono ?_); rintro e w' ⟨m1, rfl, rfl⟩) | ((with_reducible refine (hTwo.out _ _ (by simp)).mono ?_); rintro e w' ⟨m2, rfl, rfl⟩))
    first | exact hN.out _ (below_drew (below_alloc (below_drawn w _) _) _) | (go_ret2; exact hN.out _ (below_drew (below_alloc (below_drawn w _) _) _))
  rw [c1] at hTwo
  obtain ⟨d1, d2⟩ := two_of c1
  cases c3 : ltF cy lo
  case true =>
    have hz : (FloatKind.f32.format.order cy lo == some Ordering.lt) = true := c3
    have hN := Lib.hid (hNo.out (hCan.out (by unfold canGreen; rw [c3, Bool.not_true, Bool.and_false, Bool.false_and])))
    generalize xs.length = n at *
    unfold maxLen at hl
    go_enter Try.func20, Try.ntmps20
    go_wp2_with (go_at_call 55; first | ((with_reducible refine (hQ.out).mono ?_); rintro e w' ⟨m1, rfl, rfl⟩) | ((with_reducible refine (hTwo.out _ _ (by simp)).mono ?_); rintro e w' ⟨m2, rfl, rfl⟩))
    first | exact hN.out _ (below_drew (below_alloc (below_drawn w _) _) _) | (go_ret2; exact hN.out _ (below_drew (below_alloc (below_drawn w _) _) _))
  have hz : (FloatKind.f32.format.order cy lo == some Ordering.lt) = false := c3
  have hCanP : canGreen xs lo cy = posF (sumF xs) := by unfold canGreen; rw [c0, d1, d2, c3]; rfl
  have hEq0 : (FloatKind.f32.format.order (sumF xs) 0 == some Ordering.eq) = !posF (sumF xs) := pos_of hReal hNl
  have hSm : Hid (∀ w', Below w.heap.size w w' → Calls Try.prog 56 #[.slice a xs.length cap] w' (RetF2 (sumF xs) true w')) := Lib.hid fun w' hb => by
    have h256 : xs.length ≤ 256 := by omega
    have := sumNumbers_any B (.slice a xs.length cap) xs w' (by have := hLs.out; rw [List.length_map] at this; exact this.below hb hB) h256
    exact this
  have hX : Hid (∀ k, k < xs.length → ∃ b o x, a = some ⟨b, o, none⟩ ∧ b < B ∧ w.cell? ⟨b, o + k, none⟩ = some (.float .f32 x) ∧ xs[k]? = some x) := Lib.hid fun k hk => by
    obtain ⟨b, o, ha, hbb, hb⟩ := hc (by intro h0; simp at h0; rw [h0] at hk; simp at hk)
    have e1 : xs[k]? = some xs[k] := List.getElem?_eq_getElem _
    exact ⟨b, o, xs[k], ha, hbb, hb k _ (by rw [List.getElem?_map, e1]; rfl), e1⟩
  have hZl : (sharesOf xs lo cy).length = xs.length := by unfold sharesOf; rw [List.length_map]
  have hZat : Hid (∀ k x : Nat, xs[k]? = some x → (sharesOf xs lo cy)[k]? = some (shF lo cy (sumF xs) x)) := Lib.hid fun k x hx => by unfold sharesOf; rw [List.getElem?_map, hx]; rfl
  have hSet : Hid (∀ k x : Nat, xs[k]? = some x → (fillF (sharesOf xs lo cy) k xs.length).set k (shF lo cy (sumF xs) x) = fillF (sharesOf xs lo cy) (k + 1) xs.length) := Lib.hid fun k x hx => fillF_set (hZat.out k x hx) hZl
  have hLen : Hid (∀ k, k ≤ xs.length → (fillF (sharesOf xs lo cy) k xs.length).length = xs.length) := Lib.hid fun k hk => fillF_length hk hZl
  have hZ0 : Hid (fillF (sharesOf xs lo cy) 0 xs.length = List.replicate xs.length 0) := Lib.hid (by unfold fillF; simp)
  have hZa : Hid (fillF (sharesOf xs lo cy) xs.length xs.length = sharesOf xs lo cy) := Lib.hid (fillF_all hZl)
  have hBadAt : Hid (∀ k x : Nat, xs[k]? = some x → finite Ieee.single (shF lo cy (sumF xs) x) = false → okGreen xs lo cy = false) := Lib.hid fun k x hx hq => by
    cases hg : okGreen xs lo cy
    · rfl
    · unfold okGreen at hg
      rw [Bool.and_eq_true] at hg
      have := List.all_eq_true.1 hg.2 _ (List.mem_of_getElem? (hZat.out k x hx))
      rw [hq] at this; cases this
  have hGoodAll : Hid (posF (sumF xs) = true → (∀ k x : Nat, k < xs.length → xs[k]? = some x → finite Ieee.single (shF lo cy (sumF xs) x) = true) → okGreen xs lo cy = true) := Lib.hid fun hp hf => by
    unfold okGreen
    rw [hCanP, hp, Bool.true_and]
    unfold allFin sharesOf
    rw [List.all_map, List.all_eq_true]
    intro x hx
    obtain ⟨i, hi, rfl⟩ := List.mem_iff_getElem.1 hx
    exact hf i _ hi (List.getElem?_eq_getElem hi)
  obtain ⟨i0, hi, hz0, hz1, hz2i⟩ := info_parts infoF
  rw [← hCanP] at hEq0 hGoodAll
  clear hc hLs c0 c1 d1 d2 c3 hNl hZl hZat
  generalize fillF (sharesOf xs lo cy) = FZ at *
  generalize xs.length = n at *
  unfold maxLen at hl
  go_enter Try.func20, Try.ntmps20
  go_wp2_with (go_at_call 55; first | ((with_reducible refine (hQ.out).mono ?_); rintro e w' ⟨m1, rfl, rfl⟩) | ((with_reducible refine (hTwo.out _ _ (by simp)).mono ?_); rintro e w' ⟨m2, rfl, rfl⟩))
  have hB1 := Lib.hid (below_drew (below_alloc (below_drawn w m1) (.cells #[.float .f32 lo, .float .f32 cy] 23)) m2)
  generalize ((w.drewN m1).alloc _).drewN m2 = w5 at *
  with_reducible refine (hSm.out w5 hB1.out).mono ?_
  rintro e w6 ⟨r, m3, rfl, hr, rfl⟩
  obtain rfl : r = sumF xs := hr.eq hReal
  clear hr hReal hSm hQ hTwo
  have hB2 := Lib.hid (below_drew hB1.out m3)
  generalize w5.drewN m3 = w6 at *
  cases c4 : canGreen xs lo cy
  case false =>
    rw [c4] at hEq0
    have hN := Lib.hid (hNo.out (hCan.out c4) w6 hB2.out)
    generalize sumF xs = s at *
    clear c4 hCanP
    go_wp2_with fail
    first | exact hN.out | (go_ret2; exact hN.out)
  rw [c4] at hEq0
  have hGo := Lib.hid (hGoodAll.out c4)
  clear c4 hCanP hGoodAll hCan hB1
  generalize sumF xs = s at *
  have hg6 : w.heap.size ≤ w6.heap.size := hB2.out.size
  generalize hgg : w.heap.size = g at *
  go_wp2_with (at_make; refine wpList_make_full _ rfl _ _ _ rfl w6.heap.size _ i0 (.float .f32 0) 1 Try.underlying22 hi hz0 hz1 _ _ _ _ n rfl rfl rfl rfl ?c1 ?c2 ?c3 ?_)
  case c1 => rw [hz2i]; omega
  case c2 => unfold maxLen; omega
  case c3 => exact Nat.le_refl _
  intro w7 hown7 hg7
  have hB7 := Lib.hid (hB2.out.grown hg7 hg6 (fun k hk => by cases hk))
  have hO7 := Lib.hid (zerosF_row hown7)
  clear hown7 hg7 hz0 hz1 hz2i hi hB2
  generalize w6.heap.size = gb at *
  go_wp2_with fail
  go_loopw [44] (fun ii wr => ∃ (k : Nat) (l : List Nat), k ≤ n ∧ ii = .int .i64 k ∧ Hid (l = FZ k n) ∧ Hid (∀ i x : Nat, i < k → xs[i]? = some x → finite Ieee.single (shF lo cy s x) = true) ∧ Hid (wr.ownsRow gb 23 1 (.slice (some ⟨gb, 0, none⟩) n n) n (l.map (Value.float .f32))) ∧ Hid (Below g w wr)) (fun ii _ => n - (intOf ii).toNat)
  case atStart => exact ⟨0, _, Nat.zero_le _, rfl, Lib.hid hZ0.out.symm, Lib.hid (fun i x hi => by omega), hO7, hB7⟩
  case round =>
    clear hB7 hO7
    obtain ⟨k, l, hk, rfl, hS, hP, hO, hBb⟩ := hrel
    by_cases hlt : k < n
    · obtain ⟨b, o, x, rfl, hbb, hcell, hx⟩ := hX.out k hlt
      rw [← hBb.out.cell (p := ⟨b, o + k, none⟩) (show b < g by omega)] at hcell
      have hln := hLen.out k hk
      have hset := hSet.out k x hx
      rw [← hS.out] at hln hset
      have hd : wr.cell? ⟨gb, k, none⟩ = some (.float .f32 (l.getD k 0)) := by
        rw [hO.out.cellAt k (by omega), List.getElem?_map, List.getElem?_eq_getElem (by omega), List.getD_eq_getElem?_getD, List.getElem?_eq_getElem (by omega)]; rfl
      have hfr : wr.frozen? ⟨gb, k, none⟩ = false := hO.out.frozenAt k
      have hSt := Lib.hid hset
      have hXx := Lib.hid hx
      have hnb : b ≠ gb := by omega
      clear hx hset hln
      generalize l.getD k 0 = l0 at *
      go_wp2_with (first | (refine wpList_farith rfl _ _ _ _ _ rfl _ _ _ rfl rfl (by rfl) ?_; intro p1 j1 hp l1; have E1 : Hid (Eqv FloatKind.f32.format p1 (fop .sub .f32 cy lo)) := (by with_reducible exact Lib.hid hp); clear hp l1) | (refine wpList_farith rfl _ _ _ _ _ rfl _ _ _ rfl rfl (by rfl) ?_; intro p2 j2 hp l2; have E2 : Hid (Eqv FloatKind.f32.format p2 (fop .mul .f32 p1 x)) := (by with_reducible exact Lib.hid hp); clear hp l2) | (refine wpList_farith rfl _ _ _ _ _ rfl _ _ _ rfl rfl (by rfl) ?_; intro p3 j3 hp l3; have E3 : Hid (Eqv FloatKind.f32.format p3 (fop .quo .f32 p2 s)) := (by with_reducible exact Lib.hid hp); clear hp l3))
      have hE := sh_chain E1.out E2.out E3.out
      have hfe := finite_eqv hE
      cases hf : finite Ieee.single p3
      · have hR := Lib.hid (fun w' hb => hNo.out (hBadAt.out k x hXx.out (by rw [← hfe, hf])) w' hb)
        clear hE hfe
        go_wp2_with (go_at_call 57; refine (isFinite_any _ _).mono ?_; rintro e w' ⟨m4, rfl, rfl⟩)
        first | exact hR.out _ (Lst.Below.drewN ((Lst.Below.drewN hBb.out _).setCell (p := ⟨gb, k, none⟩) hg6 _) _) | (go_ret2; exact hR.out _ (Lst.Below.drewN ((Lst.Below.drewN hBb.out _).setCell (p := ⟨gb, k, none⟩) hg6 _) _))
      · have hpe := word_of hE (by rw [← hfe]; exact hf)
        have hSt2 := Lib.hid (show l.set k p3 = FZ (k + 1) n by rw [hpe]; exact hSt.out)
        have hP2 : Hid (∀ i y : Nat, i < k + 1 → xs[i]? = some y → finite Ieee.single (shF lo cy s y) = true) := Lib.hid fun i y hi hy => by
          by_cases h1 : i < k
          · exact hP.out i y h1 hy
          · have : i = k := by omega
            subst this
            rw [hXx.out] at hy
            cases hy
            rw [← hfe]; exact hf
        clear hE hfe hpe
        go_wp2_with (go_at_call 57; refine (isFinite_any _ _).mono ?_; rintro e w' ⟨m4, rfl, rfl⟩)
        go_roundw
        case rel => exact ⟨k + 1, _, by omega, by go_num, hSt2, hP2, Lib.hid (ownsRow_drewN (row_setF (ownsRow_drewN hO.out _) k p3) _), Lib.hid (Lst.Below.drewN ((Lst.Below.drewN hBb.out _).setCell (p := ⟨gb, k, none⟩) hg6 _) _)⟩
        case measure => simp [intOf]; omega
    · have hkn := Lib.hid (show k = n by omega)
      have hok := hGo.out (fun i x hi hx => hP.out i x (by have := hkn.out; omega) hx)
      have hR := Lib.hid (hYes.out hok hn12.2 gb _ wr hg6 (by have h1 := hO.out; rw [hS.out, hkn.out, hZa.out] at h1; exact h1) hBb.out)
      clear hO hBb hS hok
      go_wp2_with fail
      first | exact hR.out | (go_ret2; exact hR.out)
theorem greenShares_both (xs : List Nat) (lo cy : Nat) : ∃ (r0 : List Nat) (r1 : Bool), r0.length ≤ 1048576 ∧
    (∀ (B : Nat) (v1 : Value) (w : World), Lst B w v1 (xs.map (Value.float .f32)) → B ≤ w.heap.size → Calls Try.prog 19 #[v1, .float .f32 lo, .float .f32 cy] w fun e w' => ∃ v', e = .returned (.tuple #[v', .bool r1]) ∧ Own w.heap.size w'.heap.size w' v' 23 1 r0.length (r0.map (Value.float .f32)) ∧ Below w.heap.size w w') ∧
    (∀ (B : Nat) (v1 : Value) (w : World), Lst B w v1 (xs.map (Value.float .f32)) → B ≤ w.heap.size → Calls Try.prog 20 #[v1, .float .f32 lo, .float .f32 cy] w fun e w' => ∃ v', e = .returned (.tuple #[v', .bool r1]) ∧ Own w.heap.size w'.heap.size w' v' 23 1 r0.length (r0.map (Value.float .f32)) ∧ Below w.heap.size w w') :=
  ⟨greenRes xs lo cy, okGreen xs lo cy, by
    unfold greenRes
    split
    · rename_i h
      unfold okGreen canGreen at h
      simp only [Bool.and_eq_true] at h
      have := okA_few h.1.1.1.1.1
      unfold sharesOf
      rw [List.length_map]; omega
    · simp, fun B v1 w h1 hB => specGreen_any B v1 xs lo cy w h1 hB, fun B v1 w h1 hB => implGreen_any B v1 xs lo cy w h1 hB⟩
end Go.Proofs.Ythliapjnfcahlab
