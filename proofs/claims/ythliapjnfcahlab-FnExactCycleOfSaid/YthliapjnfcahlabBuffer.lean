/- Contracts: BufferOf, in the model and in the program. -/
import Derived.Test.YthliapjnfcahlabSum
import Derived.Test.YthliapjnfcahlabRoot
import Derived.Test.YthliapjnfcahlabFin
import Derived.Test.YthliapjnfcahlabAmounts
namespace Go.Proofs.Ythliapjnfcahlab
open Go.RowKit Go.Lst FloatKit

/-- A list of spreads. -/
def okS (xs : List Nat) : Bool := decide (1 ≤ xs.length) && decide (xs.length ≤ 16) && !xs.any badF
theorem okS_bad {xs : List Nat} {k x : Nat} (hx : xs[k]? = some x) (h : badF x = true) : okS xs = false := by
  unfold okS
  rw [List.any_eq_true.2 ⟨x, List.mem_of_getElem? hx, h⟩]
  simp
theorem okS_good {xs : List Nat} {k : Nat} (hk : k = xs.length) (h : ∀ i x : Nat, i < k → xs[i]? = some x → badF x = false) : okS xs = (decide (1 ≤ k) && decide (k ≤ 16)) := by
  unfold okS
  rw [any_good hk h, hk]; simp
/-- What the model's sum of spreads returns. -/
def RetS (xs : List Nat) (w : World) (e : Ending) (w' : World) : Prop := ∃ r m, e = .returned (.tuple #[.float .f32 r, .bool (okS xs)]) ∧ (okS xs = true → Eqv Ieee.single r (sumF xs)) ∧ r < 4294967296 ∧ w' = w.drewN m
set_option maxHeartbeats 2000000 in
set_option maxRecDepth 100000 in
theorem l03SumT_any (B : Nat) (v : Value) (xs : List Nat) (w : World) (h : Lst B w v (xs.map (Value.float .f32))) :
    Calls Try.prog 60 #[v, .bool true] w (RetS xs w) := by
  obtain ⟨a, cap, rfl, hl, hc⟩ := h
  rw [List.length_map] at hl ⊢
  have hX : Hid (∀ k, k < xs.length → ∃ b o x, a = some ⟨b, o, none⟩ ∧ w.cell? ⟨b, o + k, none⟩ = some (.float .f32 x) ∧ xs[k]? = some x) := Lib.hid fun k hk => by
    obtain ⟨b, o, ha, _, hb⟩ := hc (by intro h0; simp at h0; rw [h0] at hk; simp at hk)
    have e1 : xs[k]? = some xs[k] := List.getElem?_eq_getElem _
    exact ⟨b, o, xs[k], ha, hb k _ (by rw [List.getElem?_map, e1]; rfl), e1⟩
  have hAll : Hid (xs.take xs.length = xs) := Lib.hid (List.take_length ..)
  have hBad : Hid (∀ (k x : Nat), xs[k]? = some x → badF x = true → ∀ (w' : World) (m : Nat), w' = w.drewN m → RetS xs w (.returned (.tuple #[.float .f32 0, .bool false])) w') := Lib.hid fun k x hx h w' m hw => by
    have e := okS_bad hx h
    refine ⟨0, m, by rw [e], ?_, by omega, hw⟩
    rw [e]; intro ht; cases ht
  have hGood : Hid (∀ k, k = xs.length → (∀ i x : Nat, i < k → xs[i]? = some x → badF x = false) → ∀ (r m : Nat) (b : Bool) (w' : World), b = (decide (1 ≤ k) && decide (k ≤ 16)) → Eqv Ieee.single r (sumF xs) → r < 4294967296 → w' = w.drewN m → RetS xs w (.returned (.tuple #[.float .f32 r, .bool b])) w') := Lib.hid fun k hk h r m b w' hb hr hlt hw =>
    ⟨r, m, by rw [okS_good hk h, hb], fun _ => hr, hlt, hw⟩
  clear hc
  generalize RetS xs w = POST at *
  generalize xs.length = n at *
  unfold maxLen at hl
  go_enter Try.func60, Try.ntmps60
  go_wp2_with fail
  go_loopw [6, 10] (fun t i wr => ∃ k m r : Nat, k ≤ n ∧ i = .int .i64 k ∧ t = .float .f32 r ∧ Hid (Eqv Ieee.single r (sumF (xs.take k))) ∧ Hid (r < 4294967296) ∧ Hid (∀ i x : Nat, i < k → xs[i]? = some x → badF x = false) ∧ wr = w.drewN m) (fun _ i _ => n - (intOf i).toNat)
  case atStart => exact ⟨0, 0, 0, Nat.zero_le _, rfl, rfl, Lib.hid (.inl rfl), Lib.hid (by omega), Lib.hid (fun i x hi => by omega), rfl⟩
  case round =>
    obtain ⟨k, m, r, hk, rfl, rfl, hE, hR, hG, rfl⟩ := hrel
    by_cases hlt : k < n
    · obtain ⟨b, o, x, rfl, hcell, hx⟩ := hX.out k hlt
      have hS := Lib.hid (sumF_snoc xs k x hx)
      have hXx := Lib.hid hx
      have hkI : (k : Int) < n := by omega
      clear hx
      cases hf : finite Ieee.single x
      · have hB := Lib.hid (show badF x = true by unfold badF; rw [hf]; rfl)
        go_wp2_with (go_at_call 58; refine (l01Finite_any _ _).mono ?_; rintro e w' ⟨m, rfl, rfl⟩)
        exact hBad.out k x hXx.out hB.out _ _ rfl
      · cases hz : ltz x
        · have hB := Lib.hid (show badF x = false by unfold badF; rw [hf, hz]; rfl)
          have hz2 : (FloatKind.f32.format.order x 0 == some Ordering.lt) = false := hz
          have hG2 : Hid (∀ i x : Nat, i < k + 1 → xs[i]? = some x → badF x = false) := Lib.hid fun i y hi hy => by
            by_cases h1 : i < k
            · exact hG.out i y h1 hy
            · have : i = k := by omega
              subst this
              rw [hXx.out] at hy
              cases hy
              exact hB.out
          go_wp2_with (first | (go_at_call 58; refine (l01Finite_any _ _).mono ?_; rintro e w' ⟨m, rfl, rfl⟩) | (refine wpList_farith rfl _ _ _ _ _ rfl _ _ _ rfl rfl (by rfl) ?_; intro r2 j hr hlt2; have hE2 := Lib.hid (hr.trans (.inl (fop_eqv .add .f32 hE.out (Eqv.refl _ x)))); have hR2 := Lib.hid hlt2; clear hr hlt2))
          go_roundw
          case rel => exact ⟨k + 1, _, r2, by omega, by go_num, rfl, by show Eqv _ _ _; rw [hS.out]; exact hE2.out, hR2, hG2, rfl⟩
          case measure => simp [intOf]; omega
        · have hB := Lib.hid (show badF x = true by unfold badF; rw [hz, Bool.or_true])
          have hz2 : (FloatKind.f32.format.order x 0 == some Ordering.lt) = true := hz
          go_wp2_with (go_at_call 58; refine (l01Finite_any _ _).mono ?_; rintro e w' ⟨m, rfl, rfl⟩)
          exact hBad.out k x hXx.out hB.out _ _ rfl
    · have hkn : k = n := by omega
      have hE3 : Hid (Eqv Ieee.single r (sumF xs)) := by
        have := hE.out
        rw [hkn, hAll.out] at this
        exact Lib.hid this
      by_cases h1 : 1 ≤ n
      · by_cases h2 : n ≤ 16
        · go_wp2_with fail
          exact hGood.out k hkn hG.out _ _ _ _ (by rw [hkn, decide_eq_true h1, decide_eq_true h2]; exact decide_eq_true (by omega)) hE3.out hR.out rfl
        · go_wp2_with fail
          exact hGood.out k hkn hG.out _ _ _ _ (by rw [hkn, decide_eq_false h2, Bool.and_false]; exact decide_eq_false (by omega)) hE3.out hR.out rfl
      · go_wp2_with fail
        exact hGood.out k hkn hG.out _ _ _ _ (by rw [hkn, decide_eq_false h1, Bool.false_and]) hE3.out hR.out rfl
theorem root_same2 {a a' x x' y y' r r' : Nat} (he : Eqv Ieee.single a a') (ha : a' < 4294967296) (hx : Wid a x) (hx' : Wid a' x') (hy : Eqv Ieee.double y (sqrtC x)) (hy' : Eqv Ieee.double y' (sqrtC x')) (hr : Nar y r) (hr' : Nar y' r') : Eqv Ieee.single r r' := by
  have e1 : sqrtC x = sqrtC x' := sqrtC_eqv (Wid.eqv hx hx' he)
  have e2 : Eqv Ieee.double y y' := hy.trans (by rw [e1]; exact hy'.symm)
  refine Nar.calm hr hr' e2 ?_
  have hc := root_calm ha hx'
  rcases hc with h | ⟨s, h⟩ | ⟨k, hk, h⟩
  · exact .inl (by rw [hy'.nan]; exact h)
  · have := hy'.eq (by unfold isNaN; rw [h]; rfl)
    exact .inr (.inl ⟨s, by rw [this]; exact h⟩)
  · have := hy'.eq h.1
    exact .inr (.inr ⟨k, hk, by rw [this]; exact h⟩)
/-- r is the root of the sum of the spreads, as a float32. -/
def RootOf (xs : List Nat) (bd : Bool) (r : Nat) : Prop := ∃ s x y, (bd = true → s < 4294967296) ∧ Eqv Ieee.single s (sumF xs) ∧ Wid s x ∧ Eqv Ieee.double y (sqrtC x) ∧ Nar y r
theorem RootOf.same {xs : List Nat} {r r' : Nat} (h : RootOf xs false r) (h' : RootOf xs true r') : Eqv Ieee.single r r' := by
  obtain ⟨s, x, y, _, h1, h2, h3, h4⟩ := h
  obtain ⟨s', x', y', b', h1', h2', h3', h4'⟩ := h'
  exact root_same2 (h1.trans h1'.symm) (b' rfl) h2 h2' h3 h3' h4 h4'
/-- What BufferOf answers. -/
def BufSaid (xs : List Nat) (f : Nat) (bd : Bool) (v : Nat) (ok : Bool) : Prop :=
  ((okS xs && finite Ieee.single f) = false ∧ v = 0 ∧ ok = false) ∨ ((okS xs && finite Ieee.single f) = true ∧ ∃ r p, RootOf xs bd r ∧ Eqv Ieee.single p (fop .mul .f32 f r) ∧ ok = finite Ieee.single p ∧ v = if finite Ieee.single p then p else 0)
theorem BufSaid.same {xs : List Nat} {f v v' : Nat} {ok ok' : Bool} (h : BufSaid xs f false v ok) (h' : BufSaid xs f true v' ok') : v = v' ∧ ok = ok' := by
  rcases h with ⟨h0, rfl, rfl⟩ | ⟨h0, r, p, hr, hp, rfl, rfl⟩
  · rcases h' with ⟨_, rfl, rfl⟩ | ⟨h0', _⟩
    · exact ⟨rfl, rfl⟩
    · rw [h0] at h0'; cases h0'
  · rcases h' with ⟨h0', _⟩ | ⟨_, r', p', hr', hp', rfl, rfl⟩
    · rw [h0] at h0'; cases h0'
    · have e : Eqv Ieee.single p p' := hp.trans (Eqv.trans (.inl (fop_eqv .mul .f32 (Eqv.refl _ f) (hr.same hr'))) hp'.symm)
      have hf := finite_eqv e
      refine ⟨?_, hf⟩
      cases hq : finite Ieee.single p'
      · rw [hf, hq]; rfl
      · rw [hf, hq, if_pos rfl, if_pos rfl]; exact word_of e hq
def RetB (xs : List Nat) (f : Nat) (bd : Bool) (w : World) (e : Ending) (w' : World) : Prop := ∃ v ok m, e = .returned (.tuple #[.float .f32 v, .bool ok]) ∧ BufSaid xs f bd v ok ∧ w' = w.drewN m
set_option maxHeartbeats 1000000 in
theorem l02Number_any (x : Nat) (w : World) : Calls Try.prog 54 #[.float .f32 x] w (Ret (.tuple #[.float .f32 (if finite Ieee.single x then x else 0), .bool (finite Ieee.single x)]) w) := by
  cases hf : finite Ieee.single x
  · go_enter Try.func54, Try.ntmps54
    go_wp2_with (go_at_call 58; refine (l01Finite_any _ _).mono ?_; rintro e w' ⟨m, rfl, rfl⟩)
    go_ret2
    exact Ret.later _ _ _
  · go_enter Try.func54, Try.ntmps54
    go_wp2_with (go_at_call 58; refine (l01Finite_any _ _).mono ?_; rintro e w' ⟨m, rfl, rfl⟩)
    go_ret2
    exact Ret.later _ _ _
set_option maxHeartbeats 400000 in
theorem l01Sqrt_any (a : Nat) (w : World) : Calls Try.prog 61 #[.float .f32 a] w (RetRoot a w) := by
  go_enter Try.func61, Try.ntmps61
  go_wp2_with (first | (refine wpList_widen rfl _ _ _ rfl u32_some Try.underlying28 _ rfl ?_; intro x n hx; have hX := Lib.hid hx; clear hx) | (go_at_call 107; refine (sqrt_any _ _).mono ?_; rintro e w' ⟨y, m, rfl, hy, _, rfl⟩; have hY := Lib.hid hy; clear hy) | (go_at_call 106; refine (l01Narrow_any _ _).mono ?_; rintro e w' ⟨r, m, rfl, hr, rfl⟩; have hR := Lib.hid hr; clear hr))
  go_ret
  exact ⟨_, _, _, _, hX.out, hY.out, hR.out, rfl, rfl⟩
set_option maxHeartbeats 2000000 in
set_option maxRecDepth 100000 in
theorem specBufferOf_any (B : Nat) (v : Value) (xs : List Nat) (f : Nat) (w : World) (h : Lst B w v (xs.map (Value.float .f32))) :
    Calls Try.prog 23 #[v, .float .f32 f] w (RetB xs f true w) := by
  have hQ := Lib.hid (l03SumT_any B v xs w h)
  obtain ⟨a, cap, rfl, hl, _⟩ := h
  rw [List.length_map] at hl hQ ⊢
  have hNo : Hid (((okS xs && finite Ieee.single f) = false) → ∀ m, RetB xs f true w (.returned (.tuple #[.float .f32 0, .bool false])) (w.drewN m)) := Lib.hid fun hn m => ⟨_, _, m, rfl, .inl ⟨hn, rfl, rfl⟩, rfl⟩
  have hYes : Hid (((okS xs && finite Ieee.single f) = true) → ∀ r p m, RootOf xs true r → Eqv Ieee.single p (fop .mul .f32 f r) → RetB xs f true w (.returned (.tuple #[.float .f32 (if finite Ieee.single p then p else 0), .bool (finite Ieee.single p)])) (w.drewN m)) := Lib.hid fun hy r p m hr hp => ⟨_, _, m, rfl, .inr ⟨hy, r, p, hr, hp, rfl, rfl⟩, rfl⟩
  generalize RetB xs f true w = POST at *
  generalize xs.length = n at *
  unfold maxLen at hl
  cases hok : okS xs
  · go_enter Try.func23, Try.ntmps23
    go_wp2_with fail
    refine (hQ.out).mono ?_
    rintro e w1 ⟨r, m, rfl, _, _, rfl⟩
    go_wp2_with fail
    exact hNo.out (by rw [hok]; rfl) _
  · cases hf : finite Ieee.single f
    · go_enter Try.func23, Try.ntmps23
      go_wp2_with fail
      refine (hQ.out).mono ?_
      rintro e w1 ⟨r, m, rfl, _, _, rfl⟩
      go_wp2_with (go_at_call 58; refine (l01Finite_any _ _).mono ?_; rintro e w' ⟨m, rfl, rfl⟩)
      exact hNo.out (by rw [hok, hf]; rfl) _
    · go_enter Try.func23, Try.ntmps23
      go_wp2_with fail
      refine (hQ.out).mono ?_
      rintro e w1 ⟨s, m, rfl, hs, hlt, rfl⟩
      have hS := Lib.hid (hs hok)
      have hL := Lib.hid hlt
      clear hs hlt
      go_wp2_with (first | (go_at_call 58; refine (l01Finite_any _ _).mono ?_; rintro e w' ⟨m, rfl, rfl⟩) | (go_at_call 61; refine (l01Sqrt_any _ _).mono ?_; rintro e w' ⟨x, y, r, m, hx, hy, hr, rfl, rfl⟩; have hRo := Lib.hid (show RootOf xs true r from ⟨_, x, y, fun _ => hL.out, hS.out, hx, hy, hr⟩); clear hx hy hr) | (refine wpList_farith rfl _ _ _ _ _ rfl _ _ _ rfl rfl (by rfl) ?_; intro p j hp hlt2; have hP := Lib.hid hp; clear hp hlt2))
      have hY := Lib.hid (fun m => hYes.out (by rw [hok, hf]; rfl) r p m hRo.out hP.out)
      clear hYes hNo hP hRo
      cases hp : finite Ieee.single p
      · rw [hp, if_neg (by simp)] at hY
        have hC := Lib.hid (fun w => l02Number_any p w)
        rw [hp, if_neg (by simp)] at hC
        go_wp2_with (go_at_call 54; refine (hC.out _).mono ?_; rintro e w' ⟨m, rfl, rfl⟩)
        exact hY.out _
      · rw [hp, if_pos rfl] at hY
        have hC := Lib.hid (fun w => l02Number_any p w)
        rw [hp, if_pos rfl] at hC
        go_wp2_with (go_at_call 54; refine (hC.out _).mono ?_; rintro e w' ⟨m, rfl, rfl⟩)
        exact hY.out _
set_option maxHeartbeats 2000000 in
set_option maxRecDepth 100000 in
theorem rootOfSpreads_any (B : Nat) (v : Value) (xs : List Nat) (w : World) (h : Lst B w v (xs.map (Value.float .f32))) :
    Calls Try.prog 62 #[v] w fun e w' => ∃ r m, e = .returned (.tuple #[.float .f32 r, .bool (okS xs)]) ∧ (okS xs = true → RootOf xs false r) ∧ w' = w.drewN m := by
  have hQ : Hid (Calls Try.prog 55 #[v, .int .i64 16] w (Ret (.bool (okS xs)) w)) := Lib.hid (areAmounts_any B v xs 16 w h)
  have hLs := Lib.hid h
  obtain ⟨a, cap, rfl, hl, _⟩ := h
  cases hok : okS xs
  · rw [hok] at hQ
    rw [List.length_map] at hl hQ ⊢
    go_enter Try.func62, Try.ntmps62
    go_wp2_with fail
    refine (hQ.out).mono ?_
    rintro e w1 ⟨m, rfl, rfl⟩
    go_wp2_with fail
    go_ret2
    exact ⟨_, _, rfl, (fun ht => by cases ht), rfl⟩
  · rw [hok] at hQ
    have h256 : xs.length ≤ 256 := by
      unfold okS at hok
      simp at hok
      omega
    have hSm := Lib.hid (fun m => sumNumbers_any B _ xs (w.drewN m) (hLs.out.below (Lst.Below.drewN (Below.refl B w) m) (Nat.le_refl _)) h256)
    rw [List.length_map] at hl hQ ⊢
    rw [List.length_map] at hSm
    go_enter Try.func62, Try.ntmps62
    go_wp2_with fail
    refine (hQ.out).mono ?_
    rintro e w1 ⟨m, rfl, rfl⟩
    go_wp2_with fail
    refine (hSm.out m).mono ?_
    rintro e w2 ⟨s, m2, rfl, hs, rfl⟩
    have hS := Lib.hid hs
    clear hs
    go_wp2_with fail
    refine (rootNumber_any _ _).mono ?_
    rintro e w3 ⟨x, y, r, m3, hx, hy, hr, rfl, rfl⟩
    have hRo := Lib.hid (show RootOf xs false r from ⟨_, x, y, (fun hb => by cases hb), hS.out, hx, hy, hr⟩)
    clear hx hy hr
    go_wp2_with fail
    go_ret2
    exact ⟨_, m + m2 + m3, rfl, (fun _ => hRo.out), by simp only [World.drewN_drewN]⟩
set_option maxHeartbeats 2000000 in
set_option maxRecDepth 100000 in
theorem implBufferOf_any (B : Nat) (v : Value) (xs : List Nat) (f : Nat) (w : World) (h : Lst B w v (xs.map (Value.float .f32))) :
    Calls Try.prog 24 #[v, .float .f32 f] w (RetB xs f false w) := by
  have hQ := Lib.hid (rootOfSpreads_any B v xs w h)
  obtain ⟨a, cap, rfl, hl, _⟩ := h
  rw [List.length_map] at hl hQ ⊢
  have hNo : Hid (((okS xs && finite Ieee.single f) = false) → ∀ m, RetB xs f false w (.returned (.tuple #[.float .f32 0, .bool false])) (w.drewN m)) := Lib.hid fun hn m => ⟨_, _, m, rfl, .inl ⟨hn, rfl, rfl⟩, rfl⟩
  have hYes : Hid (((okS xs && finite Ieee.single f) = true) → ∀ r p m, RootOf xs false r → Eqv Ieee.single p (fop .mul .f32 f r) → RetB xs f false w (.returned (.tuple #[.float .f32 (if finite Ieee.single p then p else 0), .bool (finite Ieee.single p)])) (w.drewN m)) := Lib.hid fun hy r p m hr hp => ⟨_, _, m, rfl, .inr ⟨hy, r, p, hr, hp, rfl, rfl⟩, rfl⟩
  generalize RetB xs f false w = POST at *
  generalize xs.length = n at *
  unfold maxLen at hl
  cases hok : okS xs
  · go_enter Try.func24, Try.ntmps24
    go_wp2_with fail
    refine (hQ.out).mono ?_
    rintro e w1 ⟨r, m, rfl, _, rfl⟩
    rw [hok]
    go_wp2_with (refine wpList_farith rfl _ _ _ _ _ rfl _ _ _ rfl rfl (by rfl) ?_; intro p j hp hlt2; clear hp hlt2)
    exact hNo.out (by rw [hok]; rfl) _
  · cases hf : finite Ieee.single f
    · go_enter Try.func24, Try.ntmps24
      go_wp2_with fail
      refine (hQ.out).mono ?_
      rintro e w1 ⟨r, m, rfl, _, rfl⟩
      rw [hok]
      go_wp2_with (first | (refine wpList_farith rfl _ _ _ _ _ rfl _ _ _ rfl rfl (by rfl) ?_; intro p j hp hlt2; clear hp hlt2) | (go_at_call 57; refine (isFinite_any _ _).mono ?_; rintro e w' ⟨m, rfl, rfl⟩))
      exact hNo.out (by rw [hok, hf]; rfl) _
    · go_enter Try.func24, Try.ntmps24
      go_wp2_with fail
      refine (hQ.out).mono ?_
      rintro e w1 ⟨r, m, rfl, hr, rfl⟩
      have hRo := Lib.hid (hr hok)
      clear hr
      rw [hok]
      go_wp2_with (first | (go_at_call 57; refine (isFinite_any f _).mono ?_; rintro e w' ⟨m, rfl, rfl⟩) | (refine wpList_farith rfl _ _ _ _ _ rfl _ _ _ rfl rfl (by rfl) ?_; intro p j hp hlt2; have hP := Lib.hid hp; clear hp hlt2))
      have hY := Lib.hid (fun m => hYes.out (by rw [hok, hf]; rfl) r p m hRo.out hP.out)
      clear hYes hNo hP hRo
      cases hp : finite Ieee.single p
      · rw [hp] at hY
        go_wp2_with (go_at_call 57; refine (isFinite_any _ _).mono ?_; rintro e w' ⟨m, rfl, rfl⟩)
        exact hY.out _
      · rw [hp] at hY
        go_wp2_with (go_at_call 57; refine (isFinite_any _ _).mono ?_; rintro e w' ⟨m, rfl, rfl⟩)
        exact hY.out _
end Go.Proofs.Ythliapjnfcahlab
