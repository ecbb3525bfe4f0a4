/- Contracts: rules that times keep. -/
import Derived.Test.YtncbjdkidkklgaaWait
import Derived.Test.YtncbjdkidkklgaaNear
namespace Go.Proofs.Ytncbjdkidkklgaa
open Go.RowKit Go.Lst

def keepsAll (p : Int) (ts : List Int) (xs : List RuleD) : Bool := !(xs.any fun x => decide (x.Most < waitR p ts x))
def canKeep (e : Int) (xs : List RuleD) (p : Int) (ts : List Int) : Bool := areRules e p xs && decide ((ts.length : Int) = e) && allIn ts 0 (p - 1)
theorem canKeep_of {e : Int} {xs : List RuleD} {p : Int} {ts : List Int} (h : canKeep e xs p ts = true) : areRules e p xs = true ∧ (ts.length : Int) = e ∧ allIn ts 0 (p - 1) = true := by
  simp only [canKeep, Bool.and_eq_true, decide_eq_true_eq] at h
  exact ⟨h.1.1, h.1.2, h.2⟩
set_option maxHeartbeats 2000000 in
theorem keptOne_any (B : Nat) (e p : Int) (x : RuleD) (vt : Value) (ts : List Int) (pf pt pp : Addr) (w : World) (hf : w.cell? pf = some (.func (.func 38) #[] #[.pointer (some pt), .pointer (some pp)])) (hvt : w.cell? pt = some vt) (hpp : w.cell? pp = some (.int .i64 p)) (hLt : LstI B w vt ts) (hB : B ≤ w.heap.size)
    (hx : okRule e p x = true) (hl0 : (ts.length : Int) = e) (ht : allIn ts 0 (p - 1) = true) (p1 : 1 ≤ p) (p60 : p ≤ 60) :
    Calls Try.prog 44 #[.agg #[.int .i64 x.From, .int .i64 x.To, .int .i64 x.Least, .int .i64 x.Most], .pointer (some pf)] w fun e w' => e = .returned (.bool (decide (x.Most < waitR p ts x))) ∧ Below w.heap.size w w' := by
  have bf := World.block_lt_of_cell? w pf hf
  have bv := World.block_lt_of_cell? w pt hvt
  have bp := World.block_lt_of_cell? w pp hpp
  have hW := Whole.made w 44 #[.int .i64 x.From, .int .i64 x.To, .int .i64 x.Least, .int .i64 x.Most] rfl
  have hB2 : Below w.heap.size w (w.alloc (.cells #[.int .i64 x.From, .int .i64 x.To, .int .i64 x.Least, .int .i64 x.Most] 44)) := below_alloc (Below.refl _ _) _
  have hsz : (w.alloc (.cells #[.int .i64 x.From, .int .i64 x.To, .int .i64 x.Least, .int .i64 x.Most] 44)).heap.size = w.heap.size + 1 := by simp
  have hQ := Lib.hid (fun w' (hb : Below w.heap.size w w') => waitBy_one B e p x vt ts pt pp w' (by rw [hb.cell (p := pt) bv]; exact hvt) (by rw [hb.cell (p := pp) bp]; exact hpp) (hLt.below hb hB) (Nat.le_trans hB hb.size) hx hl0 ht p1 p60)
  obtain ⟨wr, hwr⟩ : ∃ z, waitR p ts x = z := ⟨_, rfl⟩
  rw [hwr] at hQ
  clear hvt hpp hLt hx hl0 ht
  generalize x.From = fr at *
  generalize x.To = to_ at *
  generalize x.Least = le at *
  generalize x.Most = mo at *
  go_enter Try.func44, Try.ntmps44
  go_wp2_with fail
  generalize (w.alloc (.cells #[.int .i64 fr, .int .i64 to_, .int .i64 le, .int .i64 mo] 44)) = W2 at *
  have hR1 := Lib.hid (fun q : Near W2.heap.size W2 => hQ.out q.at_ (hB2.trans (q.below.mono (by omega))))
  rw [← hB2.cell (p := pf) bf] at hf
  have m0 := near_cell (hW.at_ (i := 0) rfl)
  have m1 := near_cell (hW.at_ (i := 1) rfl)
  have m2 := near_cell (hW.at_ (i := 2) rfl)
  have m3 := near_cell (hW.at_ (i := 3) rfl)
  have k0 := near_cell hf
  clear hQ hW hf
  refine wp_region_near (by kernel_rfl) (by kernel_rfl) ?_
  repeat (go_big_quiet_step ((go_at_call 38; with_reducible exact near_of (Nat.le_refl _) (hR1.out _))))
  refine wpQuiet_nil ?_
  rintro _ ⟨pq, rfl⟩
  have hBq := Lib.hid (hB2.trans (pq.below.mono (by omega)))
  go_wp2_with fail
  go_ret
  exact ⟨ret_bool (by rw [hwr]), hBq.out⟩

set_option maxHeartbeats 4000000 in
theorem keptIndex_any (B : Nat) (v : Value) (xs : List RuleD) (w : World) (h : LstRule B w v xs) (hB : B ≤ w.heap.size) (e p : Int) (vt : Value) (ts : List Int) (pf pt pp : Addr) (hf : w.cell? pf = some (.func (.func 38) #[] #[.pointer (some pt), .pointer (some pp)])) (hvt : w.cell? pt = some vt) (hpp : w.cell? pp = some (.int .i64 p)) (hLt : LstI B w vt ts) (hok : ∀ (i : Nat) (x : RuleD), xs[i]? = some x → okRule e p x = true) (hl0 : (ts.length : Int) = e) (ht : allIn ts 0 (p - 1) = true) (p1 : 1 ≤ p) (p60 : p ≤ 60) :
    Calls Try.prog 45 #[v, .func (.func 44) #[] #[.pointer (some pf)]] w fun e' w' => (∃ r : Int, e' = .returned (.int .i64 r) ∧ -1 ≤ r ∧ decide (0 ≤ r) = xs.any (fun x => decide (x.Most < waitR p ts x))) ∧ Below w.heap.size w w' := by
  obtain ⟨a, cap, rfl, hl, _, _, hc⟩ := h.at_
  have hYes : Hid (∀ (k : Nat) (x : RuleD), xs[k]? = some x → (decide (x.Most < waitR p ts x)) = true → decide (0 ≤ (k : Int)) = xs.any (fun x => decide (x.Most < waitR p ts x))) := Lib.hid fun k x hx hq => by
    rw [decide_eq_true (by omega), List.any_eq_true.2 ⟨x, List.mem_of_getElem? hx, hq⟩]
  have hNo : Hid (∀ k, k = xs.length → (∀ (i : Nat) (x : RuleD), i < k → xs[i]? = some x → (decide (x.Most < waitR p ts x)) = false) → decide (0 ≤ (-1 : Int)) = xs.any (fun x => decide (x.Most < waitR p ts x))) := Lib.hid fun k hk hq => by
    rw [decide_eq_false (by omega)]
    symm
    rw [List.any_eq_false]
    intro x hx
    obtain ⟨i, hi, rfl⟩ := List.mem_iff_getElem.1 hx
    have := hq i _ (by omega) (List.getElem?_eq_getElem hi)
    simp [this]
  have hC := Lib.hid hc
  have bf := World.block_lt_of_cell? w pf hf
  have bv := World.block_lt_of_cell? w pt hvt
  have bp := World.block_lt_of_cell? w pp hpp
  have hOne := Lib.hid (fun (k : Nat) (x : RuleD) (w' : World) (hx : xs[k]? = some x) (hb : Below w.heap.size w w') => keptOne_any B e p x vt ts pf pt pp w' (by rw [hb.cell (p := pf) bf]; exact hf) (by rw [hb.cell (p := pt) bv]; exact hvt) (by rw [hb.cell (p := pp) bp]; exact hpp) (hLt.below hb hB) (Nat.le_trans hB hb.size) (hok k x hx) hl0 ht p1 p60)
  clear hf hvt hpp hLt hok
  clear hc h
  generalize xs.any (fun x => decide (x.Most < waitR p ts x)) = res at *
  generalize xs.length = n at *
  unfold maxLen at hl
  go_enter Try.func45, Try.ntmps45
  go_wp2_with fail
  go_loopw [8] (fun i wr => ∃ k : Nat, k ≤ n ∧ i = .int .i64 k ∧ Hid (∀ (i : Nat) (x : RuleD), i < k → xs[i]? = some x → (decide (x.Most < waitR p ts x)) = false) ∧ Hid (Below w.heap.size w wr)) (fun i _ => n - (intOf i).toNat)
  case atStart => exact ⟨0, Nat.zero_le _, rfl, Lib.hid (fun i x hi _ => by omega), Lib.hid (Below.refl _ _)⟩
  case round =>
    obtain ⟨k, hk, rfl, hP, hB1⟩ := hrel
    by_cases hlt : k < n
    · obtain ⟨b, o, x, rfl, hb, hx, h0, h1, h2, h3⟩ := hC.out k hlt
      have hXx := Lib.hid hx
      rw [← hB1.out.cell (p := ⟨b, o + k * 4, none⟩) (show b < w.heap.size by omega)] at h0
      rw [← hB1.out.cell (p := ⟨b, o + k * 4 + 1, none⟩) (show b < w.heap.size by omega)] at h1
      rw [← hB1.out.cell (p := ⟨b, o + k * 4 + 2, none⟩) (show b < w.heap.size by omega)] at h2
      rw [← hB1.out.cell (p := ⟨b, o + k * 4 + 3, none⟩) (show b < w.heap.size by omega)] at h3
      clear hx hb
      go_wp2_with fail
      refine (hOne.out k x wr hXx.out hB1.out).mono ?_
      rintro e9 w3 ⟨rfl, hb3⟩
      have hB3 := Lib.hid (below_on hB1.out (Nat.le_refl _) hb3)
      cases hq : (decide (x.Most < waitR p ts x))
      · have hP2 : Hid (∀ (i : Nat) (x : RuleD), i < k + 1 → xs[i]? = some x → (decide (x.Most < waitR p ts x)) = false) := Lib.hid fun i y hi hy => by
          by_cases h1 : i < k
          · exact hP.out i y h1 hy
          · have : i = k := by omega
            subst this
            rw [hXx.out] at hy
            cases hy
            exact hq
        clear hb3 hB1
        go_wp2_with fail
        go_roundw
        case rel => exact ⟨k + 1, by omega, by go_num, hP2, hB3⟩
        case measure => simp [intOf]; omega
      · have hF := Lib.hid (hYes.out k x hXx.out hq)
        clear hb3 hB1
        go_wp2_with fail
        go_ret
        exact ⟨⟨k, rfl, by omega, hF.out⟩, hB3.out⟩
    · have hF := Lib.hid (hNo.out k (by omega) hP.out)
      go_wp2_with fail
      go_ret
      exact ⟨⟨-1, rfl, by omega, hF.out⟩, hB1.out⟩
set_option maxHeartbeats 1000000 in
theorem keptContains_any (B : Nat) (v : Value) (xs : List RuleD) (w : World) (h : LstRule B w v xs) (hB : B ≤ w.heap.size) (e p : Int) (vt : Value) (ts : List Int) (pf pt pp : Addr) (hf : w.cell? pf = some (.func (.func 38) #[] #[.pointer (some pt), .pointer (some pp)])) (hvt : w.cell? pt = some vt) (hpp : w.cell? pp = some (.int .i64 p)) (hLt : LstI B w vt ts) (hok : ∀ (i : Nat) (x : RuleD), xs[i]? = some x → okRule e p x = true) (hl0 : (ts.length : Int) = e) (ht : allIn ts 0 (p - 1) = true) (p1 : 1 ≤ p) (p60 : p ≤ 60) :
    Calls Try.prog 43 #[v, .func (.func 44) #[] #[.pointer (some pf)]] w fun e' w' => e' = .returned (.bool (xs.any (fun x => decide (x.Most < waitR p ts x)))) ∧ Below w.heap.size w w' := by
  have hQ := Lib.hid (keptIndex_any B v xs w h hB e p vt ts pf pt pp hf hvt hpp hLt hok hl0 ht p1 p60)
  obtain ⟨a, cap, rfl, _⟩ := h
  generalize xs.any (fun x => decide (x.Most < waitR p ts x)) = res at *
  go_enter Try.func43, Try.ntmps43
  go_wp2_with fail
  refine (hQ.out).mono ?_
  rintro e9 w1 ⟨⟨r, rfl, hr1, hr2⟩, hb1⟩
  have hB1 := Lib.hid hb1
  have hR := Lib.hid hr2
  clear hb1 hr2
  go_wp2_with fail
  go_ret
  exact ⟨ret_bool (by rw [← hR.out]), hB1.out⟩

set_option maxHeartbeats 2000000 in
theorem areKept_any (B : Nat) (v : Value) (xs : List RuleD) (w : World) (h : LstRule B w v xs) (hB : B ≤ w.heap.size) (e p : Int) (vt : Value) (ts : List Int) (pt pp : Addr) (hvt : w.cell? pt = some vt) (hpp : w.cell? pp = some (.int .i64 p)) (hLt : LstI B w vt ts) (hok : ∀ (i : Nat) (x : RuleD), xs[i]? = some x → okRule e p x = true) (hl0 : (ts.length : Int) = e) (ht : allIn ts 0 (p - 1) = true) (p1 : 1 ≤ p) (p60 : p ≤ 60) :
    Calls Try.prog 37 #[v, .func (.func 38) #[] #[.pointer (some pt), .pointer (some pp)]] w fun e w' => e = .returned (.bool (keepsAll p ts xs)) ∧ Below w.heap.size w w' := by
  have bv := World.block_lt_of_cell? w pt hvt
  have bp := World.block_lt_of_cell? w pp hpp
  have hB0 : Below w.heap.size w (w.alloc (.cells #[.func (.func 38) #[] #[.pointer (some pt), .pointer (some pp)]] 52)) := below_alloc (Below.refl _ _) _
  have hc0 : (w.alloc (.cells #[.func (.func 38) #[] #[.pointer (some pt), .pointer (some pp)]] 52)).cell? ⟨w.heap.size, 0, none⟩ = some (.func (.func 38) #[] #[.pointer (some pt), .pointer (some pp)]) := (Whole.made w 52 #[.func (.func 38) #[] #[.pointer (some pt), .pointer (some pp)]] rfl).at_ (i := 0) rfl
  have hN := Lib.hid (keptContains_any B v xs _ (h.below hB0 hB) (Nat.le_trans hB hB0.size) e p vt ts ⟨w.heap.size, 0, none⟩ pt pp hc0 (by rw [hB0.cell (p := pt) bv]; exact hvt) (by rw [hB0.cell (p := pp) bp]; exact hpp) (hLt.below hB0 hB) hok hl0 ht p1 p60)
  have hK := Lib.hid (show keepsAll p ts xs = !(xs.any fun x => decide (x.Most < waitR p ts x)) from rfl)
  obtain ⟨a, cap, rfl, _⟩ := h
  clear hc0 hvt hpp hLt hok hl0 ht
  generalize (xs.any fun x => decide (x.Most < waitR p ts x)) = res at *
  generalize xs.length = n at *
  go_enter Try.func37, Try.ntmps37
  go_wp2_with fail
  generalize (w.alloc (.cells #[.func (.func 38) #[] #[.pointer (some pt), .pointer (some pp)]] 52)) = w0 at *
  have hB1 := Lib.hid hB0
  clear hB0
  with_reducible refine (hN.out).mono ?_
  rintro e' w2 ⟨rfl, hb2⟩
  have hB3 := Lib.hid (hB1.out.trans (hb2.mono hB1.out.size))
  go_wp2_with fail
  go_ret
  exact ⟨ret_bool (by rw [hK.out]), hB3.out⟩
set_option maxHeartbeats 1000000 in
theorem waitBy_any (p : Int) (a : Option Addr) (n c : Nat) (w : World) : Calls Try.prog 27 #[.int .i64 p, .slice a n c] w fun e' w'' => (∃ pt pp, e' = .returned (.func (.func 38) #[] #[.pointer (some pt), .pointer (some pp)]) ∧ w''.cell? pt = some (.slice a n c) ∧ w''.cell? pp = some (.int .i64 p)) ∧ Below w.heap.size w w'' := by
  have c0 : ((w.alloc (.cells #[.int .i64 p] 2)).alloc (.cells #[.slice a n c] 24)).cell? ⟨w.heap.size, 0, none⟩ = some (.int .i64 p) := by simp
  have c1 : ((w.alloc (.cells #[.int .i64 p] 2)).alloc (.cells #[.slice a n c] 24)).cell? ⟨w.heap.size + 1, 0, none⟩ = some (.slice a n c) := by simp
  have hB0 : Below w.heap.size w ((w.alloc (.cells #[.int .i64 p] 2)).alloc (.cells #[.slice a n c] 24)) := below_alloc (below_alloc (Below.refl _ _) _) _
  go_enter Try.func27, Try.ntmps27
  go_wp2_with fail
  go_ret
  exact ⟨⟨_, _, rfl, c1, c0⟩, hB0⟩
set_option maxHeartbeats 4000000 in
theorem l05Keeps_any (B : Nat) (v : Value) (xs : List RuleD) (w : World) (h : LstRule B w v xs) (e p : Int) (vt : Value) (ts : List Int) (hLt : LstI B w vt ts) (hok : ∀ (i : Nat) (x : RuleD), xs[i]? = some x → okRule e p x = true) (hl0 : (ts.length : Int) = e) (ht : allIn ts 0 (p - 1) = true) (p1 : 1 ≤ p) (p60 : p ≤ 60) :
    Calls Try.prog 31 #[v, .int .i64 p, vt] w (Ret (.bool (keepsAll p ts xs)) w) := by
  obtain ⟨a, cap, rfl, hl, _, _, hc⟩ := h.at_
  have hN : Hid (∀ k, k = xs.length → (∀ i x, i < k → xs[i]? = some x → decide (x.Most < waitR p ts x) = false) → keepsAll p ts xs = true) := Lib.hid fun k hk hp => by
    unfold keepsAll
    rw [Bool.not_eq_true', List.any_eq_false]
    intro x hx
    obtain ⟨i, hi, rfl⟩ := List.mem_iff_getElem.1 hx
    rw [hp i _ (by omega) (List.getElem?_eq_getElem hi)]; simp
  have hM : Hid (∀ (k : Nat) (x : RuleD), xs[k]? = some x → decide (x.Most < waitR p ts x) = true → keepsAll p ts xs = false) := Lib.hid fun k x hx hq => by
    unfold keepsAll
    rw [Bool.not_eq_false', List.any_eq_true]
    exact ⟨x, List.mem_of_getElem? hx, hq⟩
  have hOne := Lib.hid (fun (k b o : Nat) (x : RuleD) (j : Nat) (hx : xs[k]? = some x) (g0 : (w.drewN j).cell? ⟨b, o, none⟩ = some (.int .i64 x.From)) (g1 : (w.drewN j).cell? ⟨b, o + 1, none⟩ = some (.int .i64 x.To)) (g2 : (w.drewN j).cell? ⟨b, o + 2, none⟩ = some (.int .i64 x.Least)) => l05Wait_any B e p x vt ts b o (w.drewN j) g0 g1 g2 (hLt.drewN j) (hok k x hx) hl0 ht p1 p60)
  have hC := Lib.hid hc
  obtain ⟨a2, cap2, rfl, _⟩ := hLt.at_
  clear hc h hLt hok hl0 ht
  generalize keepsAll p ts xs = q at *
  generalize xs.length = n at *
  generalize ts.length = m at *
  unfold maxLen at hl
  go_enter Try.func31, Try.ntmps31
  go_wp2_with fail
  go_loopw [10] (fun i wr => ∃ k j : Nat, k ≤ n ∧ i = .int .i64 k ∧ Hid (∀ i x, i < k → xs[i]? = some x → decide (x.Most < waitR p ts x) = false) ∧ wr = w.drewN j) (fun i _ => n - (intOf i).toNat)
  case atStart => exact ⟨0, 0, Nat.zero_le _, rfl, Lib.hid (fun i x hi _ => by omega), rfl⟩
  case round =>
    obtain ⟨k, j, hk, rfl, hP, rfl⟩ := hrel
    by_cases hlt : k < n
    · obtain ⟨b, o, x, rfl, _, hx, h0, h1, h2, h3⟩ := hC.out k hlt
      have hXx := Lib.hid hx
      clear hx
      rw [← World.cell?_drewN (n := j)] at h0 h1 h2 h3
      have hJ := Lib.hid (hOne.out k b (o + k * 4) x j hXx.out h0 h1 h2)
      have hJ2 := Lib.hid (fun (w' : World) (z : Nat) (hz : w' = (w.drewN j).drewN z) => (show Calls Try.prog 32 #[.pointer (some ⟨b, o + k * 4, none⟩), .int .i64 p, .slice a2 m cap2] w' (Ret (.int .i64 (waitR p ts x)) w') by subst hz; rw [World.drewN_drewN]; exact hOne.out k b (o + k * 4) x (j + z) hXx.out (by rw [← World.drewN_drewN, World.cell?_drewN]; exact h0) (by rw [← World.drewN_drewN, World.cell?_drewN]; exact h1) (by rw [← World.drewN_drewN, World.cell?_drewN]; exact h2)))
      have hM2 := Lib.hid (hM.out k x hXx.out)
      have hP3 : Hid (decide (x.Most < waitR p ts x) = false → ∀ i y, i < k + 1 → xs[i]? = some y → decide (y.Most < waitR p ts y) = false) := Lib.hid fun hq i y hi hy => by
        by_cases h1 : i < k
        · exact hP.out i y h1 hy
        · have : i = k := by omega
          subst this
          rw [hXx.out] at hy
          cases hy
          exact hq
      clear h0 h1 h2 hJ
      generalize hwo : w.drewN j = wo at *
      have hWo := Lib.hid hwo
      clear hwo
      generalize waitR p ts x = wa at *
      cases hq : decide (x.Most < wa)
      · have hP2 := Lib.hid (hP3.out hq)
        go_wp2_with fail
        go_quiet ((go_at_call 32; exact Ret.quiet (hJ2.out _ _ rfl)))
        go_wp2
        go_roundw
        case rel => exact ⟨k + 1, _, by omega, by go_num, hP2, by rw [← hWo.out, World.drewN_drewN]⟩
        case measure => simp [intOf]; omega
      · have hF := Lib.hid (hM2.out hq)
        go_wp2_with fail
        go_quiet ((go_at_call 32; exact Ret.quiet (hJ2.out _ _ rfl)))
        go_wp2
        go_ret
        exact ⟨_, ret_bool (by rw [hF.out]), by rw [← hWo.out, World.drewN_drewN]⟩
    · have hF := Lib.hid (hN.out k (by omega) hP.out)
      go_wp2
      go_ret
      exact ⟨_, ret_bool (by rw [hF.out]), rfl⟩
end Go.Proofs.Ytncbjdkidkklgaa
