/- Contracts: the places of a list of integers, sorted stably by a comparison of what stands there. Conditions: fewer than 40 places. -/
import Derived.Test.YtehobcmjjcmfnaaSortStable
import Derived.Test.YtehobcmjjcmfnaaTrips0
namespace Go.Proofs.Ytehobcmjjcmfnaa
open Go.RowKit Go.Lst Srt Go.Shelf

/-- The order of the places by a key, and by the place where the keys are alike. -/
def ltK (K : Int → Int) (x y : Int) : Bool := decide (K x < K y) || (decide (K x = K y) && decide (x < y))
theorem totK (n : Nat) (K : Int → Int) : Tot n (ltK K) := by
  refine ⟨fun x => ?_, fun x y z h1 h2 => ?_, fun x y h1 h2 => ?_⟩
  · unfold ltK; simp
  · unfold ltK at *
    simp only [Bool.or_eq_true, Bool.and_eq_true, decide_eq_true_eq] at *
    omega
  · unfold ltK at *
    simp only [Bool.or_eq_false_iff, Bool.and_eq_false_iff, decide_eq_false_iff_not] at *
    omega
theorem ltK_later (K : Int → Int) {x y : Int} (h : x < y) : ltK K y x = decide (K y < K x) := by
  unfold ltK
  rw [decide_eq_false (show ¬ y < x by omega), Bool.and_false, Bool.or_false]
def cmpV (a b : Int) : Int := if a < b then -1 else if b < a then 1 else 0
theorem cmpV_neg (a b : Int) : decide (cmpV a b < 0) = decide (a < b) := by
  unfold cmpV
  by_cases h : a < b
  · rw [if_pos h, decide_eq_true h]; rfl
  · rw [if_neg h, decide_eq_false h]
    split <;> rfl
theorem cellsF_count (n : Nat) : cellsF n (fun k => (k : Int)) = (countL n).map (Value.int .i64) := by
  unfold cellsF countL
  rw [List.map_map]; rfl
set_option maxHeartbeats 1000000 in
theorem compareI_any (a b : Int) (w : World) : Calls Try.prog 35 #[.int .i64 a, .int .i64 b] w fun e w' => e = .returned (.int .i64 (cmpV a b)) ∧ w = w' := by
  have hN : Hid (∀ (x : Int) w, Calls Try.prog 66 #[.int .i64 x] w fun e w' => e = .returned (.bool false) ∧ w = w') := Lib.hid fun x w => by
    have hx : (x != x) = false := by rw [bne_eq_false_iff_eq]
    go_enter Try.func66, Try.ntmps66
    go_wp2_with fail
    go_ret
    exact ⟨rfl, rfl⟩
  unfold cmpV
  by_cases h1 : a < b
  · rw [if_pos h1]
    go_enter Try.func35, Try.ntmps35
    go_wp2_with (go_at_call 66; refine (hN.out _ _).mono ?_; rintro e w' ⟨rfl, rfl⟩)
    go_ret
    exact ⟨rfl, rfl⟩
  · rw [if_neg h1]
    have d1 : decide (a < b) = false := decide_eq_false h1
    by_cases h2 : b < a
    · rw [if_pos h2]
      go_enter Try.func35, Try.ntmps35
      go_wp2_with (go_at_call 66; refine (hN.out _ _).mono ?_; rintro e w' ⟨rfl, rfl⟩)
      go_ret
      exact ⟨rfl, rfl⟩
    · rw [if_neg h2]
      have d2 : decide (b < a) = false := decide_eq_false h2
      go_enter Try.func35, Try.ntmps35
      go_wp2_with (go_at_call 66; refine (hN.out _ _).mono ?_; rintro e w' ⟨rfl, rfl⟩)
      go_ret
      exact ⟨rfl, rfl⟩
set_option maxHeartbeats 1000000 in
theorem placesI1_any (F : Nat) (sv : Int → Int → Int) (b o cap n cb lb x y : Nat) (px py : Int) (w : World) (eF : ∀ args w, (callFunc F args).run Try.prog w = .ok (.enter F args) w)
    (hin : ∀ a c w, Calls Try.prog F #[.int .i64 a, .int .i64 c] w fun e w' => e = .returned (.int .i64 (sv a c)) ∧ w = w')
    (h1 : w.cell? ⟨cb, 0, none⟩ = some (.func (.func F) #[] #[])) (h2 : w.cell? ⟨lb, 0, none⟩ = some (.slice (some ⟨b, o, none⟩) n cap)) (hx : x < n) (hy : y < n)
    (c1 : w.cell? ⟨b, o + x, none⟩ = some (.int .i64 px)) (c2 : w.cell? ⟨b, o + y, none⟩ = some (.int .i64 py)) :
    Calls Try.prog 65 #[.int .i64 x, .int .i64 y, .pointer (some ⟨cb, 0, none⟩), .pointer (some ⟨lb, 0, none⟩)] w (Ret (.int .i64 (sv px py)) w) := by
  have hI := Lib.hid hin
  have l1 : (x : Int) < (n : Int) := by omega
  have l2 : (y : Int) < (n : Int) := by omega
  clear hin
  generalize hz : sv px py = z
  have hI2 : Hid (∀ w, Calls Try.prog F #[.int .i64 px, .int .i64 py] w fun e w' => e = .returned (.int .i64 z) ∧ w = w') := Lib.hid fun w => by rw [← hz]; exact hI.out px py w
  clear hz hI
  go_enter Try.func65, Try.ntmps65
  go_wp2_with fail
  go_quiet ((go_at_fn F; exact Ret.quiet (Ret.same (hI2.out _))))
  go_wp2_with fail
  go_ret
  exact Ret.later _ _ _
set_option maxHeartbeats 2000000 in
theorem placesI_any (B F : Nat) (v : Value) (xs : List Int) (sv : Int → Int → Int) (lt : Int → Int → Bool) (w : World) (h : LstI B w v xs) (hB : B ≤ w.heap.size) (hn1 : 1 ≤ xs.length) (hn : xs.length < 40) (hT : Tot xs.length lt)
    (eF : ∀ args w, (callFunc F args).run Try.prog w = .ok (.enter F args) w)
    (hin : ∀ a c w, Calls Try.prog F #[.int .i64 a, .int .i64 c] w fun e w' => e = .returned (.int .i64 (sv a c)) ∧ w = w')
    (hsg : ∀ x y : Nat, x < y → y < xs.length → decide (sv (xs.getD y 0) (xs.getD x 0) < 0) = lt y x) :
    Calls Try.prog 33 #[v, .func (.func F) #[] #[]] w fun e w' => ∃ g f, e = .returned (.slice (some ⟨g, 0, none⟩) xs.length xs.length) ∧ w.heap.size ≤ g ∧ w'.ownsRow w.heap.size 2 1 (.slice (some ⟨g, 0, none⟩) xs.length xs.length) xs.length (cellsF xs.length f) ∧ Srt.Done lt xs.length f ∧ Below w.heap.size w w' := by
  obtain ⟨a, cap, rfl, hl, hcap, hcm, hcc⟩ := h.at_
  obtain ⟨b, o, rfl, hbB⟩ := lstI_block h (by omega)
  have hCell : Hid (∀ k, k < xs.length → w.cell? ⟨b, o + k, none⟩ = some (.int .i64 (xs.getD k 0))) := Lib.hid fun k hk => by
    obtain ⟨b', o', x, he, hb, hx, hcell⟩ := hcc k hk
    injection he with he
    injection he with e1 e2 _
    subst e1 e2
    rw [getD_of hx]
    exact hcell
  clear hcc h
  have hFo := Lib.hid (fun w' => firstOrder_any xs.length w' hn1 (by omega))
  have hSt := Lib.hid (fun g w' W0 sg (hC : Cmp 65 #[.pointer (some ⟨w.heap.size + 1, 0, none⟩), .pointer (some ⟨w.heap.size, 0, none⟩)] g xs.length W0 sg lt) hr => sortStable_any g g xs.length xs.length 65 #[.pointer (some ⟨w.heap.size + 1, 0, none⟩), .pointer (some ⟨w.heap.size, 0, none⟩)] W0 w' (fun k => (k : Int)) sg lt hT hC hn (fun _ _ => rfl) hr)
  have hCm : Hid (∀ (g : Nat) (W0 : World), w.heap.size + 2 ≤ g → w.heap.size + 2 ≤ W0.heap.size → Below (w.heap.size + 2) ((w.alloc (.cells #[.slice (some ⟨b, o, none⟩) xs.length cap] 22)).alloc (.cells #[.func (.func F) #[] #[]] 48)) W0 →
      Cmp 65 #[.pointer (some ⟨w.heap.size + 1, 0, none⟩), .pointer (some ⟨w.heap.size, 0, none⟩)] g xs.length W0 (fun y x => sv (xs.getD y.toNat 0) (xs.getD x.toNat 0)) lt) := Lib.hid fun g W0 hg hs hb => by
    refine ⟨enters_of Try.func65 (by kernel_rfl) rfl, fun w' hw' x y x0 hxy hyn => ?_, fun x y x0 hxy hyn => ?_⟩
    · obtain ⟨x', rfl⟩ := Int.eq_ofNat_of_zero_le x0
      obtain ⟨y', rfl⟩ := Int.eq_ofNat_of_zero_le (show 0 ≤ y by omega)
      have keep : ∀ (p : Addr) u, p.block < w.heap.size + 2 → ((w.alloc (.cells #[.slice (some ⟨b, o, none⟩) xs.length cap] 22)).alloc (.cells #[.func (.func F) #[] #[]] 48)).cell? p = some u → w'.cell? p = some u := fun p u hp hu => by
        rw [World.cell?_of_block (w := W0) (hw'.block p.block (by omega) (by intro e; injection e with e; omega)), hb.cell (p := p) hp]
        exact hu
      have old : ∀ k, k < xs.length → w'.cell? ⟨b, o + k, none⟩ = some (.int .i64 (xs.getD k 0)) := fun k hk => by
        refine keep ⟨b, o + k, none⟩ _ (show b < w.heap.size + 2 by omega) ?_
        rw [(below_alloc (below_alloc (Below.refl w.heap.size w) _) _).cell (p := ⟨b, o + k, none⟩) (show b < w.heap.size by omega)]
        exact hCell.out k hk
      have q1 : w'.cell? ⟨w.heap.size + 1, 0, none⟩ = some (.func (.func F) #[] #[]) := keep _ _ (show w.heap.size + 1 < w.heap.size + 2 by omega) (by simp)
      have q2 : w'.cell? ⟨w.heap.size, 0, none⟩ = some (.slice (some ⟨b, o, none⟩) xs.length cap) := keep _ _ (show w.heap.size < w.heap.size + 2 by omega) ((Boxed.new w 22 (.slice (some ⟨b, o, none⟩) xs.length cap)).alloc _).cell
      exact (placesI1_any F sv b o cap xs.length (w.heap.size + 1) w.heap.size y' x' _ _ w' eF hin q1 q2 (by omega) (by omega) (old y' (by omega)) (old x' (by omega))).mono fun _ _ hr => hr.below
    · obtain ⟨x', rfl⟩ := Int.eq_ofNat_of_zero_le x0
      obtain ⟨y', rfl⟩ := Int.eq_ofNat_of_zero_le (show 0 ≤ y by omega)
      exact hsg x' y' (by omega) (by omega)
  clear hT eF hin hsg hCell
  have hb1 := Lib.hid (below_alloc (below_alloc (Below.refl w.heap.size w) (.cells #[.slice (some ⟨b, o, none⟩) xs.length cap] 22)) (.cells #[.func (.func F) #[] #[]] 48))
  have hz1 := Lib.hid (show ((w.alloc (.cells #[.slice (some ⟨b, o, none⟩) xs.length cap] 22)).alloc (.cells #[.func (.func F) #[] #[]] 48)).heap.size = w.heap.size + 2 by simp)
  generalize xs.length = n at *
  unfold maxLen at hl hcm
  go_enter Try.func33, Try.ntmps33
  go_wp2_with fail
  generalize hW1 : (w.alloc (.cells #[.slice (some ⟨b, o, none⟩) n cap] 22)).alloc (.cells #[.func (.func F) #[] #[]] 48) = W1 at *
  refine (hFo.out W1).mono ?_
  rintro e W2 ⟨rfl, ho2, hb2⟩
  have hsz := hz1.out
  have hCc := Lib.hid (hCm.out W1.heap.size W2 (by omega) (by have := hb2.size; omega) (hb2.mono (by omega)))
  have hR2 := Lib.hid (show Row W1.heap.size W1.heap.size n n W2 W2 (fun k => (k : Int)) from ⟨by rw [cellsF_count]; exact ho2, grown_refl _ _⟩)
  have hCall := Lib.hid (hSt.out W1.heap.size W2 W2 _ hCc.out hR2.out)
  have hB2 := Lib.hid (below_on hb1.out (Nat.le_refl _) hb2)
  have hG := Lib.hid (show w.heap.size ≤ W1.heap.size by omega)
  clear ho2 hb2 hsz
  go_wp2_with (go_at_call 64; (with_reducible refine hCall.out.mono ?_); rintro e W3 ⟨rfl, f, hr3, hd3⟩; have hR3 := Lib.hid hr3; have hD3 := Lib.hid hd3; clear hr3 hd3)
  go_ret
  exact ⟨W1.heap.size, f, rfl, hG.out, ownsRow_mono hR3.out.own hG.out, hD3.out, hB2.out.grown hR3.out.kept hB2.out.size (fun q e => by injection e with e; rw [← e]; exact hG.out)⟩
end Go.Proofs.Ytehobcmjjcmfnaa
