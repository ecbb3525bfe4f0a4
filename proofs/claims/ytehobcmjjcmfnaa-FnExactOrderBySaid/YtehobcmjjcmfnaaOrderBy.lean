/- Contracts: the jobs ordered by a rule; the program's and the model's, alike. -/
import Derived.Test.YtehobcmjjcmfnaaPlacesJ
import Derived.Test.YtehobcmjjcmfnaaLongest
import Derived.Test.YtehobcmjjcmfnaaAreJobs
namespace Go.Proofs.Ytehobcmjjcmfnaa
open Go.RowKit Go.Lst Go.Plan Srt Go.Shelf

/-- The order of the places by a test of two of them that leaves some alike, and by the place where they are alike. -/
def ltW (B : Int → Int → Bool) (x y : Int) : Bool := B x y || (!B y x && decide (x < y))
theorem totW (n : Nat) (B : Int → Int → Bool) (asym : ∀ x y, B x y = true → B y x = false) (neg : ∀ x y z, B x y = false → B y z = false → B x z = false) : Tot n (ltW B) := by
  have irr : ∀ x, B x x = false := fun x => by
    cases h : B x x
    · rfl
    · have := asym x x h
      rw [h] at this; cases this
  have tr : ∀ x y z, B x y = true → B z y = false → B x z = true := fun x y z h1 h2 => by
    cases h : B x z
    · have := neg x z y h h2
      rw [h1] at this; cases this
    · rfl
  have tr2 : ∀ x y z, B y x = false → B y z = true → B x z = true := fun x y z h1 h2 => by
    cases h : B x z
    · have := neg y x z h1 h
      rw [h2] at this; cases this
    · rfl
  refine ⟨fun x => ?_, fun x y z h1 h2 => ?_, fun x y h1 h2 => ?_⟩
  · unfold ltW; simp [irr]
  · unfold ltW at *
    simp only [Bool.or_eq_true, Bool.and_eq_true, Bool.not_eq_true', decide_eq_true_eq] at *
    rcases h1 with h1 | ⟨h1, l1⟩ <;> rcases h2 with h2 | ⟨h2, l2⟩
    · exact .inl (tr x y z h1 (asym y z h2))
    · exact .inl (tr x y z h1 h2)
    · exact .inl (tr2 x y z h1 h2)
    · exact .inr ⟨neg z y x h2 h1, by omega⟩
  · unfold ltW at *
    simp only [Bool.or_eq_false_iff, Bool.and_eq_false_iff, Bool.not_eq_false', decide_eq_false_iff_not] at *
    obtain ⟨a1, a2⟩ := h1
    obtain ⟨b1, b2⟩ := h2
    rw [b1] at a2
    rw [a1] at b2
    simp at a2 b2
    omega
theorem ltW_later (B : Int → Int → Bool) {x y : Int} (h : x < y) : ltW B y x = B y x := by
  unfold ltW
  rw [decide_eq_false (show ¬ y < x by omega), Bool.and_false, Bool.or_false]
/-- Whether a job comes ahead of another one by a rule. -/
def ruleB (rule : Int) (a b : JobD) : Bool := if rule = 0 then decide (a.Time < b.Time) else if rule = 1 then decide (a.Due < b.Due) else if rule = 2 then decide (a.Release < b.Release) else decide (b.Weight * a.Time < a.Weight * b.Time)
def oneJob : JobD := ⟨1, 0, 0, 0⟩
def ruleAt (rule : Int) (xs : List JobD) (x y : Int) : Bool := ruleB rule (xs.getD x.toNat oneJob) (xs.getD y.toNat oneJob)
theorem oneJob_at {xs : List JobD} (h : ∀ (i : Nat) (x : JobD), xs[i]? = some x → okJob x = true) (k : Nat) : 1 ≤ (xs.getD k oneJob).Time ∧ 0 ≤ (xs.getD k oneJob).Weight := by
  rw [List.getD_eq_getElem?_getD]
  cases e : xs[k]?
  · exact ⟨by decide, by decide⟩
  · have := okJob_of (h k _ e)
    exact ⟨this.1.1, this.2.2.2.1⟩
theorem ruleB_asym (rule : Int) (a b : JobD) (h : ruleB rule a b = true) : ruleB rule b a = false := by
  unfold ruleB at *
  split at h
  · simp_all; omega
  split at h
  · simp_all; omega
  split at h
  · simp_all; omega
  · simp only [*, if_false, decide_eq_true_eq, decide_eq_false_iff_not] at *
    omega
theorem ruleB_neg (rule : Int) (a b c : JobD) (ha : 1 ≤ a.Time) (hb : 1 ≤ b.Time) (hc : 1 ≤ c.Time) (h1 : ruleB rule a b = false) (h2 : ruleB rule b c = false) : ruleB rule a c = false := by
  unfold ruleB at *
  split at h1
  · simp_all; omega
  split at h1
  · simp_all; omega
  split at h1
  · simp_all; omega
  · simp only [*, if_false, decide_eq_false_iff_not] at *
    have h1 : a.Weight * b.Time ≤ b.Weight * a.Time := by omega
    have h2 : b.Weight * c.Time ≤ c.Weight * b.Time := by omega
    have e1 : a.Weight * b.Time * c.Time ≤ b.Weight * a.Time * c.Time := Int.mul_le_mul_of_nonneg_right h1 (by omega)
    have e2 : b.Weight * c.Time * a.Time ≤ c.Weight * b.Time * a.Time := Int.mul_le_mul_of_nonneg_right h2 (by omega)
    have e3 : (a.Weight * c.Time) * b.Time ≤ (c.Weight * a.Time) * b.Time := by
      have q1 : a.Weight * b.Time * c.Time = a.Weight * c.Time * b.Time := by ac_rfl
      have q2 : b.Weight * a.Time * c.Time = b.Weight * c.Time * a.Time := by ac_rfl
      have q3 : c.Weight * b.Time * a.Time = c.Weight * a.Time * b.Time := by ac_rfl
      omega
    have := Int.le_of_mul_le_mul_right e3 (by omega)
    omega
theorem ruleTot {rule : Int} {xs : List JobD} (h : ∀ (i : Nat) (x : JobD), xs[i]? = some x → okJob x = true) (n : Nat) : Tot n (ltW (ruleAt rule xs)) :=
  totW n _ (fun x y => ruleB_asym rule _ _) (fun x y z => ruleB_neg rule _ _ _ (oneJob_at h _).1 (oneJob_at h _).1 (oneJob_at h _).1)
def ruleO (xs : List JobD) (rule : Int) : List Int := if areJobs xs && inB rule 0 3 then (List.range xs.length).map (Srt.insTo (ltW (ruleAt rule xs)) xs.length) else []
theorem ruleO_len (xs : List JobD) (rule : Int) : (ruleO xs rule).length ≤ 1048576 := by
  unfold ruleO
  split
  · rename_i h
    simp only [Bool.and_eq_true] at h
    have := (areJobs_of h.1).2.1
    simp; omega
  · simp
def ruleV (rule : Int) (a b : JobD) : Int := if rule = 0 then cmpV a.Time b.Time else if rule = 1 then cmpV a.Due b.Due else if rule = 2 then cmpV a.Release b.Release else cmpV (b.Weight * a.Time) (a.Weight * b.Time)
theorem ruleV_neg (rule : Int) (a b : JobD) : decide (ruleV rule a b < 0) = ruleB rule a b := by
  unfold ruleV ruleB
  split
  · exact cmpV_neg _ _
  split
  · exact cmpV_neg _ _
  split
  · exact cmpV_neg _ _
  · exact cmpV_neg _ _
theorem prodB {a b : Int} (h1 : 0 ≤ a) (h2 : a ≤ 10000) (h3 : 0 ≤ b) (h4 : b ≤ 10000) : IntKind.i64.wrap (a * b) = a * b := by
  have := Int.mul_le_mul h2 h4 h3 (by omega)
  have := Int.mul_nonneg h1 h3
  exact IntWalk.i64_in _ (by omega)
def ruleFn (rule : Int) : Nat := if rule = 0 then 74 else if rule = 1 then 75 else if rule = 2 then 76 else 77
set_option maxHeartbeats 1000000 in
theorem rule1_any (a b : JobD) (w : World) : Calls Try.prog 74 #[.agg #[.int .i64 a.Time, .int .i64 a.Release, .int .i64 a.Due, .int .i64 a.Weight], .agg #[.int .i64 b.Time, .int .i64 b.Release, .int .i64 b.Due, .int .i64 b.Weight]] w fun e w' => e = .returned (.int .i64 (cmpV a.Time b.Time)) ∧ Below w.heap.size w w' := by
  obtain ⟨a0, a1, a2, a3⟩ := a
  obtain ⟨b0, b1, b2, b3⟩ := b
  have hC := Lib.hid (fun w' => compareI_any a0 b0 w')
  generalize cmpV a0 b0 = z at *
  go_enter Try.func74, Try.ntmps74
  go_wp2_with (go_at_call 35; (with_reducible refine (hC.out _).mono ?_); rintro e w' ⟨rfl, rfl⟩)
  go_ret
  exact ⟨rfl, by repeat (first | exact Below.refl _ _ | refine below_alloc ?_ _ | refine below_drew ?_ _)⟩
set_option maxHeartbeats 1000000 in
theorem rule2_any (a b : JobD) (w : World) : Calls Try.prog 75 #[.agg #[.int .i64 a.Time, .int .i64 a.Release, .int .i64 a.Due, .int .i64 a.Weight], .agg #[.int .i64 b.Time, .int .i64 b.Release, .int .i64 b.Due, .int .i64 b.Weight]] w fun e w' => e = .returned (.int .i64 (cmpV a.Due b.Due)) ∧ Below w.heap.size w w' := by
  obtain ⟨a0, a1, a2, a3⟩ := a
  obtain ⟨b0, b1, b2, b3⟩ := b
  have hC := Lib.hid (fun w' => compareI_any a2 b2 w')
  generalize cmpV a2 b2 = z at *
  go_enter Try.func75, Try.ntmps75
  go_wp2_with (go_at_call 35; (with_reducible refine (hC.out _).mono ?_); rintro e w' ⟨rfl, rfl⟩)
  go_ret
  exact ⟨rfl, by repeat (first | exact Below.refl _ _ | refine below_alloc ?_ _ | refine below_drew ?_ _)⟩
set_option maxHeartbeats 1000000 in
theorem rule3_any (a b : JobD) (w : World) : Calls Try.prog 76 #[.agg #[.int .i64 a.Time, .int .i64 a.Release, .int .i64 a.Due, .int .i64 a.Weight], .agg #[.int .i64 b.Time, .int .i64 b.Release, .int .i64 b.Due, .int .i64 b.Weight]] w fun e w' => e = .returned (.int .i64 (cmpV a.Release b.Release)) ∧ Below w.heap.size w w' := by
  obtain ⟨a0, a1, a2, a3⟩ := a
  obtain ⟨b0, b1, b2, b3⟩ := b
  have hC := Lib.hid (fun w' => compareI_any a1 b1 w')
  generalize cmpV a1 b1 = z at *
  go_enter Try.func76, Try.ntmps76
  go_wp2_with (go_at_call 35; (with_reducible refine (hC.out _).mono ?_); rintro e w' ⟨rfl, rfl⟩)
  go_ret
  exact ⟨rfl, by repeat (first | exact Below.refl _ _ | refine below_alloc ?_ _ | refine below_drew ?_ _)⟩
set_option maxHeartbeats 1000000 in
theorem rule4_any (a b : JobD) (ha : okJob a = true) (hb : okJob b = true) (w : World) : Calls Try.prog 77 #[.agg #[.int .i64 a.Time, .int .i64 a.Release, .int .i64 a.Due, .int .i64 a.Weight], .agg #[.int .i64 b.Time, .int .i64 b.Release, .int .i64 b.Due, .int .i64 b.Weight]] w fun e w' => e = .returned (.int .i64 (cmpV (b.Weight * a.Time) (a.Weight * b.Time))) ∧ Below w.heap.size w w' := by
  obtain ⟨⟨q1, q2⟩, -, -, q3, q4⟩ := okJob_of ha
  obtain ⟨⟨p1, p2⟩, -, -, p3, p4⟩ := okJob_of hb
  have w1 := prodB p3 p4 (show 0 ≤ a.Time by omega) q2
  have w2 := prodB q3 q4 (show 0 ≤ b.Time by omega) p2
  clear ha hb q1 q2 q3 q4 p1 p2 p3 p4
  obtain ⟨a0, a1, a2, a3⟩ := a
  obtain ⟨b0, b1, b2, b3⟩ := b
  simp only at w1 w2 ⊢
  have hC := Lib.hid (fun w' => compareI_any (b3 * a0) (a3 * b0) w')
  generalize cmpV (b3 * a0) (a3 * b0) = z at *
  go_enter Try.func77, Try.ntmps77
  go_wp2_with (go_at_call 35; (with_reducible refine (hC.out _).mono ?_); rintro e w' ⟨rfl, rfl⟩)
  go_ret
  exact ⟨rfl, by repeat (first | exact Below.refl _ _ | refine below_alloc ?_ _ | refine below_drew ?_ _)⟩
theorem ruleFn_any (rule : Int) (hk : inB rule 0 3 = true) (a b : JobD) (ha : okJob a = true) (hb : okJob b = true) (w : World) : Calls Try.prog (ruleFn rule) #[.agg #[.int .i64 a.Time, .int .i64 a.Release, .int .i64 a.Due, .int .i64 a.Weight], .agg #[.int .i64 b.Time, .int .i64 b.Release, .int .i64 b.Due, .int .i64 b.Weight]] w fun e w' => e = .returned (.int .i64 (ruleV rule a b)) ∧ Below w.heap.size w w' := by
  obtain ⟨k1, k2⟩ := inB_true hk
  rcases (show rule = 0 ∨ rule = 1 ∨ rule = 2 ∨ rule = 3 by omega) with rfl | rfl | rfl | rfl
  · exact rule1_any a b w
  · exact rule2_any a b w
  · exact rule3_any a b w
  · exact rule4_any a b ha hb w
theorem ruleFn_enters (rule : Int) (hk : inB rule 0 3 = true) : ∀ args w, (callFunc (ruleFn rule) args).run Try.prog w = .ok (.enter (ruleFn rule) args) w := by
  obtain ⟨k1, k2⟩ := inB_true hk
  rcases (show rule = 0 ∨ rule = 1 ∨ rule = 2 ∨ rule = 3 by omega) with rfl | rfl | rfl | rfl
  · exact enters_of Try.func74 (by kernel_rfl) rfl
  · exact enters_of Try.func75 (by kernel_rfl) rfl
  · exact enters_of Try.func76 (by kernel_rfl) rfl
  · exact enters_of Try.func77 (by kernel_rfl) rfl
set_option maxHeartbeats 1000000 in
theorem ruleOf_yes (rule : Int) (hk : inB rule 0 3 = true) (w : World) : Calls Try.prog 45 #[.int .i64 rule] w fun e w' => e = .returned (.tuple #[.func (.func (ruleFn rule)) #[] #[], .bool true]) ∧ w = w' := by
  obtain ⟨k1, k2⟩ := inB_true hk
  clear hk
  rcases (show rule = 0 ∨ rule = 1 ∨ rule = 2 ∨ rule = 3 by omega) with rfl | rfl | rfl | rfl
  all_goals
    clear k1 k2
    go_enter Try.func45, Try.ntmps45
    go_wp2_with fail
    first | (go_ret2; exact ⟨rfl, rfl⟩) | exact ⟨rfl, rfl⟩
set_option maxHeartbeats 1000000 in
theorem ruleOf_no (rule : Int) (hk : inB rule 0 3 = false) (w : World) : Calls Try.prog 45 #[.int .i64 rule] w fun e w' => e = .returned (.tuple #[.nilFunc, .bool false]) ∧ w = w' := by
  have h := inB_false hk
  have e0 : (rule == 0) = false := by rw [beq_eq_false_iff_ne]; omega
  have e1 : (rule == 1) = false := by rw [beq_eq_false_iff_ne]; omega
  have e2 : (rule == 2) = false := by rw [beq_eq_false_iff_ne]; omega
  have e3 : (rule == 3) = false := by rw [beq_eq_false_iff_ne]; omega
  clear hk h
  go_enter Try.func45, Try.ntmps45
  go_wp2_with fail
  first | (go_ret2; exact ⟨rfl, rfl⟩) | exact ⟨rfl, rfl⟩
set_option maxHeartbeats 2000000 in
theorem l02Before_any (rule : Int) (hk : inB rule 0 3 = true) (b1 o1 b2 o2 : Nat) (x y : JobD) (hx : okJob x = true) (hy : okJob y = true) (w : World)
    (h0 : w.cell? ⟨b1, o1, none⟩ = some (.int .i64 x.Time)) (h1 : w.cell? ⟨b1, o1 + 1, none⟩ = some (.int .i64 x.Release)) (h2 : w.cell? ⟨b1, o1 + 2, none⟩ = some (.int .i64 x.Due)) (h3 : w.cell? ⟨b1, o1 + 3, none⟩ = some (.int .i64 x.Weight))
    (g0 : w.cell? ⟨b2, o2, none⟩ = some (.int .i64 y.Time)) (g1 : w.cell? ⟨b2, o2 + 1, none⟩ = some (.int .i64 y.Release)) (g2 : w.cell? ⟨b2, o2 + 2, none⟩ = some (.int .i64 y.Due)) (g3 : w.cell? ⟨b2, o2 + 3, none⟩ = some (.int .i64 y.Weight)) :
    Calls Try.prog 73 #[.pointer (some ⟨b1, o1, none⟩), .pointer (some ⟨b2, o2, none⟩), .int .i64 rule] w (Ret (.bool (ruleB rule x y)) w) := by
  obtain ⟨k1, k2⟩ := inB_true hk
  clear hk
  obtain ⟨⟨q1, q2⟩, -, -, q3, q4⟩ := okJob_of hx
  obtain ⟨⟨p1, p2⟩, -, -, p3, p4⟩ := okJob_of hy
  have w1 := prodB p3 p4 (show 0 ≤ x.Time by omega) q2
  have w2 := prodB q3 q4 (show 0 ≤ y.Time by omega) p2
  clear hx hy q1 q2 q3 q4 p1 p2 p3 p4
  obtain ⟨x0, x1, x2, x3⟩ := x
  obtain ⟨y0, y1, y2, y3⟩ := y
  simp only at *
  rcases (show rule = 0 ∨ rule = 1 ∨ rule = 2 ∨ rule = 3 by omega) with rfl | rfl | rfl | rfl
  · show Calls Try.prog 73 _ w (Ret (.bool (decide (x0 < y0))) w)
    clear k1 k2 w1 w2
    go_enter Try.func73, Try.ntmps73
    go_wp2_with fail
    go_quiet (fail)
    go_wp2_with fail
    go_ret
    exact Ret.later _ _ _
  · show Calls Try.prog 73 _ w (Ret (.bool (decide (x2 < y2))) w)
    clear k1 k2 w1 w2
    go_enter Try.func73, Try.ntmps73
    go_wp2_with fail
    go_quiet (fail)
    go_wp2_with fail
    go_ret
    exact Ret.later _ _ _
  · show Calls Try.prog 73 _ w (Ret (.bool (decide (x1 < y1))) w)
    clear k1 k2 w1 w2
    go_enter Try.func73, Try.ntmps73
    go_wp2_with fail
    go_quiet (fail)
    go_wp2_with fail
    go_ret
    exact Ret.later _ _ _
  · show Calls Try.prog 73 _ w (Ret (.bool (decide (y3 * x0 < x3 * y0))) w)
    clear k1 k2
    go_enter Try.func73, Try.ntmps73
    go_wp2_with fail
    go_quiet (fail)
    go_wp2_with fail
    go_ret
    exact Ret.later _ _ _
theorem ruleO_of {xs : List JobD} {rule : Int} (hok : areJobs xs = true) (hk : inB rule 0 3 = true) {f : Nat → Int} (h : Srt.Done (ltW (ruleAt rule xs)) xs.length f) : cellsF xs.length f = (ruleO xs rule).map (Value.int .i64) := by
  have hT := ruleTot (rule := rule) (areJobs_of hok).2.2 xs.length
  rw [h.one hT (Srt.insTo_done hT), cells_map]
  unfold ruleO
  rw [hok, hk]; rfl
theorem ruleO_len' {xs : List JobD} {rule : Int} (hok : areJobs xs = true) (hk : inB rule 0 3 = true) : (ruleO xs rule).length = xs.length := by
  unfold ruleO
  rw [hok, hk]; simp
theorem jobOne {xs : List JobD} {k : Nat} {x : JobD} (h : xs[k]? = some x) : xs.getD k oneJob = x := by
  rw [List.getD_eq_getElem?_getD, h]; rfl
theorem lstJob_block {B : Nat} {w : World} {v : Value} {xs : List JobD} (h : LstJob B w v xs) (hn : 0 < xs.length) : ∃ b o cap, v = .slice (some ⟨b, o, none⟩) xs.length cap ∧ b < B ∧ xs.length ≤ cap ∧ cap ≤ maxLen ∧
    ∀ k, k < xs.length → ∃ x, xs[k]? = some x ∧ w.cell? ⟨b, o + k * 4, none⟩ = some (.int .i64 x.Time) ∧ w.cell? ⟨b, o + k * 4 + 1, none⟩ = some (.int .i64 x.Release) ∧ w.cell? ⟨b, o + k * 4 + 2, none⟩ = some (.int .i64 x.Due) ∧ w.cell? ⟨b, o + k * 4 + 3, none⟩ = some (.int .i64 x.Weight) := by
  obtain ⟨a, cap, hv, _, h1, h2, hc⟩ := h.at_
  obtain ⟨b, o, x, rfl, hb, -⟩ := hc 0 hn
  refine ⟨b, o, cap, hv, hb, h1, h2, fun k hk => ?_⟩
  obtain ⟨b', o', x, he, _, hx, c⟩ := hc k hk
  injection he with he
  injection he with e1 e2 _
  subst e1 e2
  exact ⟨x, hx, c⟩
set_option maxHeartbeats 2000000 in
theorem implOrderBy_any (B : Nat) (v1 : Value) (xs : List JobD) (rule : Int) (w : World) (h1 : LstJob B w v1 xs) (hB : B ≤ w.heap.size) :
    Calls Try.prog 20 #[v1, .int .i64 rule] w (ListPost (ruleO xs rule) (areJobs xs && inB rule 0 3) w) := by
  have hNo : Hid (∀ w', (areJobs xs && inB rule 0 3) = false → Below w.heap.size w w' → ListPost (ruleO xs rule) (areJobs xs && inB rule 0 3) w (.returned (.tuple #[.slice none 0 0, .bool false])) w') := Lib.hid fun w' q hb => list_no (by unfold ruleO; rw [q]; rfl) q hb
  have hT := Lib.hid (fun w' (hb : Below w.heap.size w w') => areJobs_any B v1 xs w' (h1.below hb hB) (Nat.le_trans hB hb.size))
  cases hk : inB rule 0 3
  · have hR := Lib.hid (fun w' => ruleOf_no rule hk w')
    rw [hk, Bool.and_false] at hNo
    have hN := Lib.hid (hNo.out w rfl (Below.refl _ _))
    rw [Bool.and_false]
    obtain ⟨a, cap, hv1, -⟩ := h1.at_
    subst hv1
    clear hNo hT h1
    generalize ListPost (ruleO xs rule) false w = Q at *
    generalize xs.length = n at *
    go_enter Try.func20, Try.ntmps20
    go_wp2_with (go_at_call 45; (with_reducible refine (hR.out _).mono ?_); rintro e w' ⟨rfl, rfl⟩)
    first | exact hN.out | (go_ret2; exact hN.out)
  · have hR := Lib.hid (fun w' => ruleOf_yes rule hk w')
    cases hok : areJobs xs
    · rw [hok] at hT hNo
      have hN := Lib.hid (fun w' hb => hNo.out w' rfl hb)
      have hT2 := Lib.hid (hT.out w (Below.refl _ _))
      rw [Bool.false_and] at hN ⊢
      obtain ⟨a, cap, hv1, -⟩ := h1.at_
      subst hv1
      clear hNo hT h1
      generalize ListPost (ruleO xs rule) false w = Q at *
      generalize xs.length = n at *
      go_enter Try.func20, Try.ntmps20
      go_wp2_with (first | (go_at_call 45; (with_reducible refine (hR.out _).mono ?_); rintro e w' ⟨rfl, rfl⟩) | (go_at_call 46; (with_reducible refine hT2.out.mono ?_); rintro e w' ⟨rfl, hb⟩; have hB1 := Lib.hid hb; clear hb))
      first | exact hN.out _ hB1.out | (go_ret2; exact hN.out _ hB1.out)
    · obtain ⟨n1, n24, hall⟩ := areJobs_of hok
      obtain ⟨b, o, cap, hv1, hbB, hc1, hc2, hcell⟩ := lstJob_block h1 (by omega)
      have hx4 : ∀ k, k < xs.length → ∀ j, j < 4 → w.cell? ⟨b, o + k * 4 + j, none⟩ = some (.int .i64 ((xs.getD k oneJob).row.map (fun v => intOf v) |>.getD j 0)) := fun k hk j hj => by
        obtain ⟨x, hx, c0, c1, c2, c3⟩ := hcell k hk
        rw [jobOne hx]
        rcases (show j = 0 ∨ j = 1 ∨ j = 2 ∨ j = 3 by omega) with rfl | rfl | rfl | rfl
        · exact c0
        · exact c1
        · exact c2
        · exact c3
      have hPl : Hid (∀ w1, Below w.heap.size w w1 → Calls Try.prog 47 #[v1, .func (.func (ruleFn rule)) #[] #[]] w1 fun e w' => ∃ v', e = .returned v' ∧ ListPost (ruleO xs rule) true w (.returned (.tuple #[v', .bool true])) w') := Lib.hid fun w1 hb => by
        subst hv1
        refine (placesJ_any (ruleFn rule) b o cap xs.length (fun k j => ((xs.getD k oneJob).row.map (fun v => intOf v)).getD j 0) (fun x y => ruleV rule (xs.getD x oneJob) (xs.getD y oneJob)) (ltW (ruleAt rule xs)) w1 (by have := hb.size; omega)
          (fun k j hk hj => by rw [hb.cell (p := ⟨b, o + k * 4 + j, none⟩) (show b < w.heap.size by omega)]; exact hx4 k hk j hj) hc1 hc2 n1 (by omega) (ruleTot hall _) (ruleFn_enters rule hk)
          (fun x y hx hy w9 => ?_) (fun x y hxy hy => ?_)).mono fun e w' hp => ?_
        · have kx : okJob (xs.getD x oneJob) = true := hall x _ (by rw [List.getD_eq_getElem?_getD, List.getElem?_eq_getElem hx]; rfl)
          have ky : okJob (xs.getD y oneJob) = true := hall y _ (by rw [List.getD_eq_getElem?_getD, List.getElem?_eq_getElem hy]; rfl)
          exact ruleFn_any rule hk _ _ kx ky w9
        · rw [ruleV_neg, ltW_later _ (by omega)]
          unfold ruleAt
          rw [Int.toNat_natCast, Int.toNat_natCast]
        · obtain ⟨g, f, rfl, hg, ho, hd, hb2⟩ := hp
          rw [ruleO_of hok hk hd] at ho
          exact ⟨_, rfl, list_yes rfl hb.size (ruleO_len' hok hk) ho (by omega) (below_on hb (Nat.le_refl _) hb2)⟩
      rw [hok] at hT
      have hT2 := Lib.hid (hT.out w (Below.refl _ _))
      rw [Bool.true_and]
      subst hv1
      clear hNo hT h1 hcell hx4 hall hc1 hc2 n1
      generalize ListPost (ruleO xs rule) true w = Q at *
      generalize ruleFn rule = F at *
      generalize xs.length = n at *
      go_enter Try.func20, Try.ntmps20
      go_wp2_with (first | (go_at_call 45; (with_reducible refine (hR.out _).mono ?_); rintro e w' ⟨rfl, rfl⟩) | (go_at_call 46; (with_reducible refine hT2.out.mono ?_); rintro e w' ⟨rfl, hb⟩; have hB1 := Lib.hid hb; clear hb) | (go_at_call 47; (with_reducible refine (hPl.out _ hB1.out).mono ?_); rintro e w' ⟨v', rfl, hp⟩; have hP := Lib.hid hp; clear hp))
      first | exact hP.out | (go_ret2; exact hP.out)
set_option maxHeartbeats 8000000 in
set_option maxRecDepth 100000 in
theorem l02By_any (B : Nat) (v1 : Value) (xs : List JobD) (rule : Int) (w : World) (h1 : LstJob B w v1 xs) (hB : B ≤ w.heap.size) (hok : areJobs xs = true) (hk3 : inB rule 0 3 = true) :
    Calls Try.prog 43 #[v1, .int .i64 rule] w fun e w' => ∃ v', e = .returned v' ∧ ListPost (ruleO xs rule) true w (.returned (.tuple #[v', .bool true])) w' := by
  obtain ⟨n1, n24, hall⟩ := areJobs_of hok
  obtain ⟨b, o, cap, hv1, hbB, hc1, hc2, hcell⟩ := lstJob_block h1 (by omega)
  have hBef : Hid (∀ w1 i q, Below w.heap.size w w1 → i < xs.length → q < xs.length → Calls Try.prog 73 #[.pointer (some ⟨b, o + i * 4, none⟩), .pointer (some ⟨b, o + q * 4, none⟩), .int .i64 rule] w1 (Ret (.bool (ruleB rule (xs.getD i oneJob) (xs.getD q oneJob))) w1)) := Lib.hid fun w1 i q hb hi hq => by
    obtain ⟨x, hx, c0, c1, c2, c3⟩ := hcell i hi
    obtain ⟨y, hy, d0, d1, d2, d3⟩ := hcell q hq
    have hbw : b < w.heap.size := by omega
    rw [jobOne hx, jobOne hy]
    exact l02Before_any rule hk3 b (o + i * 4) b (o + q * 4) x y (hall i x hx) (hall q y hy) w1 ((hb.cell (p := ⟨b, _, none⟩) hbw).trans c0) ((hb.cell (p := ⟨b, _, none⟩) hbw).trans c1) ((hb.cell (p := ⟨b, _, none⟩) hbw).trans c2) ((hb.cell (p := ⟨b, _, none⟩) hbw).trans c3) ((hb.cell (p := ⟨b, _, none⟩) hbw).trans d0) ((hb.cell (p := ⟨b, _, none⟩) hbw).trans d1) ((hb.cell (p := ⟨b, _, none⟩) hbw).trans d2) ((hb.cell (p := ⟨b, _, none⟩) hbw).trans d3)
  have hLt : Hid (∀ x y : Nat, x < y → ltW (ruleAt rule xs) (y : Int) (x : Int) = ruleB rule (xs.getD y oneJob) (xs.getD x oneJob)) := Lib.hid fun x y h => by
    rw [ltW_later _ (by omega)]
    unfold ruleAt
    rw [Int.toNat_natCast, Int.toNat_natCast]
  have hFx : Hid (∀ i, Srt.insTo (ltW (ruleAt rule xs)) i i = (i : Int) ∧ ∀ k, k < i → ∃ q : Nat, q < i ∧ Srt.insTo (ltW (ruleAt rule xs)) i k = (q : Int)) := Lib.hid fun i => by
    have hr := (Srt.sorted_to (ruleTot (rule := rule) hall xs.length) i).1
    refine ⟨hr.out i (.inr (Nat.le_refl _)), fun k hk => ?_⟩
    obtain ⟨l, _, l2, e⟩ := hr.from' k (Nat.zero_le _) hk
    exact ⟨l, l2, e⟩
  have hNext : Hid (∀ i, Srt.insTo (ltW (ruleAt rule xs)) (i + 1) = toLeft (Srt.insTo (ltW (ruleAt rule xs)) i) i (Srt.insC (ltW (ruleAt rule xs)) (Srt.insTo (ltW (ruleAt rule xs)) i) i i)) := Lib.hid fun i => rfl
  have hEnd : Hid (∀ w1 v, Below w.heap.size w w1 → w1.ownsRow w.heap.size 2 1 v xs.length (cellsF xs.length (Srt.insTo (ltW (ruleAt rule xs)) xs.length)) → ListPost (ruleO xs rule) true w (.returned (.tuple #[v, .bool true])) w1) := Lib.hid fun w1 v hb ho => by
    rw [ruleO_of hok hk3 (Srt.insTo_done (ruleTot (rule := rule) hall xs.length))] at ho
    exact list_yes rfl (Nat.le_refl _) (ruleO_len' hok hk3) ho (by omega) hb
  generalize hlt : ltW (ruleAt rule xs) = lt at *
  subst hv1
  clear hlt h1 hcell hok hall n1 hk3
  have hl1 := Nat.le_trans hc1 hc2
  generalize ListPost (ruleO xs rule) true w = Q at *
  obtain ⟨i0, hi, hz0, hz1, hz2⟩ := info_parts infoI
  generalize xs.length = n at *
  unfold maxLen at hl1
  have hO0 := Lib.hid (show (w.alloc (Obj.cells #[] 2)).ownsRow w.heap.size 2 1 (.slice (some ⟨w.heap.size, 0, none⟩) 0 0) 0 (cellsF 0 (Srt.insTo lt 0)) from World.ownsRow_lit w #[] 0 (Nat.le_refl _) (Nat.zero_le _) rfl)
  have hB0 := Lib.hid (below_alloc (Below.refl w.heap.size w) (.cells #[] 2))
  go_enter Try.func43, Try.ntmps43
  go_wp2_with fail
  go_loopw [5, 6] (fun ov iv wr => ∃ i : Nat, i ≤ n ∧ iv = .int .i64 i ∧ Hid (wr.ownsRow w.heap.size 2 1 ov i (cellsF i (Srt.insTo lt i))) ∧ Hid (Below w.heap.size w wr)) (fun _ iv _ => n - (intOf iv).toNat)
  case atStart => exact ⟨0, Nat.zero_le _, rfl, hO0, hB0⟩
  case round =>
    clear hO0 hB0
    obtain ⟨i, hi24, rfl, hO, hBw⟩ := hrel
    by_cases hlt : i < n
    · have hd : (i : Int) < (n : Int) := by omega
      have hsz := Lib.hid hBw.out.size
      go_wp2_with (at_builtin; refine wpList_append_own _ rfl _ _ _ rfl w.heap.size 2 i0 (.int .i64 0) 1 8 Try.underlying22 hi hz0 hz1 hz2 rfl (by decide) _ i _ rfl (hO.out.alloc _) ⟨wr.heap.size, 0, none⟩ 1 1 [.int .i64 (i : Int)] rfl rfl (news1 wr _ _) (one_int _) (by unfold maxLen; omega) (by omega) (by rw [World.size_alloc]; have := hsz.out; omega) ?_; intro v8 w8 hown8 hgrow8 hnil8; have hB8 := Lib.hid ((hBw.out.alloc hsz.out (.cells #[.int .i64 (i : Int)] 2)).grown hgrow8 (by rw [World.size_alloc]; have := hsz.out; omega) (fun g hg => (hO.out.lt g hg).1)); have hO8 := Lib.hid (show w8.ownsRow w.heap.size 2 1 v8 (i + 1) (cellsF (i + 1) (Srt.insTo lt i)) by rw [cellsF_snoc, (hFx.out i).1]; exact hown8); clear hown8 hgrow8 hnil8)
      obtain ⟨g, c, rfl, hg1, hg2, hc1, hc2⟩ := row_openL hO8.out (by omega)
      unfold maxLen at hc2
      have hGe := Lib.hid hg1
      have hR8 := Lib.hid (show Row w.heap.size g (i + 1) c w8 w8 (toLeft (Srt.insTo lt i) i i) from ⟨by rw [toLeft_zero]; exact hO8.out, grown_refl _ _⟩)
      clear hg2
      go_loopw [7] (fun kv wk => ∃ k : Nat, k ≤ i ∧ kv = .int .i64 k ∧ Hid (Srt.insC lt (Srt.insTo lt i) i k = Srt.insC lt (Srt.insTo lt i) i i) ∧ Hid (Row w.heap.size g (i + 1) c w8 wk (toLeft (Srt.insTo lt i) i k))) (fun kv _ => (intOf kv).toNat)
      case atStart => exact ⟨i, Nat.le_refl _, rfl, Lib.hid rfl, hR8⟩
      case round =>
        clear hR8
        obtain ⟨k, hki, rfl, hI, hRk⟩ := hrel
        have hBk := Lib.hid (hB8.out.grown hRk.out.kept hB8.out.size (fun q e => by injection e with e; rw [← e]; exact hGe.out))
        by_cases hk0 : 0 < k
        · obtain ⟨f0, fl⟩ := hFx.out i
          obtain ⟨q, hq, hfq⟩ := fl (k - 1) (by omega)
          have c1 := hRk.out.cell (k := k) (by omega)
          have c2 := hRk.out.cell (k := k - 1) (by omega)
          have f1 := hRk.out.frozen k
          have f2 := hRk.out.frozen (k - 1)
          have v1 : toLeft (Srt.insTo lt i) i k k = (i : Int) := by unfold toLeft; rw [if_pos rfl]; exact f0
          have v2 : toLeft (Srt.insTo lt i) i k (k - 1) = (q : Int) := by unfold toLeft; rw [if_neg (by omega), if_neg (by omega)]; exact hfq
          rw [v1] at c1
          rw [v2] at c2
          have hCb : Hid (∀ dm, Calls Try.prog 73 #[.pointer (some ⟨b, o + i * 4, none⟩), .pointer (some ⟨b, o + q * 4, none⟩), .int .i64 rule] (wr.drewN dm) (Ret (.bool (ruleB rule (xs.getD i oneJob) (xs.getD q oneJob))) (wr.drewN dm))) := Lib.hid fun dm => hBef.out _ i q (below_drewN hBk.out _) (by omega) (by omega)
          have hLq := hLt.out q i hq
          have hRm := Lib.hid (fun dm => hRk.out.drewN dm)
          have hS := Lib.hid (fun dm => (by
            have h2 := (hRk.out.drewN dm).set k (toLeft (Srt.insTo lt i) i k (k - 1))
            have h3 := h2.set (k - 1) (toLeft (Srt.insTo lt i) i k k)
            rw [swap_upd] at h3
            have h4 := toLeft_step (Srt.insTo lt i) i (k - 1) (by omega)
            rw [show k - 1 + 1 = k by omega] at h4
            rw [h4, v1, v2] at h3
            exact h3 : Row w.heap.size g (i + 1) c w8 (((wr.drewN dm).setCell ⟨g, k, none⟩ (.int .i64 (q : Int))).setCell ⟨g, k - 1, none⟩ (.int .i64 (i : Int))) (toLeft (Srt.insTo lt i) i (k - 1))))
          have hIn : Hid (Srt.insC lt (Srt.insTo lt i) i k = if lt (i : Int) (q : Int) then Srt.insC lt (Srt.insTo lt i) i (k - 1) else k) := Lib.hid (by
            obtain ⟨k', rfl⟩ : ∃ k', k = k' + 1 := ⟨k - 1, by omega⟩
            show (if lt (Srt.insTo lt i i) (Srt.insTo lt i k') then _ else _) = _
            rw [f0, show Srt.insTo lt i k' = (q : Int) from hfq]; rfl)
          rw [hLq] at hIn
          clear f0 fl hfq v1 v2 hLq
          generalize ruleB rule (xs.getD i oneJob) (xs.getD q oneJob) = bq at *
          have l1 : (i : Int) < (n : Int) := by omega
          have l2 : (q : Int) < (n : Int) := by omega
          have l3 : (k : Int) < ((i + 1 : Nat) : Int) := by omega
          have l4 : (k : Int) - 1 < ((i + 1 : Nat) : Int) := by omega
          have z1 : (0 : Int) ≤ (k : Int) - 1 := by omega
          have t3 : ((k : Int) - 1).toNat = k - 1 := by omega
          have hwk : IntKind.i64.wrap ((k : Int) - 1) = (k : Int) - 1 := IntWalk.i64_in _ (by omega)
          have hdk : (0 : Int) < (k : Int) := by omega
          have hdk2 : decide ((0 : Int) < (k : Int)) = true := decide_eq_true hdk
          generalize hi1 : i + 1 = i1 at *
          cases bq
          rotate_left
          · have hI2 := Lib.hid (show Srt.insC lt (Srt.insTo lt i) i (k - 1) = Srt.insC lt (Srt.insTo lt i) i i by
              have := hIn.out
              rw [if_pos rfl] at this
              rw [← this]; exact hI.out)
            have hK1 := Lib.hid (show k - 1 < i1 ∧ k < i1 by omega)
            have hi2 := Lib.hid hi1
            clear hI hIn hi1
            go_wp2_with fail
            go_quiet ((go_at_call 73; with_reducible exact Ret.quiet (hCb.out _)))
            go_wp2_with fail
            go_roundw
            case rel => exact ⟨k - 1, by omega, by go_num, hI2, Lib.hid (hS.out _)⟩
            case measure => simp [intOf]; omega
          · have hfin := Lib.hid (show toLeft (Srt.insTo lt i) i k = Srt.insTo lt i1 by
              rw [← hi1, hNext.out i]
              have := hIn.out
              rw [if_neg (by simp)] at this
              rw [← hI.out, this])
            have hi2 := Lib.hid hi1
            clear hI hIn hi1
            go_wp2_with fail
            go_quiet ((go_at_call 73; with_reducible exact Ret.quiet (hCb.out _)))
            go_wp2_with fail
            go_roundw
            case rel => exact ⟨i1, by have := hi2.out; omega, by have := hi2.out; go_num, Lib.hid (by rw [← hfin.out]; exact (hRm.out _).own), Lib.hid (below_drewN hBk.out _)⟩
            case measure => simp [intOf]; have := hi2.out; omega
        · obtain rfl : k = 0 := by omega
          have hfin := Lib.hid (show toLeft (Srt.insTo lt i) i 0 = Srt.insTo lt (i + 1) by
            rw [hNext.out i, ← hI.out]; rfl)
          have hdk2 : decide ((0 : Int) < ((0 : Nat) : Int)) = false := by decide
          have hRm := Lib.hid (fun dm => hRk.out.drewN dm)
          go_wp2_with fail
          go_quiet (fail)
          go_wp2_with fail
          go_roundw
          case rel => exact ⟨i + 1, by omega, by go_num, Lib.hid (by rw [← hfin.out]; exact (hRm.out _).own), Lib.hid (below_drewN hBk.out _)⟩
          case measure => simp [intOf]; omega
    · obtain rfl : i = n := by omega
      have hL := Lib.hid (hEnd.out wr _ hBw.out hO.out)
      go_wp2_with fail
      go_ret
      exact ⟨_, rfl, hL.out⟩
set_option maxHeartbeats 2000000 in
theorem specOrderBy_any (B : Nat) (v1 : Value) (xs : List JobD) (rule : Int) (w : World) (h1 : LstJob B w v1 xs) (hB : B ≤ w.heap.size) :
    Calls Try.prog 18 #[v1, .int .i64 rule] w (ListPost (ruleO xs rule) (areJobs xs && inB rule 0 3) w) := by
  have hNo : Hid (∀ w', (areJobs xs && inB rule 0 3) = false → Below w.heap.size w w' → ListPost (ruleO xs rule) (areJobs xs && inB rule 0 3) w (.returned (.tuple #[.slice none 0 0, .bool false])) w') := Lib.hid fun w' q hb => list_no (by unfold ruleO; rw [q]; rfl) q hb
  have hT := Lib.hid (l02Jobs_any B v1 xs w h1)
  have hI := Lib.hid (fun w1 => l00In_any rule 0 3 w1)
  cases hok : areJobs xs
  · rw [hok] at hT hNo
    have hN := Lib.hid (fun w' hb => hNo.out w' rfl hb)
    rw [Bool.false_and] at hN ⊢
    obtain ⟨a, cap, hv1, -⟩ := h1.at_
    subst hv1
    clear hNo h1
    generalize ListPost (ruleO xs rule) false w = Q at *
    generalize xs.length = n at *
    go_enter Try.func18, Try.ntmps18
    go_wp2_with (go_at_call 41; (with_reducible refine hT.out.mono ?_); rintro e w' ⟨m, rfl, rfl⟩; have hB1 := Lib.hid (below_drewN (Below.refl w.heap.size w) m))
    first | exact hN.out _ hB1.out | (go_ret2; exact hN.out _ hB1.out)
  · cases hk : inB rule 0 3
    · rw [hok, hk] at hNo
      rw [hok] at hT
      rw [hk] at hI
      have hN := Lib.hid (fun w' hb => hNo.out w' rfl hb)
      rw [Bool.and_false] at hN ⊢
      obtain ⟨a, cap, hv1, -⟩ := h1.at_
      subst hv1
      clear hNo h1
      generalize ListPost (ruleO xs rule) false w = Q at *
      generalize xs.length = n at *
      go_enter Try.func18, Try.ntmps18
      go_wp2_with (first | (go_at_call 41; (with_reducible refine hT.out.mono ?_); rintro e w' ⟨m, rfl, rfl⟩; have hB1 := Lib.hid (below_drewN (Below.refl w.heap.size w) m)) | (go_at_call 42; (with_reducible refine (hI.out _).mono ?_); rintro e w' ⟨rfl, rfl⟩))
      first | exact hN.out _ hB1.out | (go_ret2; exact hN.out _ hB1.out)
    · have hL : Hid (∀ m, Calls Try.prog 43 #[v1, .int .i64 rule] (w.drewN m) fun e w' => ∃ v', e = .returned v' ∧ ListPost (ruleO xs rule) true w (.returned (.tuple #[v', .bool true])) w') := Lib.hid fun m =>
        (l02By_any B v1 xs rule (w.drewN m) (h1.below (below_drewN (Below.refl w.heap.size w) m) hB) (by simpa using hB) hok hk).mono fun e w' ⟨v', he, hp⟩ => by
          obtain ⟨v9, e9, ho, hb⟩ := hp
          rw [show (w.drewN m).heap.size = w.heap.size by simp] at ho hb
          exact ⟨v', he, v9, e9, ho, below_on (below_drewN (Below.refl w.heap.size w) m) (Nat.le_refl _) (by rw [show (w.drewN m).heap.size = w.heap.size by simp]; exact hb)⟩
      rw [hok] at hT
      rw [hk] at hI
      rw [Bool.true_and]
      obtain ⟨a, cap, hv1, -⟩ := h1.at_
      subst hv1
      clear hNo h1
      generalize ListPost (ruleO xs rule) true w = Q at *
      generalize xs.length = n at *
      go_enter Try.func18, Try.ntmps18
      go_wp2_with (first | (go_at_call 41; (with_reducible refine hT.out.mono ?_); rintro e w' ⟨m, rfl, rfl⟩) | (go_at_call 42; (with_reducible refine (hI.out _).mono ?_); rintro e w' ⟨rfl, rfl⟩) | (go_at_call 43; (with_reducible refine (hL.out _).mono ?_); rintro e w' ⟨v', rfl, hp⟩; have hP := Lib.hid hp; clear hp))
      first | exact hP.out | (go_ret2; exact hP.out)
theorem orderBy_both (xs : List JobD) (rule : Int) (_ : ∀ y ∈ xs, y.wf) (_ : (Lit.int .i64 rule).wf = true) : ∃ (r0 : List Int) (r1 : Bool), r0.length ≤ 1048576 ∧
    (∀ (B : Nat) (v1 : Value) (w : World), LstJob B w v1 xs → B ≤ w.heap.size → Calls Try.prog 18 #[v1, .int .i64 rule] w fun e w' => ∃ v', e = .returned (.tuple #[v', .bool r1]) ∧ Lst.Own w.heap.size w'.heap.size w' v' 2 1 r0.length (r0.map (Value.int .i64)) ∧ Below w.heap.size w w') ∧
    (∀ (B : Nat) (v1 : Value) (w : World), LstJob B w v1 xs → B ≤ w.heap.size → Calls Try.prog 20 #[v1, .int .i64 rule] w fun e w' => ∃ v', e = .returned (.tuple #[v', .bool r1]) ∧ Lst.Own w.heap.size w'.heap.size w' v' 2 1 r0.length (r0.map (Value.int .i64)) ∧ Below w.heap.size w w') :=
  ⟨ruleO xs rule, areJobs xs && inB rule 0 3, ruleO_len xs rule, fun B v1 w h1 hB => specOrderBy_any B v1 xs rule w h1 hB, fun B v1 w h1 hB => implOrderBy_any B v1 xs rule w h1 hB⟩
end Go.Proofs.Ytehobcmjjcmfnaa
