/- Contracts: what an order of jobs costs, by its kind. -/
import Derived.Test.YtnkbnkiaokkjhaaEnds
import Derived.StillTailTactics
import Derived.Deep.RegionHeld3
namespace Go
section
variable {P : Program} {w : World} {a : Addr} {m : Mode}
@[go_sem] theorem run_store_func (f : Fn) (b c : Array Value) : (store a (.func f b c) m).run P w = stored P w a (.func f b c) m := run_store P w a _ m rfl
@[go_sem] theorem run_store_nilFunc : (store a .nilFunc m).run P w = stored P w a .nilFunc m := run_store P w a _ m rfl
end
end Go
namespace Go.Proofs.Ytnkbnkiaokkjhaa
open Go.RowKit Go.Lst Go.Plan

/-- What a job costs by its end. -/
def costPart (kind : Int) (x : JobD) (e : Int) : Int :=
  if kind = 0 then e else if kind = 1 then x.Weight * e else if kind = 2 then e - x.Due else if kind = 3 then x.Weight * max 0 (e - x.Due) else if x.Due < e then 1 else 0
def costBoth (kind a b : Int) : Int := if kind = 0 ∨ kind = 2 then max a b else a + b
def costNone (kind : Int) : Int := if kind = 0 ∨ kind = 2 then -9223372036854775808 else 0
def costTo (kind : Int) (xs : List JobD) (es : List Int) : Nat → Int
  | 0 => costNone kind
  | k + 1 => costBoth kind (costTo kind xs es k) (costPart kind (xs.getD k default) (es.getD k 0))
/-- The functions of a kind: of a job, and of two costs. -/
def kindJob (kind : Int) : Nat := if kind = 0 then 40 else if kind = 1 then 41 else if kind = 2 then 43 else if kind = 3 then 44 else 45
def kindJoin (kind : Int) : Nat := if kind = 0 ∨ kind = 2 then 39 else 42
def okEnd (x : JobD) (e : Int) : Prop := 0 ≤ x.Weight ∧ x.Weight ≤ 10000 ∧ 0 ≤ x.Due ∧ x.Due ≤ 10000 ∧ 0 ≤ e ∧ e ≤ 250000
theorem mul_bound {a b : Int} (h1 : 0 ≤ a) (h2 : a ≤ 10000) (h3 : 0 ≤ b) (h4 : b ≤ 250000) : 0 ≤ a * b ∧ a * b ≤ 2500000000 := by
  have := Int.mul_le_mul h2 h4 h3 (by omega)
  exact ⟨Int.mul_nonneg h1 h3, by omega⟩
theorem costPart_bound {kind : Int} {x : JobD} {e : Int} (h : okEnd x e) : -10000 ≤ costPart kind x e ∧ costPart kind x e ≤ 2500000000 := by
  obtain ⟨h1, h2, h3, h4, h5, h6⟩ := h
  have m1 := mul_bound h1 h2 h5 h6
  have m2 := mul_bound h1 h2 (b := max 0 (e - x.Due)) (by omega) (by omega)
  unfold costPart
  repeat (first | split | omega)

set_option maxHeartbeats 400000 in
theorem kind1_any (a b : Int) (w : World) : Calls Try.prog 39 #[.int .i64 a, .int .i64 b] w fun e w' => e = .returned (.int .i64 (max a b)) ∧ w = w' := by
  go_enter Try.func39, Try.ntmps39
  go_wp2
  all_goals
    go_ret
    exact ⟨ret_int (by omega), rfl⟩
set_option maxHeartbeats 400000 in
theorem sumOfTwo_any (a b : Int) (w : World) (h1 : -1000000000000 ≤ a) (h2 : a ≤ 1000000000000) (h3 : -1000000000000 ≤ b) (h4 : b ≤ 1000000000000) :
    Calls Try.prog 42 #[.int .i64 a, .int .i64 b] w fun e w' => e = .returned (.int .i64 (a + b)) ∧ w = w' := by
  go_enter Try.func42, Try.ntmps42
  go_wp2
  go_ret
  exact ⟨rfl, rfl⟩
set_option maxHeartbeats 1000000 in
theorem kind2_any (a b c d e : Int) (w : World) : Calls Try.prog 40 #[.agg #[.int .i64 a, .int .i64 b, .int .i64 c, .int .i64 d], .int .i64 e] w fun e' w' => e' = .returned (.int .i64 e) ∧ Below w.heap.size w w' := by
  go_enter Try.func40, Try.ntmps40
  go_wp2
  go_ret
  exact ⟨rfl, by repeat (first | exact Below.refl _ _ | refine below_alloc ?_ _ | refine below_drew ?_ _)⟩
set_option maxHeartbeats 1000000 in
theorem kind3_any (x : JobD) (e : Int) (w : World) (h : okEnd x e) : Calls Try.prog 41 #[.agg #[.int .i64 x.Time, .int .i64 x.Release, .int .i64 x.Due, .int .i64 x.Weight], .int .i64 e] w fun e' w' => e' = .returned (.int .i64 (x.Weight * e)) ∧ Below w.heap.size w w' := by
  obtain ⟨h1, h2, h3, h4, h5, h6⟩ := h
  obtain ⟨m1, m2⟩ := mul_bound h1 h2 h5 h6
  have hw : IntKind.i64.wrap (x.Weight * e) = x.Weight * e := IntWalk.i64_in _ (by omega)
  go_enter Try.func41, Try.ntmps41
  go_wp2
  go_ret
  exact ⟨rfl, by repeat (first | exact Below.refl _ _ | refine below_alloc ?_ _ | refine below_drew ?_ _)⟩
set_option maxHeartbeats 1000000 in
theorem kind4_any (x : JobD) (e : Int) (w : World) (h : okEnd x e) : Calls Try.prog 43 #[.agg #[.int .i64 x.Time, .int .i64 x.Release, .int .i64 x.Due, .int .i64 x.Weight], .int .i64 e] w fun e' w' => e' = .returned (.int .i64 (e - x.Due)) ∧ Below w.heap.size w w' := by
  obtain ⟨h1, h2, h3, h4, h5, h6⟩ := h
  go_enter Try.func43, Try.ntmps43
  go_wp2
  go_ret
  exact ⟨rfl, by repeat (first | exact Below.refl _ _ | refine below_alloc ?_ _ | refine below_drew ?_ _)⟩
set_option maxHeartbeats 1000000 in
theorem kind5_any (x : JobD) (e : Int) (w : World) (h : okEnd x e) : Calls Try.prog 44 #[.agg #[.int .i64 x.Time, .int .i64 x.Release, .int .i64 x.Due, .int .i64 x.Weight], .int .i64 e] w fun e' w' => e' = .returned (.int .i64 (x.Weight * max 0 (e - x.Due))) ∧ Below w.heap.size w w' := by
  obtain ⟨h1, h2, h3, h4, h5, h6⟩ := h
  obtain ⟨m1, m2⟩ := mul_bound h1 h2 (b := max 0 (e - x.Due)) (by omega) (by omega)
  by_cases hq : 0 < e - x.Due
  · have hv : max 0 (e - x.Due) = e - x.Due := by omega
    rw [hv] at m1 m2 ⊢
    have hw : IntKind.i64.wrap (x.Weight * (e - x.Due)) = x.Weight * (e - x.Due) := IntWalk.i64_in _ (by omega)
    clear hv
    go_enter Try.func44, Try.ntmps44
    go_wp2
    go_ret
    exact ⟨rfl, by repeat (first | exact Below.refl _ _ | refine below_alloc ?_ _ | refine below_drew ?_ _)⟩
  · have hv : max 0 (e - x.Due) = 0 := by omega
    rw [hv]
    have hd : decide (0 < e - x.Due) = false := decide_eq_false hq
    clear hv m1 m2
    go_enter Try.func44, Try.ntmps44
    go_wp2
    go_ret
    exact ⟨by simp, by repeat (first | exact Below.refl _ _ | refine below_alloc ?_ _ | refine below_drew ?_ _)⟩
set_option maxHeartbeats 1000000 in
theorem kind6_any (x : JobD) (e : Int) (w : World) (h : okEnd x e) : Calls Try.prog 45 #[.agg #[.int .i64 x.Time, .int .i64 x.Release, .int .i64 x.Due, .int .i64 x.Weight], .int .i64 e] w fun e' w' => e' = .returned (.int .i64 (if x.Due < e then 1 else 0)) ∧ Below w.heap.size w w' := by
  obtain ⟨h1, h2, h3, h4, h5, h6⟩ := h
  by_cases hq : 0 < e - x.Due
  · rw [if_pos (show x.Due < e by omega)]
    go_enter Try.func45, Try.ntmps45
    go_wp2
    all_goals
      go_ret
      exact ⟨ret_int (by omega), by repeat (first | exact Below.refl _ _ | refine below_alloc ?_ _ | refine below_drew ?_ _)⟩
  · rw [if_neg (show ¬ x.Due < e by omega)]
    have hd : decide (0 < e - x.Due) = false := decide_eq_false hq
    go_enter Try.func45, Try.ntmps45
    go_wp2
    all_goals
      go_ret
      exact ⟨ret_int (by omega), by repeat (first | exact Below.refl _ _ | refine below_alloc ?_ _ | refine below_drew ?_ _)⟩
abbrev aggJob (x : JobD) : Value := .agg #[.int .i64 x.Time, .int .i64 x.Release, .int .i64 x.Due, .int .i64 x.Weight]
def aggKind (kind : Int) : Value := .agg #[.func (.func (kindJob kind)) #[] #[], .func (.func (kindJoin kind)) #[] #[], .int .i64 (costNone kind)]
theorem kindJob_any (kind : Int) (hk : inB kind 0 4 = true) (x : JobD) (e : Int) (w : World) (h : okEnd x e) : Calls Try.prog (kindJob kind) #[aggJob x, .int .i64 e] w fun e' w' => e' = .returned (.int .i64 (costPart kind x e)) ∧ Below w.heap.size w w' := by
  obtain ⟨k1, k2⟩ := inB_true hk
  rcases (show kind = 0 ∨ kind = 1 ∨ kind = 2 ∨ kind = 3 ∨ kind = 4 by omega) with rfl | rfl | rfl | rfl | rfl
  · exact kind2_any _ _ _ _ _ w
  · exact kind3_any x e w h
  · exact kind4_any x e w h
  · exact kind5_any x e w h
  · exact kind6_any x e w h
theorem kindJoin_any (kind : Int) (hk : inB kind 0 4 = true) (a b : Int) (w : World) (h : kind = 0 ∨ kind = 2 ∨ ((-1000000000000 ≤ a ∧ a ≤ 1000000000000) ∧ (-1000000000000 ≤ b ∧ b ≤ 1000000000000))) :
    Calls Try.prog (kindJoin kind) #[.int .i64 a, .int .i64 b] w fun e' w' => e' = .returned (.int .i64 (costBoth kind a b)) ∧ w = w' := by
  obtain ⟨k1, k2⟩ := inB_true hk
  rcases (show kind = 0 ∨ kind = 1 ∨ kind = 2 ∨ kind = 3 ∨ kind = 4 by omega) with rfl | rfl | rfl | rfl | rfl
  · exact kind1_any a b w
  · obtain ⟨⟨h1, h2⟩, h3, h4⟩ := h.resolve_left (by decide) |>.resolve_left (by decide)
    exact sumOfTwo_any a b w h1 h2 h3 h4
  · exact kind1_any a b w
  · obtain ⟨⟨h1, h2⟩, h3, h4⟩ := h.resolve_left (by decide) |>.resolve_left (by decide)
    exact sumOfTwo_any a b w h1 h2 h3 h4
  · obtain ⟨⟨h1, h2⟩, h3, h4⟩ := h.resolve_left (by decide) |>.resolve_left (by decide)
    exact sumOfTwo_any a b w h1 h2 h3 h4
set_option maxHeartbeats 1000000 in
theorem costKindOf_yes (kind : Int) (hk : inB kind 0 4 = true) (w : World) : Calls Try.prog 23 #[.int .i64 kind] w fun e w' => e = .returned (.tuple #[aggKind kind, .bool true]) ∧ Below w.heap.size w w' := by
  obtain ⟨k1, k2⟩ := inB_true hk
  clear hk
  rcases (show kind = 0 ∨ kind = 1 ∨ kind = 2 ∨ kind = 3 ∨ kind = 4 by omega) with rfl | rfl | rfl | rfl | rfl
  all_goals
    clear k1 k2
    go_enter Try.func23, Try.ntmps23
    go_wp2
    refine bodyPost_ret (v := .tuple #[aggKind _, .bool true]) (by simp [results, Try.results23, go_sem]; rfl) rfl ⟨rfl, by repeat (first | exact Below.refl _ _ | refine below_alloc ?_ _ | refine below_drew ?_ _)⟩
set_option maxHeartbeats 1000000 in
theorem costKindOf_no (kind : Int) (hk : inB kind 0 4 = false) (w : World) : Calls Try.prog 23 #[.int .i64 kind] w fun e w' => e = .returned (.tuple #[.agg #[.nilFunc, .nilFunc, .int .i64 0], .bool false]) ∧ Below w.heap.size w w' := by
  have h := inB_false hk
  have e0 : (kind == 0) = false := by rw [beq_eq_false_iff_ne]; omega
  have e1 : (kind == 1) = false := by rw [beq_eq_false_iff_ne]; omega
  have e2 : (kind == 2) = false := by rw [beq_eq_false_iff_ne]; omega
  have e3 : (kind == 3) = false := by rw [beq_eq_false_iff_ne]; omega
  have e4 : (kind == 4) = false := by rw [beq_eq_false_iff_ne]; omega
  clear hk h
  go_enter Try.func23, Try.ntmps23
  go_wp2
  exact bodyPost_ret (v := .tuple #[.agg #[.nilFunc, .nilFunc, .int .i64 0], .bool false]) (by simp [results, Try.results23, go_sem]) rfl ⟨rfl, by repeat (first | exact Below.refl _ _ | refine below_alloc ?_ _ | refine below_drew ?_ _)⟩
/-- Costs of i jobs, where they are added, are small. -/
def CostIn (kind z : Int) (i : Nat) : Prop := kind = 0 ∨ kind = 2 ∨ (-10000 * (i : Int) ≤ z ∧ z ≤ 2500000000 * i)
theorem costBoth_bound {kind a b : Int} {i : Nat} (hk : inB kind 0 4 = true) (h : CostIn kind a i) (hb : -10000 ≤ b ∧ b ≤ 2500000000) :
    CostIn kind (costBoth kind a b) (i + 1) := by
  by_cases h0 : kind = 0
  · exact .inl h0
  by_cases h2 : kind = 2
  · exact .inr (.inl h2)
  obtain ⟨h3, h4⟩ := (h.resolve_left h0).resolve_left h2
  refine .inr (.inr ?_)
  unfold costBoth
  rw [if_neg (fun hc => hc.elim h0 h2)]
  omega
/-- What is known at place i. -/
theorem cost_at {xs : List JobD} {o : List Int} (hj : areJobs xs = true) (ho : isOrd o xs.length = true) (kind : Int) {k : Nat} (hk : k < xs.length) :
    ∃ (x : JobD) (e : Int), xs[k]? = some x ∧ (endsOf xs o)[k]? = some e ∧ okEnd x e ∧ costTo kind xs (endsOf xs o) (k + 1) = costBoth kind (costTo kind xs (endsOf xs o) k) (costPart kind x e) := by
  have hol := isOrd_len ho
  have h24 := (areJobs_of hj).2.1
  have e1 : xs[k]? = some xs[k] := List.getElem?_eq_getElem _
  have hlen := endsOf_length xs o
  have e2 : (endsOf xs o)[k]? = some ((endsOf xs o)[k]'(by omega)) := List.getElem?_eq_getElem _
  obtain ⟨_, _, hd, hw⟩ := okJob_of ((areJobs_of hj).2.2 k _ e1)
  have hs := (ends_small hj ho xs.length (Nat.le_refl _)).2 k
  have he : endsOf xs o = (endsTo xs o xs.length).2 := by unfold endsOf; rw [show o.length = xs.length by omega]
  rw [← he, getD_of e2] at hs
  refine ⟨_, _, e1, e2, ⟨hw.1, hw.2, hd.1, hd.2, hs.1, by omega⟩, ?_⟩
  show costBoth kind (costTo kind xs (endsOf xs o) k) (costPart kind (xs.getD k default) ((endsOf xs o).getD k 0)) = _
  rw [getD_of e2, List.getD_eq_getElem?_getD, e1]; rfl
set_option maxHeartbeats 4000000 in
set_option maxRecDepth 100000 in
theorem ofOrder_0 (B : Nat) (v1 v2 : Value) (xs : List JobD) (o : List Int) (w : World) (h1 : LstJob B w v1 xs) (h2 : LstI B w v2 o) (hj : areJobs xs = true) (ho : isOrd o xs.length = true) (hB : B ≤ w.heap.size) :
    Calls Try.prog 26 #[aggKind 0, v1, v2] w fun e w' => e = .returned (.int .i64 (costTo 0 xs (endsOf xs o) xs.length)) ∧ Below w.heap.size w w' := by
  have hE := Lib.hid (fun w1 (hb : Below w.heap.size w w1) => endsIn_any w.heap.size v1 v2 xs o w1 (LstJob.below (LstJob.mono h1 hB) hb (Nat.le_refl _)) ((h2.mono hB).below hb (Nat.le_refl _)) hj ho hb.size)
  have h24 := (areJobs_of hj).2.1
  have hK : Hid (∀ k, k < xs.length → _) := Lib.hid fun k (hk : k < xs.length) => cost_at hj ho 0 hk
  obtain ⟨a1, cap1, rfl, hl1, _, _, hc1⟩ := h1.at_
  have hC1 := Lib.hid hc1
  have hen := Lib.hid (endsOf_length xs o)
  have hZ0 : Hid (costTo 0 xs (endsOf xs o) 0 = costNone 0) := Lib.hid rfl
  have hKJ := Lib.hid (kindJob_any 0 (by decide))
  have hKB := Lib.hid (kindJoin_any 0 (by decide))
  have hBB := Lib.hid (fun (i : Nat) (a b : Int) => costBoth_bound (kind := 0) (a := a) (b := b) (i := i) (by decide))
  have hN : Hid (CostIn 0 (costNone 0) 0) := Lib.hid (by
    by_cases h0 : (0 : Int) = 0
    · exact .inl h0
    by_cases h2 : (0 : Int) = 2
    · exact .inr (.inl h2)
    refine .inr (.inr ?_)
    unfold costNone; rw [if_neg (fun hc => hc.elim h0 h2)]; omega)
  unfold aggKind
  rw [show kindJob 0 = 40 from rfl] at hKJ ⊢
  rw [show kindJoin 0 = 39 from rfl] at hKB ⊢
  generalize costNone 0 = z0 at *
  generalize endsOf xs o = es at *
  clear h1 h2 hj ho hc1
  generalize xs.length = n at *
  go_enter Try.func26, Try.ntmps26
  go_wp2_with fail
  generalize hwa : World.alloc w _ = wa at *
  have c0 : wa.cell? ⟨w.heap.size, 0, none⟩ = some (.func (.func 40) #[] #[]) := by rw [← hwa, World.cell?_alloc_at _ _ _ _ rfl]; rfl
  have c1 : wa.cell? ⟨w.heap.size, 1, none⟩ = some (.func (.func 39) #[] #[]) := by rw [← hwa, World.cell?_alloc_at _ _ _ _ rfl]; rfl
  have hBa := Lib.hid (show Below w.heap.size w wa by rw [← hwa]; exact below_alloc (Below.refl _ _) _)
  have hga : w.heap.size < wa.heap.size := by rw [← hwa]; simp
  clear hwa
  refine (hE.out wa hBa.out).mono ?_
  rintro e w2 ⟨v', rfl, ho, hb⟩
  have hB2 := Lib.hid (below_on hBa.out (Nat.le_refl _) hb)
  rw [← hb.cell (p := ⟨w.heap.size, 0, none⟩) hga] at c0
  rw [← hb.cell (p := ⟨w.heap.size, 1, none⟩) hga] at c1
  have hgb : w.heap.size < w2.heap.size := Nat.lt_of_lt_of_le hga hb.size
  have hL := Lib.hid (show LstI w2.heap.size w2 v' es by
    have := hen.out
    subst this
    exact ho.lstI (Nat.le_refl _))
  clear ho hb hga
  obtain ⟨ae, cape, hve, hle, _, _, hce⟩ := hL.out.at_
  rw [hen.out] at hve hle hce
  subst hve
  have hCE := Lib.hid hce
  clear hce hL
  generalize hg : w.heap.size = g at *
  have HG := Lib.hid hg
  clear hg
  go_wp2_with fail
  go_loopw [7, 16] (fun cv ii wr => ∃ (i : Nat) (z : Int), i ≤ n ∧ ii = .int .i64 i ∧ cv = .int .i64 z ∧ Hid (z = costTo 0 xs es i) ∧ Hid (CostIn 0 z i) ∧ Hid (Below w2.heap.size w2 wr)) (fun _ ii _ => n - (intOf ii).toNat)
  case atStart => exact ⟨0, z0, Nat.zero_le _, rfl, rfl, Lib.hid hZ0.out.symm, hN, Lib.hid (Below.refl _ _)⟩
  case round =>
    obtain ⟨i, z, hi, rfl, rfl, hZ, hbd, hBr⟩ := hrel
    by_cases hlt : i < n
    · obtain ⟨x, en, hx, hes, hoe, hF⟩ := hK.out i hlt
      obtain ⟨b1, o1, x', rfl, hbB1, hx', p0, p1, p2, p3⟩ := hC1.out i hlt
      obtain rfl : x' = x := by rw [hx] at hx'; exact (Option.some.inj hx').symm
      obtain ⟨b2, o2, e', rfl, hbB2, he', q0⟩ := hCE.out i hlt
      obtain rfl : e' = en := by rw [hes] at he'; exact (Option.some.inj he').symm
      have hs2 := hB2.out.size
      rw [← hB2.out.cell (p := ⟨b1, o1 + i * 4, none⟩) (show b1 < g by omega), ← hBr.out.cell (p := ⟨b1, o1 + i * 4, none⟩) (show b1 < w2.heap.size by omega)] at p0
      rw [← hB2.out.cell (p := ⟨b1, o1 + i * 4 + 1, none⟩) (show b1 < g by omega), ← hBr.out.cell (p := ⟨b1, o1 + i * 4 + 1, none⟩) (show b1 < w2.heap.size by omega)] at p1
      rw [← hB2.out.cell (p := ⟨b1, o1 + i * 4 + 2, none⟩) (show b1 < g by omega), ← hBr.out.cell (p := ⟨b1, o1 + i * 4 + 2, none⟩) (show b1 < w2.heap.size by omega)] at p2
      rw [← hB2.out.cell (p := ⟨b1, o1 + i * 4 + 3, none⟩) (show b1 < g by omega), ← hBr.out.cell (p := ⟨b1, o1 + i * 4 + 3, none⟩) (show b1 < w2.heap.size by omega)] at p3
      rw [← hBr.out.cell (p := ⟨b2, o2 + i, none⟩) hbB2] at q0
      rw [← hBr.out.cell (p := ⟨g, 0, none⟩) hgb] at c0
      rw [← hBr.out.cell (p := ⟨g, 1, none⟩) hgb] at c1
      have hOE := Lib.hid hoe
      have hPB := Lib.hid (costPart_bound (kind := 0) hoe)
      have hZ2 := Lib.hid (show costBoth 0 z (costPart 0 x' e') = costTo 0 xs es (i + 1) by rw [hF, hZ.out])
      have hb2 := Lib.hid (hBB.out i z (costPart 0 x' e') hbd.out hPB.out)
      have hsafe := Lib.hid (show (0 : Int) = 0 ∨ (0 : Int) = 2 ∨ ((-1000000000000 ≤ z ∧ z ≤ 1000000000000) ∧ (-1000000000000 ≤ costPart 0 x' e' ∧ costPart 0 x' e' ≤ 1000000000000)) by
        have h9 := hPB.out
        rcases hbd.out with h | h | ⟨h3, h4⟩
        · exact .inl h
        · exact .inr (.inl h)
        · exact .inr (.inr ⟨⟨by omega, by omega⟩, by omega, by omega⟩))
      clear hx hx' hes he' hF hbB1 hbB2 hoe hs2
      go_wp2_with fail
      have hgw : g < wr.heap.size := Nat.lt_of_lt_of_le hgb hBr.out.size
      have hS0 : Hid (∀ w' : World, Below wr.heap.size wr w' → (w'.cell? ⟨b1, o1 + i * 4, none⟩ = some (.int .i64 x'.Time) ∧ w'.cell? ⟨b1, o1 + i * 4 + 1, none⟩ = some (.int .i64 x'.Release) ∧ w'.cell? ⟨b1, o1 + i * 4 + 2, none⟩ = some (.int .i64 x'.Due) ∧ w'.cell? ⟨b1, o1 + i * 4 + 3, none⟩ = some (.int .i64 x'.Weight) ∧ w'.cell? ⟨g, 0, none⟩ = wr.cell? ⟨g, 0, none⟩ ∧ w'.cell? ⟨g, 1, none⟩ = wr.cell? ⟨g, 1, none⟩) ∧ Below wr.heap.size wr w') := Lib.hid fun w' hb => by
        have hb1w : b1 < wr.heap.size := World.block_lt_of_cell? wr _ p0
        exact ⟨⟨(hb.cell (p := ⟨b1, o1 + i * 4, none⟩) hb1w).trans p0, (hb.cell (p := ⟨b1, o1 + i * 4 + 1, none⟩) hb1w).trans p1, (hb.cell (p := ⟨b1, o1 + i * 4 + 2, none⟩) hb1w).trans p2, (hb.cell (p := ⟨b1, o1 + i * 4 + 3, none⟩) hb1w).trans p3, hb.cell (p := ⟨g, 0, none⟩) hgw, hb.cell (p := ⟨g, 1, none⟩) hgw⟩, hb⟩
      rw [c0, c1] at hS0
      have hB0 := Below.refl wr.heap.size wr
      go_region_held3 (fun w' => (w'.cell? ⟨b1, o1 + i * 4, none⟩ = some (.int .i64 x'.Time) ∧ w'.cell? ⟨b1, o1 + i * 4 + 1, none⟩ = some (.int .i64 x'.Release) ∧ w'.cell? ⟨b1, o1 + i * 4 + 2, none⟩ = some (.int .i64 x'.Due) ∧ w'.cell? ⟨b1, o1 + i * 4 + 3, none⟩ = some (.int .i64 x'.Weight) ∧ w'.cell? ⟨g, 0, none⟩ = some (.func (.func 40) #[] #[]) ∧ w'.cell? ⟨g, 1, none⟩ = some (.func (.func 39) #[] #[])) ∧ Below wr.heap.size wr w') ((first | assumption | exact h7 | (refine hS0.out _ ?_; assumption) | (refine hS0.out _ (Below.drew ?_); assumption) | (refine hS0.out _ (below_on ?_ (Nat.le_refl _) ?_); rotate_left; assumption; (first | assumption | exact And.right (by assumption) | exact Below.drew (Below.refl _ _) | exact Below.drew (And.right (by assumption)))) | (refine hS0.out _ ?_; exact And.right (by assumption)) | (refine hS0.out _ (Below.drew ?_); exact And.right (by assumption)))) (first | ((with_reducible refine (hKJ.out x' e' _ hOE.out).mono ?_); rintro e w6 ⟨rfl, hb6⟩; have h7 := hS0.out w6 (below_on (Below.drew (Below.refl wr.heap.size wr)) (Nat.le_refl _) hb6)) | ((with_reducible refine (hKB.out z (costPart 0 x' e') _ hsafe.out).mono ?_); rintro e w7 ⟨rfl, rfl⟩))
      go_wp2_with fail
      first | exact ⟨⟨i + 1, _, by omega, by go_num, rfl, hZ2, hb2, Lib.hid (below_on (Lst.Below.drewN hBr.out 1) (Nat.le_refl _) hb6)⟩, by simp [intOf]; omega⟩ | exact ⟨⟨i + 1, _, by omega, by go_num, rfl, hZ2, hb2, Lib.hid (below_on hBr.out.drew (Nat.le_refl _) hb6)⟩, by simp [intOf]; omega⟩
    · have hZ2 := Lib.hid (show z = costTo 0 xs es n by rw [hZ.out, show i = n by omega])
      go_wp2
      go_ret
      exact ⟨ret_int hZ2.out, by have hh := HG.out; subst hh; exact below_on hB2.out (Nat.le_refl _) hBr.out⟩

set_option maxHeartbeats 4000000 in
set_option maxRecDepth 100000 in
theorem ofOrder_1 (B : Nat) (v1 v2 : Value) (xs : List JobD) (o : List Int) (w : World) (h1 : LstJob B w v1 xs) (h2 : LstI B w v2 o) (hj : areJobs xs = true) (ho : isOrd o xs.length = true) (hB : B ≤ w.heap.size) :
    Calls Try.prog 26 #[aggKind 1, v1, v2] w fun e w' => e = .returned (.int .i64 (costTo 1 xs (endsOf xs o) xs.length)) ∧ Below w.heap.size w w' := by
  have hE := Lib.hid (fun w1 (hb : Below w.heap.size w w1) => endsIn_any w.heap.size v1 v2 xs o w1 (LstJob.below (LstJob.mono h1 hB) hb (Nat.le_refl _)) ((h2.mono hB).below hb (Nat.le_refl _)) hj ho hb.size)
  have h24 := (areJobs_of hj).2.1
  have hK : Hid (∀ k, k < xs.length → _) := Lib.hid fun k (hk : k < xs.length) => cost_at hj ho 1 hk
  obtain ⟨a1, cap1, rfl, hl1, _, _, hc1⟩ := h1.at_
  have hC1 := Lib.hid hc1
  have hen := Lib.hid (endsOf_length xs o)
  have hZ0 : Hid (costTo 1 xs (endsOf xs o) 0 = costNone 1) := Lib.hid rfl
  have hKJ := Lib.hid (kindJob_any 1 (by decide))
  have hKB := Lib.hid (kindJoin_any 1 (by decide))
  have hBB := Lib.hid (fun (i : Nat) (a b : Int) => costBoth_bound (kind := 1) (a := a) (b := b) (i := i) (by decide))
  have hN : Hid (CostIn 1 (costNone 1) 0) := Lib.hid (by
    by_cases h0 : (1 : Int) = 0
    · exact .inl h0
    by_cases h2 : (1 : Int) = 2
    · exact .inr (.inl h2)
    refine .inr (.inr ?_)
    unfold costNone; rw [if_neg (fun hc => hc.elim h0 h2)]; omega)
  unfold aggKind
  rw [show kindJob 1 = 41 from rfl] at hKJ ⊢
  rw [show kindJoin 1 = 42 from rfl] at hKB ⊢
  generalize costNone 1 = z0 at *
  generalize endsOf xs o = es at *
  clear h1 h2 hj ho hc1
  generalize xs.length = n at *
  go_enter Try.func26, Try.ntmps26
  go_wp2_with fail
  generalize hwa : World.alloc w _ = wa at *
  have c0 : wa.cell? ⟨w.heap.size, 0, none⟩ = some (.func (.func 41) #[] #[]) := by rw [← hwa, World.cell?_alloc_at _ _ _ _ rfl]; rfl
  have c1 : wa.cell? ⟨w.heap.size, 1, none⟩ = some (.func (.func 42) #[] #[]) := by rw [← hwa, World.cell?_alloc_at _ _ _ _ rfl]; rfl
  have hBa := Lib.hid (show Below w.heap.size w wa by rw [← hwa]; exact below_alloc (Below.refl _ _) _)
  have hga : w.heap.size < wa.heap.size := by rw [← hwa]; simp
  clear hwa
  refine (hE.out wa hBa.out).mono ?_
  rintro e w2 ⟨v', rfl, ho, hb⟩
  have hB2 := Lib.hid (below_on hBa.out (Nat.le_refl _) hb)
  rw [← hb.cell (p := ⟨w.heap.size, 0, none⟩) hga] at c0
  rw [← hb.cell (p := ⟨w.heap.size, 1, none⟩) hga] at c1
  have hgb : w.heap.size < w2.heap.size := Nat.lt_of_lt_of_le hga hb.size
  have hL := Lib.hid (show LstI w2.heap.size w2 v' es by
    have := hen.out
    subst this
    exact ho.lstI (Nat.le_refl _))
  clear ho hb hga
  obtain ⟨ae, cape, hve, hle, _, _, hce⟩ := hL.out.at_
  rw [hen.out] at hve hle hce
  subst hve
  have hCE := Lib.hid hce
  clear hce hL
  generalize hg : w.heap.size = g at *
  have HG := Lib.hid hg
  clear hg
  go_wp2_with fail
  go_loopw [7, 16] (fun cv ii wr => ∃ (i : Nat) (z : Int), i ≤ n ∧ ii = .int .i64 i ∧ cv = .int .i64 z ∧ Hid (z = costTo 1 xs es i) ∧ Hid (CostIn 1 z i) ∧ Hid (Below w2.heap.size w2 wr)) (fun _ ii _ => n - (intOf ii).toNat)
  case atStart => exact ⟨0, z0, Nat.zero_le _, rfl, rfl, Lib.hid hZ0.out.symm, hN, Lib.hid (Below.refl _ _)⟩
  case round =>
    obtain ⟨i, z, hi, rfl, rfl, hZ, hbd, hBr⟩ := hrel
    by_cases hlt : i < n
    · obtain ⟨x, en, hx, hes, hoe, hF⟩ := hK.out i hlt
      obtain ⟨b1, o1, x', rfl, hbB1, hx', p0, p1, p2, p3⟩ := hC1.out i hlt
      obtain rfl : x' = x := by rw [hx] at hx'; exact (Option.some.inj hx').symm
      obtain ⟨b2, o2, e', rfl, hbB2, he', q0⟩ := hCE.out i hlt
      obtain rfl : e' = en := by rw [hes] at he'; exact (Option.some.inj he').symm
      have hs2 := hB2.out.size
      rw [← hB2.out.cell (p := ⟨b1, o1 + i * 4, none⟩) (show b1 < g by omega), ← hBr.out.cell (p := ⟨b1, o1 + i * 4, none⟩) (show b1 < w2.heap.size by omega)] at p0
      rw [← hB2.out.cell (p := ⟨b1, o1 + i * 4 + 1, none⟩) (show b1 < g by omega), ← hBr.out.cell (p := ⟨b1, o1 + i * 4 + 1, none⟩) (show b1 < w2.heap.size by omega)] at p1
      rw [← hB2.out.cell (p := ⟨b1, o1 + i * 4 + 2, none⟩) (show b1 < g by omega), ← hBr.out.cell (p := ⟨b1, o1 + i * 4 + 2, none⟩) (show b1 < w2.heap.size by omega)] at p2
      rw [← hB2.out.cell (p := ⟨b1, o1 + i * 4 + 3, none⟩) (show b1 < g by omega), ← hBr.out.cell (p := ⟨b1, o1 + i * 4 + 3, none⟩) (show b1 < w2.heap.size by omega)] at p3
      rw [← hBr.out.cell (p := ⟨b2, o2 + i, none⟩) hbB2] at q0
      rw [← hBr.out.cell (p := ⟨g, 0, none⟩) hgb] at c0
      rw [← hBr.out.cell (p := ⟨g, 1, none⟩) hgb] at c1
      have hOE := Lib.hid hoe
      have hPB := Lib.hid (costPart_bound (kind := 1) hoe)
      have hZ2 := Lib.hid (show costBoth 1 z (costPart 1 x' e') = costTo 1 xs es (i + 1) by rw [hF, hZ.out])
      have hb2 := Lib.hid (hBB.out i z (costPart 1 x' e') hbd.out hPB.out)
      have hsafe := Lib.hid (show (1 : Int) = 0 ∨ (1 : Int) = 2 ∨ ((-1000000000000 ≤ z ∧ z ≤ 1000000000000) ∧ (-1000000000000 ≤ costPart 1 x' e' ∧ costPart 1 x' e' ≤ 1000000000000)) by
        have h9 := hPB.out
        rcases hbd.out with h | h | ⟨h3, h4⟩
        · exact .inl h
        · exact .inr (.inl h)
        · exact .inr (.inr ⟨⟨by omega, by omega⟩, by omega, by omega⟩))
      clear hx hx' hes he' hF hbB1 hbB2 hoe hs2
      go_wp2_with fail
      have hgw : g < wr.heap.size := Nat.lt_of_lt_of_le hgb hBr.out.size
      have hS0 : Hid (∀ w' : World, Below wr.heap.size wr w' → (w'.cell? ⟨b1, o1 + i * 4, none⟩ = some (.int .i64 x'.Time) ∧ w'.cell? ⟨b1, o1 + i * 4 + 1, none⟩ = some (.int .i64 x'.Release) ∧ w'.cell? ⟨b1, o1 + i * 4 + 2, none⟩ = some (.int .i64 x'.Due) ∧ w'.cell? ⟨b1, o1 + i * 4 + 3, none⟩ = some (.int .i64 x'.Weight) ∧ w'.cell? ⟨g, 0, none⟩ = wr.cell? ⟨g, 0, none⟩ ∧ w'.cell? ⟨g, 1, none⟩ = wr.cell? ⟨g, 1, none⟩) ∧ Below wr.heap.size wr w') := Lib.hid fun w' hb => by
        have hb1w : b1 < wr.heap.size := World.block_lt_of_cell? wr _ p0
        exact ⟨⟨(hb.cell (p := ⟨b1, o1 + i * 4, none⟩) hb1w).trans p0, (hb.cell (p := ⟨b1, o1 + i * 4 + 1, none⟩) hb1w).trans p1, (hb.cell (p := ⟨b1, o1 + i * 4 + 2, none⟩) hb1w).trans p2, (hb.cell (p := ⟨b1, o1 + i * 4 + 3, none⟩) hb1w).trans p3, hb.cell (p := ⟨g, 0, none⟩) hgw, hb.cell (p := ⟨g, 1, none⟩) hgw⟩, hb⟩
      rw [c0, c1] at hS0
      have hB0 := Below.refl wr.heap.size wr
      go_region_held3 (fun w' => (w'.cell? ⟨b1, o1 + i * 4, none⟩ = some (.int .i64 x'.Time) ∧ w'.cell? ⟨b1, o1 + i * 4 + 1, none⟩ = some (.int .i64 x'.Release) ∧ w'.cell? ⟨b1, o1 + i * 4 + 2, none⟩ = some (.int .i64 x'.Due) ∧ w'.cell? ⟨b1, o1 + i * 4 + 3, none⟩ = some (.int .i64 x'.Weight) ∧ w'.cell? ⟨g, 0, none⟩ = some (.func (.func 41) #[] #[]) ∧ w'.cell? ⟨g, 1, none⟩ = some (.func (.func 42) #[] #[])) ∧ Below wr.heap.size wr w') ((first | assumption | exact h7 | (refine hS0.out _ ?_; assumption) | (refine hS0.out _ (Below.drew ?_); assumption) | (refine hS0.out _ (below_on ?_ (Nat.le_refl _) ?_); rotate_left; assumption; (first | assumption | exact And.right (by assumption) | exact Below.drew (Below.refl _ _) | exact Below.drew (And.right (by assumption)))) | (refine hS0.out _ ?_; exact And.right (by assumption)) | (refine hS0.out _ (Below.drew ?_); exact And.right (by assumption)))) (first | ((with_reducible refine (hKJ.out x' e' _ hOE.out).mono ?_); rintro e w6 ⟨rfl, hb6⟩; have h7 := hS0.out w6 (below_on (Below.drew (Below.refl wr.heap.size wr)) (Nat.le_refl _) hb6)) | ((with_reducible refine (hKB.out z (costPart 1 x' e') _ hsafe.out).mono ?_); rintro e w7 ⟨rfl, rfl⟩))
      go_wp2_with fail
      first | exact ⟨⟨i + 1, _, by omega, by go_num, rfl, hZ2, hb2, Lib.hid (below_on (Lst.Below.drewN hBr.out 1) (Nat.le_refl _) hb6)⟩, by simp [intOf]; omega⟩ | exact ⟨⟨i + 1, _, by omega, by go_num, rfl, hZ2, hb2, Lib.hid (below_on hBr.out.drew (Nat.le_refl _) hb6)⟩, by simp [intOf]; omega⟩
    · have hZ2 := Lib.hid (show z = costTo 1 xs es n by rw [hZ.out, show i = n by omega])
      go_wp2
      go_ret
      exact ⟨ret_int hZ2.out, by have hh := HG.out; subst hh; exact below_on hB2.out (Nat.le_refl _) hBr.out⟩

set_option maxHeartbeats 4000000 in
set_option maxRecDepth 100000 in
theorem ofOrder_2 (B : Nat) (v1 v2 : Value) (xs : List JobD) (o : List Int) (w : World) (h1 : LstJob B w v1 xs) (h2 : LstI B w v2 o) (hj : areJobs xs = true) (ho : isOrd o xs.length = true) (hB : B ≤ w.heap.size) :
    Calls Try.prog 26 #[aggKind 2, v1, v2] w fun e w' => e = .returned (.int .i64 (costTo 2 xs (endsOf xs o) xs.length)) ∧ Below w.heap.size w w' := by
  have hE := Lib.hid (fun w1 (hb : Below w.heap.size w w1) => endsIn_any w.heap.size v1 v2 xs o w1 (LstJob.below (LstJob.mono h1 hB) hb (Nat.le_refl _)) ((h2.mono hB).below hb (Nat.le_refl _)) hj ho hb.size)
  have h24 := (areJobs_of hj).2.1
  have hK : Hid (∀ k, k < xs.length → _) := Lib.hid fun k (hk : k < xs.length) => cost_at hj ho 2 hk
  obtain ⟨a1, cap1, rfl, hl1, _, _, hc1⟩ := h1.at_
  have hC1 := Lib.hid hc1
  have hen := Lib.hid (endsOf_length xs o)
  have hZ0 : Hid (costTo 2 xs (endsOf xs o) 0 = costNone 2) := Lib.hid rfl
  have hKJ := Lib.hid (kindJob_any 2 (by decide))
  have hKB := Lib.hid (kindJoin_any 2 (by decide))
  have hBB := Lib.hid (fun (i : Nat) (a b : Int) => costBoth_bound (kind := 2) (a := a) (b := b) (i := i) (by decide))
  have hN : Hid (CostIn 2 (costNone 2) 0) := Lib.hid (by
    by_cases h0 : (2 : Int) = 0
    · exact .inl h0
    by_cases h2 : (2 : Int) = 2
    · exact .inr (.inl h2)
    refine .inr (.inr ?_)
    unfold costNone; rw [if_neg (fun hc => hc.elim h0 h2)]; omega)
  unfold aggKind
  rw [show kindJob 2 = 43 from rfl] at hKJ ⊢
  rw [show kindJoin 2 = 39 from rfl] at hKB ⊢
  generalize costNone 2 = z0 at *
  generalize endsOf xs o = es at *
  clear h1 h2 hj ho hc1
  generalize xs.length = n at *
  go_enter Try.func26, Try.ntmps26
  go_wp2_with fail
  generalize hwa : World.alloc w _ = wa at *
  have c0 : wa.cell? ⟨w.heap.size, 0, none⟩ = some (.func (.func 43) #[] #[]) := by rw [← hwa, World.cell?_alloc_at _ _ _ _ rfl]; rfl
  have c1 : wa.cell? ⟨w.heap.size, 1, none⟩ = some (.func (.func 39) #[] #[]) := by rw [← hwa, World.cell?_alloc_at _ _ _ _ rfl]; rfl
  have hBa := Lib.hid (show Below w.heap.size w wa by rw [← hwa]; exact below_alloc (Below.refl _ _) _)
  have hga : w.heap.size < wa.heap.size := by rw [← hwa]; simp
  clear hwa
  refine (hE.out wa hBa.out).mono ?_
  rintro e w2 ⟨v', rfl, ho, hb⟩
  have hB2 := Lib.hid (below_on hBa.out (Nat.le_refl _) hb)
  rw [← hb.cell (p := ⟨w.heap.size, 0, none⟩) hga] at c0
  rw [← hb.cell (p := ⟨w.heap.size, 1, none⟩) hga] at c1
  have hgb : w.heap.size < w2.heap.size := Nat.lt_of_lt_of_le hga hb.size
  have hL := Lib.hid (show LstI w2.heap.size w2 v' es by
    have := hen.out
    subst this
    exact ho.lstI (Nat.le_refl _))
  clear ho hb hga
  obtain ⟨ae, cape, hve, hle, _, _, hce⟩ := hL.out.at_
  rw [hen.out] at hve hle hce
  subst hve
  have hCE := Lib.hid hce
  clear hce hL
  generalize hg : w.heap.size = g at *
  have HG := Lib.hid hg
  clear hg
  go_wp2_with fail
  go_loopw [7, 16] (fun cv ii wr => ∃ (i : Nat) (z : Int), i ≤ n ∧ ii = .int .i64 i ∧ cv = .int .i64 z ∧ Hid (z = costTo 2 xs es i) ∧ Hid (CostIn 2 z i) ∧ Hid (Below w2.heap.size w2 wr)) (fun _ ii _ => n - (intOf ii).toNat)
  case atStart => exact ⟨0, z0, Nat.zero_le _, rfl, rfl, Lib.hid hZ0.out.symm, hN, Lib.hid (Below.refl _ _)⟩
  case round =>
    obtain ⟨i, z, hi, rfl, rfl, hZ, hbd, hBr⟩ := hrel
    by_cases hlt : i < n
    · obtain ⟨x, en, hx, hes, hoe, hF⟩ := hK.out i hlt
      obtain ⟨b1, o1, x', rfl, hbB1, hx', p0, p1, p2, p3⟩ := hC1.out i hlt
      obtain rfl : x' = x := by rw [hx] at hx'; exact (Option.some.inj hx').symm
      obtain ⟨b2, o2, e', rfl, hbB2, he', q0⟩ := hCE.out i hlt
      obtain rfl : e' = en := by rw [hes] at he'; exact (Option.some.inj he').symm
      have hs2 := hB2.out.size
      rw [← hB2.out.cell (p := ⟨b1, o1 + i * 4, none⟩) (show b1 < g by omega), ← hBr.out.cell (p := ⟨b1, o1 + i * 4, none⟩) (show b1 < w2.heap.size by omega)] at p0
      rw [← hB2.out.cell (p := ⟨b1, o1 + i * 4 + 1, none⟩) (show b1 < g by omega), ← hBr.out.cell (p := ⟨b1, o1 + i * 4 + 1, none⟩) (show b1 < w2.heap.size by omega)] at p1
      rw [← hB2.out.cell (p := ⟨b1, o1 + i * 4 + 2, none⟩) (show b1 < g by omega), ← hBr.out.cell (p := ⟨b1, o1 + i * 4 + 2, none⟩) (show b1 < w2.heap.size by omega)] at p2
      rw [← hB2.out.cell (p := ⟨b1, o1 + i * 4 + 3, none⟩) (show b1 < g by omega), ← hBr.out.cell (p := ⟨b1, o1 + i * 4 + 3, none⟩) (show b1 < w2.heap.size by omega)] at p3
      rw [← hBr.out.cell (p := ⟨b2, o2 + i, none⟩) hbB2] at q0
      rw [← hBr.out.cell (p := ⟨g, 0, none⟩) hgb] at c0
      rw [← hBr.out.cell (p := ⟨g, 1, none⟩) hgb] at c1
      have hOE := Lib.hid hoe
      have hPB := Lib.hid (costPart_bound (kind := 2) hoe)
      have hZ2 := Lib.hid (show costBoth 2 z (costPart 2 x' e') = costTo 2 xs es (i + 1) by rw [hF, hZ.out])
      have hb2 := Lib.hid (hBB.out i z (costPart 2 x' e') hbd.out hPB.out)
      have hsafe := Lib.hid (show (2 : Int) = 0 ∨ (2 : Int) = 2 ∨ ((-1000000000000 ≤ z ∧ z ≤ 1000000000000) ∧ (-1000000000000 ≤ costPart 2 x' e' ∧ costPart 2 x' e' ≤ 1000000000000)) by
        have h9 := hPB.out
        rcases hbd.out with h | h | ⟨h3, h4⟩
        · exact .inl h
        · exact .inr (.inl h)
        · exact .inr (.inr ⟨⟨by omega, by omega⟩, by omega, by omega⟩))
      clear hx hx' hes he' hF hbB1 hbB2 hoe hs2
      go_wp2_with fail
      have hgw : g < wr.heap.size := Nat.lt_of_lt_of_le hgb hBr.out.size
      have hS0 : Hid (∀ w' : World, Below wr.heap.size wr w' → (w'.cell? ⟨b1, o1 + i * 4, none⟩ = some (.int .i64 x'.Time) ∧ w'.cell? ⟨b1, o1 + i * 4 + 1, none⟩ = some (.int .i64 x'.Release) ∧ w'.cell? ⟨b1, o1 + i * 4 + 2, none⟩ = some (.int .i64 x'.Due) ∧ w'.cell? ⟨b1, o1 + i * 4 + 3, none⟩ = some (.int .i64 x'.Weight) ∧ w'.cell? ⟨g, 0, none⟩ = wr.cell? ⟨g, 0, none⟩ ∧ w'.cell? ⟨g, 1, none⟩ = wr.cell? ⟨g, 1, none⟩) ∧ Below wr.heap.size wr w') := Lib.hid fun w' hb => by
        have hb1w : b1 < wr.heap.size := World.block_lt_of_cell? wr _ p0
        exact ⟨⟨(hb.cell (p := ⟨b1, o1 + i * 4, none⟩) hb1w).trans p0, (hb.cell (p := ⟨b1, o1 + i * 4 + 1, none⟩) hb1w).trans p1, (hb.cell (p := ⟨b1, o1 + i * 4 + 2, none⟩) hb1w).trans p2, (hb.cell (p := ⟨b1, o1 + i * 4 + 3, none⟩) hb1w).trans p3, hb.cell (p := ⟨g, 0, none⟩) hgw, hb.cell (p := ⟨g, 1, none⟩) hgw⟩, hb⟩
      rw [c0, c1] at hS0
      have hB0 := Below.refl wr.heap.size wr
      go_region_held3 (fun w' => (w'.cell? ⟨b1, o1 + i * 4, none⟩ = some (.int .i64 x'.Time) ∧ w'.cell? ⟨b1, o1 + i * 4 + 1, none⟩ = some (.int .i64 x'.Release) ∧ w'.cell? ⟨b1, o1 + i * 4 + 2, none⟩ = some (.int .i64 x'.Due) ∧ w'.cell? ⟨b1, o1 + i * 4 + 3, none⟩ = some (.int .i64 x'.Weight) ∧ w'.cell? ⟨g, 0, none⟩ = some (.func (.func 43) #[] #[]) ∧ w'.cell? ⟨g, 1, none⟩ = some (.func (.func 39) #[] #[])) ∧ Below wr.heap.size wr w') ((first | assumption | exact h7 | (refine hS0.out _ ?_; assumption) | (refine hS0.out _ (Below.drew ?_); assumption) | (refine hS0.out _ (below_on ?_ (Nat.le_refl _) ?_); rotate_left; assumption; (first | assumption | exact And.right (by assumption) | exact Below.drew (Below.refl _ _) | exact Below.drew (And.right (by assumption)))) | (refine hS0.out _ ?_; exact And.right (by assumption)) | (refine hS0.out _ (Below.drew ?_); exact And.right (by assumption)))) (first | ((with_reducible refine (hKJ.out x' e' _ hOE.out).mono ?_); rintro e w6 ⟨rfl, hb6⟩; have h7 := hS0.out w6 (below_on (Below.drew (Below.refl wr.heap.size wr)) (Nat.le_refl _) hb6)) | ((with_reducible refine (hKB.out z (costPart 2 x' e') _ hsafe.out).mono ?_); rintro e w7 ⟨rfl, rfl⟩))
      go_wp2_with fail
      first | exact ⟨⟨i + 1, _, by omega, by go_num, rfl, hZ2, hb2, Lib.hid (below_on (Lst.Below.drewN hBr.out 1) (Nat.le_refl _) hb6)⟩, by simp [intOf]; omega⟩ | exact ⟨⟨i + 1, _, by omega, by go_num, rfl, hZ2, hb2, Lib.hid (below_on hBr.out.drew (Nat.le_refl _) hb6)⟩, by simp [intOf]; omega⟩
    · have hZ2 := Lib.hid (show z = costTo 2 xs es n by rw [hZ.out, show i = n by omega])
      go_wp2
      go_ret
      exact ⟨ret_int hZ2.out, by have hh := HG.out; subst hh; exact below_on hB2.out (Nat.le_refl _) hBr.out⟩

set_option maxHeartbeats 4000000 in
set_option maxRecDepth 100000 in
theorem ofOrder_3 (B : Nat) (v1 v2 : Value) (xs : List JobD) (o : List Int) (w : World) (h1 : LstJob B w v1 xs) (h2 : LstI B w v2 o) (hj : areJobs xs = true) (ho : isOrd o xs.length = true) (hB : B ≤ w.heap.size) :
    Calls Try.prog 26 #[aggKind 3, v1, v2] w fun e w' => e = .returned (.int .i64 (costTo 3 xs (endsOf xs o) xs.length)) ∧ Below w.heap.size w w' := by
  have hE := Lib.hid (fun w1 (hb : Below w.heap.size w w1) => endsIn_any w.heap.size v1 v2 xs o w1 (LstJob.below (LstJob.mono h1 hB) hb (Nat.le_refl _)) ((h2.mono hB).below hb (Nat.le_refl _)) hj ho hb.size)
  have h24 := (areJobs_of hj).2.1
  have hK : Hid (∀ k, k < xs.length → _) := Lib.hid fun k (hk : k < xs.length) => cost_at hj ho 3 hk
  obtain ⟨a1, cap1, rfl, hl1, _, _, hc1⟩ := h1.at_
  have hC1 := Lib.hid hc1
  have hen := Lib.hid (endsOf_length xs o)
  have hZ0 : Hid (costTo 3 xs (endsOf xs o) 0 = costNone 3) := Lib.hid rfl
  have hKJ := Lib.hid (kindJob_any 3 (by decide))
  have hKB := Lib.hid (kindJoin_any 3 (by decide))
  have hBB := Lib.hid (fun (i : Nat) (a b : Int) => costBoth_bound (kind := 3) (a := a) (b := b) (i := i) (by decide))
  have hN : Hid (CostIn 3 (costNone 3) 0) := Lib.hid (by
    by_cases h0 : (3 : Int) = 0
    · exact .inl h0
    by_cases h2 : (3 : Int) = 2
    · exact .inr (.inl h2)
    refine .inr (.inr ?_)
    unfold costNone; rw [if_neg (fun hc => hc.elim h0 h2)]; omega)
  unfold aggKind
  rw [show kindJob 3 = 44 from rfl] at hKJ ⊢
  rw [show kindJoin 3 = 42 from rfl] at hKB ⊢
  generalize costNone 3 = z0 at *
  generalize endsOf xs o = es at *
  clear h1 h2 hj ho hc1
  generalize xs.length = n at *
  go_enter Try.func26, Try.ntmps26
  go_wp2_with fail
  generalize hwa : World.alloc w _ = wa at *
  have c0 : wa.cell? ⟨w.heap.size, 0, none⟩ = some (.func (.func 44) #[] #[]) := by rw [← hwa, World.cell?_alloc_at _ _ _ _ rfl]; rfl
  have c1 : wa.cell? ⟨w.heap.size, 1, none⟩ = some (.func (.func 42) #[] #[]) := by rw [← hwa, World.cell?_alloc_at _ _ _ _ rfl]; rfl
  have hBa := Lib.hid (show Below w.heap.size w wa by rw [← hwa]; exact below_alloc (Below.refl _ _) _)
  have hga : w.heap.size < wa.heap.size := by rw [← hwa]; simp
  clear hwa
  refine (hE.out wa hBa.out).mono ?_
  rintro e w2 ⟨v', rfl, ho, hb⟩
  have hB2 := Lib.hid (below_on hBa.out (Nat.le_refl _) hb)
  rw [← hb.cell (p := ⟨w.heap.size, 0, none⟩) hga] at c0
  rw [← hb.cell (p := ⟨w.heap.size, 1, none⟩) hga] at c1
  have hgb : w.heap.size < w2.heap.size := Nat.lt_of_lt_of_le hga hb.size
  have hL := Lib.hid (show LstI w2.heap.size w2 v' es by
    have := hen.out
    subst this
    exact ho.lstI (Nat.le_refl _))
  clear ho hb hga
  obtain ⟨ae, cape, hve, hle, _, _, hce⟩ := hL.out.at_
  rw [hen.out] at hve hle hce
  subst hve
  have hCE := Lib.hid hce
  clear hce hL
  generalize hg : w.heap.size = g at *
  have HG := Lib.hid hg
  clear hg
  go_wp2_with fail
  go_loopw [7, 16] (fun cv ii wr => ∃ (i : Nat) (z : Int), i ≤ n ∧ ii = .int .i64 i ∧ cv = .int .i64 z ∧ Hid (z = costTo 3 xs es i) ∧ Hid (CostIn 3 z i) ∧ Hid (Below w2.heap.size w2 wr)) (fun _ ii _ => n - (intOf ii).toNat)
  case atStart => exact ⟨0, z0, Nat.zero_le _, rfl, rfl, Lib.hid hZ0.out.symm, hN, Lib.hid (Below.refl _ _)⟩
  case round =>
    obtain ⟨i, z, hi, rfl, rfl, hZ, hbd, hBr⟩ := hrel
    by_cases hlt : i < n
    · obtain ⟨x, en, hx, hes, hoe, hF⟩ := hK.out i hlt
      obtain ⟨b1, o1, x', rfl, hbB1, hx', p0, p1, p2, p3⟩ := hC1.out i hlt
      obtain rfl : x' = x := by rw [hx] at hx'; exact (Option.some.inj hx').symm
      obtain ⟨b2, o2, e', rfl, hbB2, he', q0⟩ := hCE.out i hlt
      obtain rfl : e' = en := by rw [hes] at he'; exact (Option.some.inj he').symm
      have hs2 := hB2.out.size
      rw [← hB2.out.cell (p := ⟨b1, o1 + i * 4, none⟩) (show b1 < g by omega), ← hBr.out.cell (p := ⟨b1, o1 + i * 4, none⟩) (show b1 < w2.heap.size by omega)] at p0
      rw [← hB2.out.cell (p := ⟨b1, o1 + i * 4 + 1, none⟩) (show b1 < g by omega), ← hBr.out.cell (p := ⟨b1, o1 + i * 4 + 1, none⟩) (show b1 < w2.heap.size by omega)] at p1
      rw [← hB2.out.cell (p := ⟨b1, o1 + i * 4 + 2, none⟩) (show b1 < g by omega), ← hBr.out.cell (p := ⟨b1, o1 + i * 4 + 2, none⟩) (show b1 < w2.heap.size by omega)] at p2
      rw [← hB2.out.cell (p := ⟨b1, o1 + i * 4 + 3, none⟩) (show b1 < g by omega), ← hBr.out.cell (p := ⟨b1, o1 + i * 4 + 3, none⟩) (show b1 < w2.heap.size by omega)] at p3
      rw [← hBr.out.cell (p := ⟨b2, o2 + i, none⟩) hbB2] at q0
      rw [← hBr.out.cell (p := ⟨g, 0, none⟩) hgb] at c0
      rw [← hBr.out.cell (p := ⟨g, 1, none⟩) hgb] at c1
      have hOE := Lib.hid hoe
      have hPB := Lib.hid (costPart_bound (kind := 3) hoe)
      have hZ2 := Lib.hid (show costBoth 3 z (costPart 3 x' e') = costTo 3 xs es (i + 1) by rw [hF, hZ.out])
      have hb2 := Lib.hid (hBB.out i z (costPart 3 x' e') hbd.out hPB.out)
      have hsafe := Lib.hid (show (3 : Int) = 0 ∨ (3 : Int) = 2 ∨ ((-1000000000000 ≤ z ∧ z ≤ 1000000000000) ∧ (-1000000000000 ≤ costPart 3 x' e' ∧ costPart 3 x' e' ≤ 1000000000000)) by
        have h9 := hPB.out
        rcases hbd.out with h | h | ⟨h3, h4⟩
        · exact .inl h
        · exact .inr (.inl h)
        · exact .inr (.inr ⟨⟨by omega, by omega⟩, by omega, by omega⟩))
      clear hx hx' hes he' hF hbB1 hbB2 hoe hs2
      go_wp2_with fail
      have hgw : g < wr.heap.size := Nat.lt_of_lt_of_le hgb hBr.out.size
      have hS0 : Hid (∀ w' : World, Below wr.heap.size wr w' → (w'.cell? ⟨b1, o1 + i * 4, none⟩ = some (.int .i64 x'.Time) ∧ w'.cell? ⟨b1, o1 + i * 4 + 1, none⟩ = some (.int .i64 x'.Release) ∧ w'.cell? ⟨b1, o1 + i * 4 + 2, none⟩ = some (.int .i64 x'.Due) ∧ w'.cell? ⟨b1, o1 + i * 4 + 3, none⟩ = some (.int .i64 x'.Weight) ∧ w'.cell? ⟨g, 0, none⟩ = wr.cell? ⟨g, 0, none⟩ ∧ w'.cell? ⟨g, 1, none⟩ = wr.cell? ⟨g, 1, none⟩) ∧ Below wr.heap.size wr w') := Lib.hid fun w' hb => by
        have hb1w : b1 < wr.heap.size := World.block_lt_of_cell? wr _ p0
        exact ⟨⟨(hb.cell (p := ⟨b1, o1 + i * 4, none⟩) hb1w).trans p0, (hb.cell (p := ⟨b1, o1 + i * 4 + 1, none⟩) hb1w).trans p1, (hb.cell (p := ⟨b1, o1 + i * 4 + 2, none⟩) hb1w).trans p2, (hb.cell (p := ⟨b1, o1 + i * 4 + 3, none⟩) hb1w).trans p3, hb.cell (p := ⟨g, 0, none⟩) hgw, hb.cell (p := ⟨g, 1, none⟩) hgw⟩, hb⟩
      rw [c0, c1] at hS0
      have hB0 := Below.refl wr.heap.size wr
      go_region_held3 (fun w' => (w'.cell? ⟨b1, o1 + i * 4, none⟩ = some (.int .i64 x'.Time) ∧ w'.cell? ⟨b1, o1 + i * 4 + 1, none⟩ = some (.int .i64 x'.Release) ∧ w'.cell? ⟨b1, o1 + i * 4 + 2, none⟩ = some (.int .i64 x'.Due) ∧ w'.cell? ⟨b1, o1 + i * 4 + 3, none⟩ = some (.int .i64 x'.Weight) ∧ w'.cell? ⟨g, 0, none⟩ = some (.func (.func 44) #[] #[]) ∧ w'.cell? ⟨g, 1, none⟩ = some (.func (.func 42) #[] #[])) ∧ Below wr.heap.size wr w') ((first | assumption | exact h7 | (refine hS0.out _ ?_; assumption) | (refine hS0.out _ (Below.drew ?_); assumption) | (refine hS0.out _ (below_on ?_ (Nat.le_refl _) ?_); rotate_left; assumption; (first | assumption | exact And.right (by assumption) | exact Below.drew (Below.refl _ _) | exact Below.drew (And.right (by assumption)))) | (refine hS0.out _ ?_; exact And.right (by assumption)) | (refine hS0.out _ (Below.drew ?_); exact And.right (by assumption)))) (first | ((with_reducible refine (hKJ.out x' e' _ hOE.out).mono ?_); rintro e w6 ⟨rfl, hb6⟩; have h7 := hS0.out w6 (below_on (Below.drew (Below.refl wr.heap.size wr)) (Nat.le_refl _) hb6)) | ((with_reducible refine (hKB.out z (costPart 3 x' e') _ hsafe.out).mono ?_); rintro e w7 ⟨rfl, rfl⟩))
      go_wp2_with fail
      first | exact ⟨⟨i + 1, _, by omega, by go_num, rfl, hZ2, hb2, Lib.hid (below_on (Lst.Below.drewN hBr.out 1) (Nat.le_refl _) hb6)⟩, by simp [intOf]; omega⟩ | exact ⟨⟨i + 1, _, by omega, by go_num, rfl, hZ2, hb2, Lib.hid (below_on hBr.out.drew (Nat.le_refl _) hb6)⟩, by simp [intOf]; omega⟩
    · have hZ2 := Lib.hid (show z = costTo 3 xs es n by rw [hZ.out, show i = n by omega])
      go_wp2
      go_ret
      exact ⟨ret_int hZ2.out, by have hh := HG.out; subst hh; exact below_on hB2.out (Nat.le_refl _) hBr.out⟩

set_option maxHeartbeats 4000000 in
set_option maxRecDepth 100000 in
theorem ofOrder_4 (B : Nat) (v1 v2 : Value) (xs : List JobD) (o : List Int) (w : World) (h1 : LstJob B w v1 xs) (h2 : LstI B w v2 o) (hj : areJobs xs = true) (ho : isOrd o xs.length = true) (hB : B ≤ w.heap.size) :
    Calls Try.prog 26 #[aggKind 4, v1, v2] w fun e w' => e = .returned (.int .i64 (costTo 4 xs (endsOf xs o) xs.length)) ∧ Below w.heap.size w w' := by
  have hE := Lib.hid (fun w1 (hb : Below w.heap.size w w1) => endsIn_any w.heap.size v1 v2 xs o w1 (LstJob.below (LstJob.mono h1 hB) hb (Nat.le_refl _)) ((h2.mono hB).below hb (Nat.le_refl _)) hj ho hb.size)
  have h24 := (areJobs_of hj).2.1
  have hK : Hid (∀ k, k < xs.length → _) := Lib.hid fun k (hk : k < xs.length) => cost_at hj ho 4 hk
  obtain ⟨a1, cap1, rfl, hl1, _, _, hc1⟩ := h1.at_
  have hC1 := Lib.hid hc1
  have hen := Lib.hid (endsOf_length xs o)
  have hZ0 : Hid (costTo 4 xs (endsOf xs o) 0 = costNone 4) := Lib.hid rfl
  have hKJ := Lib.hid (kindJob_any 4 (by decide))
  have hKB := Lib.hid (kindJoin_any 4 (by decide))
  have hBB := Lib.hid (fun (i : Nat) (a b : Int) => costBoth_bound (kind := 4) (a := a) (b := b) (i := i) (by decide))
  have hN : Hid (CostIn 4 (costNone 4) 0) := Lib.hid (by
    by_cases h0 : (4 : Int) = 0
    · exact .inl h0
    by_cases h2 : (4 : Int) = 2
    · exact .inr (.inl h2)
    refine .inr (.inr ?_)
    unfold costNone; rw [if_neg (fun hc => hc.elim h0 h2)]; omega)
  unfold aggKind
  rw [show kindJob 4 = 45 from rfl] at hKJ ⊢
  rw [show kindJoin 4 = 42 from rfl] at hKB ⊢
  generalize costNone 4 = z0 at *
  generalize endsOf xs o = es at *
  clear h1 h2 hj ho hc1
  generalize xs.length = n at *
  go_enter Try.func26, Try.ntmps26
  go_wp2_with fail
  generalize hwa : World.alloc w _ = wa at *
  have c0 : wa.cell? ⟨w.heap.size, 0, none⟩ = some (.func (.func 45) #[] #[]) := by rw [← hwa, World.cell?_alloc_at _ _ _ _ rfl]; rfl
  have c1 : wa.cell? ⟨w.heap.size, 1, none⟩ = some (.func (.func 42) #[] #[]) := by rw [← hwa, World.cell?_alloc_at _ _ _ _ rfl]; rfl
  have hBa := Lib.hid (show Below w.heap.size w wa by rw [← hwa]; exact below_alloc (Below.refl _ _) _)
  have hga : w.heap.size < wa.heap.size := by rw [← hwa]; simp
  clear hwa
  refine (hE.out wa hBa.out).mono ?_
  rintro e w2 ⟨v', rfl, ho, hb⟩
  have hB2 := Lib.hid (below_on hBa.out (Nat.le_refl _) hb)
  rw [← hb.cell (p := ⟨w.heap.size, 0, none⟩) hga] at c0
  rw [← hb.cell (p := ⟨w.heap.size, 1, none⟩) hga] at c1
  have hgb : w.heap.size < w2.heap.size := Nat.lt_of_lt_of_le hga hb.size
  have hL := Lib.hid (show LstI w2.heap.size w2 v' es by
    have := hen.out
    subst this
    exact ho.lstI (Nat.le_refl _))
  clear ho hb hga
  obtain ⟨ae, cape, hve, hle, _, _, hce⟩ := hL.out.at_
  rw [hen.out] at hve hle hce
  subst hve
  have hCE := Lib.hid hce
  clear hce hL
  generalize hg : w.heap.size = g at *
  have HG := Lib.hid hg
  clear hg
  go_wp2_with fail
  go_loopw [7, 16] (fun cv ii wr => ∃ (i : Nat) (z : Int), i ≤ n ∧ ii = .int .i64 i ∧ cv = .int .i64 z ∧ Hid (z = costTo 4 xs es i) ∧ Hid (CostIn 4 z i) ∧ Hid (Below w2.heap.size w2 wr)) (fun _ ii _ => n - (intOf ii).toNat)
  case atStart => exact ⟨0, z0, Nat.zero_le _, rfl, rfl, Lib.hid hZ0.out.symm, hN, Lib.hid (Below.refl _ _)⟩
  case round =>
    obtain ⟨i, z, hi, rfl, rfl, hZ, hbd, hBr⟩ := hrel
    by_cases hlt : i < n
    · obtain ⟨x, en, hx, hes, hoe, hF⟩ := hK.out i hlt
      obtain ⟨b1, o1, x', rfl, hbB1, hx', p0, p1, p2, p3⟩ := hC1.out i hlt
      obtain rfl : x' = x := by rw [hx] at hx'; exact (Option.some.inj hx').symm
      obtain ⟨b2, o2, e', rfl, hbB2, he', q0⟩ := hCE.out i hlt
      obtain rfl : e' = en := by rw [hes] at he'; exact (Option.some.inj he').symm
      have hs2 := hB2.out.size
      rw [← hB2.out.cell (p := ⟨b1, o1 + i * 4, none⟩) (show b1 < g by omega), ← hBr.out.cell (p := ⟨b1, o1 + i * 4, none⟩) (show b1 < w2.heap.size by omega)] at p0
      rw [← hB2.out.cell (p := ⟨b1, o1 + i * 4 + 1, none⟩) (show b1 < g by omega), ← hBr.out.cell (p := ⟨b1, o1 + i * 4 + 1, none⟩) (show b1 < w2.heap.size by omega)] at p1
      rw [← hB2.out.cell (p := ⟨b1, o1 + i * 4 + 2, none⟩) (show b1 < g by omega), ← hBr.out.cell (p := ⟨b1, o1 + i * 4 + 2, none⟩) (show b1 < w2.heap.size by omega)] at p2
      rw [← hB2.out.cell (p := ⟨b1, o1 + i * 4 + 3, none⟩) (show b1 < g by omega), ← hBr.out.cell (p := ⟨b1, o1 + i * 4 + 3, none⟩) (show b1 < w2.heap.size by omega)] at p3
      rw [← hBr.out.cell (p := ⟨b2, o2 + i, none⟩) hbB2] at q0
      rw [← hBr.out.cell (p := ⟨g, 0, none⟩) hgb] at c0
      rw [← hBr.out.cell (p := ⟨g, 1, none⟩) hgb] at c1
      have hOE := Lib.hid hoe
      have hPB := Lib.hid (costPart_bound (kind := 4) hoe)
      have hZ2 := Lib.hid (show costBoth 4 z (costPart 4 x' e') = costTo 4 xs es (i + 1) by rw [hF, hZ.out])
      have hb2 := Lib.hid (hBB.out i z (costPart 4 x' e') hbd.out hPB.out)
      have hsafe := Lib.hid (show (4 : Int) = 0 ∨ (4 : Int) = 2 ∨ ((-1000000000000 ≤ z ∧ z ≤ 1000000000000) ∧ (-1000000000000 ≤ costPart 4 x' e' ∧ costPart 4 x' e' ≤ 1000000000000)) by
        have h9 := hPB.out
        rcases hbd.out with h | h | ⟨h3, h4⟩
        · exact .inl h
        · exact .inr (.inl h)
        · exact .inr (.inr ⟨⟨by omega, by omega⟩, by omega, by omega⟩))
      clear hx hx' hes he' hF hbB1 hbB2 hoe hs2
      go_wp2_with fail
      have hgw : g < wr.heap.size := Nat.lt_of_lt_of_le hgb hBr.out.size
      have hS0 : Hid (∀ w' : World, Below wr.heap.size wr w' → (w'.cell? ⟨b1, o1 + i * 4, none⟩ = some (.int .i64 x'.Time) ∧ w'.cell? ⟨b1, o1 + i * 4 + 1, none⟩ = some (.int .i64 x'.Release) ∧ w'.cell? ⟨b1, o1 + i * 4 + 2, none⟩ = some (.int .i64 x'.Due) ∧ w'.cell? ⟨b1, o1 + i * 4 + 3, none⟩ = some (.int .i64 x'.Weight) ∧ w'.cell? ⟨g, 0, none⟩ = wr.cell? ⟨g, 0, none⟩ ∧ w'.cell? ⟨g, 1, none⟩ = wr.cell? ⟨g, 1, none⟩) ∧ Below wr.heap.size wr w') := Lib.hid fun w' hb => by
        have hb1w : b1 < wr.heap.size := World.block_lt_of_cell? wr _ p0
        exact ⟨⟨(hb.cell (p := ⟨b1, o1 + i * 4, none⟩) hb1w).trans p0, (hb.cell (p := ⟨b1, o1 + i * 4 + 1, none⟩) hb1w).trans p1, (hb.cell (p := ⟨b1, o1 + i * 4 + 2, none⟩) hb1w).trans p2, (hb.cell (p := ⟨b1, o1 + i * 4 + 3, none⟩) hb1w).trans p3, hb.cell (p := ⟨g, 0, none⟩) hgw, hb.cell (p := ⟨g, 1, none⟩) hgw⟩, hb⟩
      rw [c0, c1] at hS0
      have hB0 := Below.refl wr.heap.size wr
      go_region_held3 (fun w' => (w'.cell? ⟨b1, o1 + i * 4, none⟩ = some (.int .i64 x'.Time) ∧ w'.cell? ⟨b1, o1 + i * 4 + 1, none⟩ = some (.int .i64 x'.Release) ∧ w'.cell? ⟨b1, o1 + i * 4 + 2, none⟩ = some (.int .i64 x'.Due) ∧ w'.cell? ⟨b1, o1 + i * 4 + 3, none⟩ = some (.int .i64 x'.Weight) ∧ w'.cell? ⟨g, 0, none⟩ = some (.func (.func 45) #[] #[]) ∧ w'.cell? ⟨g, 1, none⟩ = some (.func (.func 42) #[] #[])) ∧ Below wr.heap.size wr w') ((first | assumption | exact h7 | (refine hS0.out _ ?_; assumption) | (refine hS0.out _ (Below.drew ?_); assumption) | (refine hS0.out _ (below_on ?_ (Nat.le_refl _) ?_); rotate_left; assumption; (first | assumption | exact And.right (by assumption) | exact Below.drew (Below.refl _ _) | exact Below.drew (And.right (by assumption)))) | (refine hS0.out _ ?_; exact And.right (by assumption)) | (refine hS0.out _ (Below.drew ?_); exact And.right (by assumption)))) (first | ((with_reducible refine (hKJ.out x' e' _ hOE.out).mono ?_); rintro e w6 ⟨rfl, hb6⟩; have h7 := hS0.out w6 (below_on (Below.drew (Below.refl wr.heap.size wr)) (Nat.le_refl _) hb6)) | ((with_reducible refine (hKB.out z (costPart 4 x' e') _ hsafe.out).mono ?_); rintro e w7 ⟨rfl, rfl⟩))
      go_wp2_with fail
      first | exact ⟨⟨i + 1, _, by omega, by go_num, rfl, hZ2, hb2, Lib.hid (below_on (Lst.Below.drewN hBr.out 1) (Nat.le_refl _) hb6)⟩, by simp [intOf]; omega⟩ | exact ⟨⟨i + 1, _, by omega, by go_num, rfl, hZ2, hb2, Lib.hid (below_on hBr.out.drew (Nat.le_refl _) hb6)⟩, by simp [intOf]; omega⟩
    · have hZ2 := Lib.hid (show z = costTo 4 xs es n by rw [hZ.out, show i = n by omega])
      go_wp2
      go_ret
      exact ⟨ret_int hZ2.out, by have hh := HG.out; subst hh; exact below_on hB2.out (Nat.le_refl _) hBr.out⟩

theorem ofOrder_any (B : Nat) (v1 v2 : Value) (xs : List JobD) (o : List Int) (kind : Int) (w : World) (h1 : LstJob B w v1 xs) (h2 : LstI B w v2 o) (hj : areJobs xs = true) (ho : isOrd o xs.length = true) (hB : B ≤ w.heap.size) (hk : inB kind 0 4 = true) :
    Calls Try.prog 26 #[aggKind kind, v1, v2] w fun e w' => e = .returned (.int .i64 (costTo kind xs (endsOf xs o) xs.length)) ∧ Below w.heap.size w w' := by
  obtain ⟨k1, k2⟩ := inB_true hk
  rcases (show kind = 0 ∨ kind = 1 ∨ kind = 2 ∨ kind = 3 ∨ kind = 4 by omega) with rfl | rfl | rfl | rfl | rfl
  · exact ofOrder_0 B v1 v2 xs o w h1 h2 hj ho hB
  · exact ofOrder_1 B v1 v2 xs o w h1 h2 hj ho hB
  · exact ofOrder_2 B v1 v2 xs o w h1 h2 hj ho hB
  · exact ofOrder_3 B v1 v2 xs o w h1 h2 hj ho hB
  · exact ofOrder_4 B v1 v2 xs o w h1 h2 hj ho hB
end Go.Proofs.Ytnkbnkiaokkjhaa
