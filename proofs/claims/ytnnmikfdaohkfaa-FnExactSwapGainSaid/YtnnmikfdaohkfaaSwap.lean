/- Contracts: what it brings to change two neighbours; slices.Clone of a list of int64. -/
import Derived.Test.YtnnmikfdaohkfaaCost2
import Derived.Test.YtnnmikfdaohkfaaSwapPure
import Derived.Test.YtnnmikfdaohkfaaPost
import Derived.Test.YtnnmikfdaohkfaaFillI
import Derived.IntWalk
namespace Go.Proofs.Ytnnmikfdaohkfaa
open Go.RowKit Go.Lst Go.Plan

theorem addr_add (b o j : Nat) : (⟨b, o, none⟩ : Addr).add j = ⟨b, o + j, none⟩ := by unfold Addr.add; split <;> simp_all
theorem ints_cell (xs : List Int) : ∀ v ∈ xs.map (Value.int .i64), v.oneCell' = true := fun v hv => by
  obtain ⟨x, _, rfl⟩ := List.mem_map.1 hv
  rfl
theorem cells_of2 {B : Nat} {w : World} {v : Value} {xs : List Int} (h : LstI B w v xs) (h1 : 1 ≤ xs.length) : ∃ b o cap, v = .slice (some ⟨b, o, none⟩) xs.length cap ∧ b < B ∧ xs.length ≤ maxLen ∧ ∀ (k : Nat) (x : Int), xs[k]? = some x → w.cell? ⟨b, o + k, none⟩ = some (.int .i64 x) := by
  obtain ⟨a, cap, rfl, hl, _, _, hc⟩ := h.at_
  obtain ⟨b, o, x0, rfl, hb, _, _⟩ := hc 0 (by omega)
  refine ⟨b, o, cap, rfl, hb, hl, fun k x hx => ?_⟩
  have hk : k < xs.length := (List.getElem?_eq_some_iff.1 hx).1
  obtain ⟨b', o', x', he, _, hx', hcell⟩ := hc k hk
  injection he with he
  injection he with e1 e2 _
  subst e1 e2
  rw [hx] at hx'
  obtain rfl := Option.some.inj hx'
  exact hcell
theorem row_open {w : World} {A n : Nat} {e : TypeId} {v : Value} {cs : List Value} (h : w.ownsRow A e 1 v n cs) (hn : 1 ≤ n) : ∃ g cap, v = .slice (some ⟨g, 0, none⟩) n cap ∧ A ≤ g := by
  rcases h.2 with ⟨_, h0⟩ | ⟨g, cap, cur, rfl, hAg, _⟩
  · omega
  · exact ⟨g, cap, rfl, hAg⟩
theorem row_lstI2 {w : World} {A n : Nat} {v : Value} {l : List Int} (ho : w.ownsRow A 2 1 v n (l.map (Value.int .i64))) (hl : l.length = n) (hn : n ≤ 1048576) : LstI w.heap.size w v l := by
  subst hl
  exact (Own.new ho (by unfold maxLen; omega)).lstI (Nat.le_refl _)

def gainOk (xs : List JobD) (o : List Int) (at_ kind : Int) : Bool := costOk xs o kind && inB at_ 0 ((xs.length : Int) - 2)
def gainRes (xs : List JobD) (o : List Int) (at_ kind : Int) : Int := if gainOk xs o at_ kind then IntKind.i64.wrap (costRes xs o kind - costRes xs (swapL o at_.toNat) kind) else 0
def GainPost (xs : List JobD) (o : List Int) (at_ kind : Int) (w : World) (e : Ending) (w' : World) : Prop := e = .returned (.tuple #[.int .i64 (gainRes xs o at_ kind), .bool (gainOk xs o at_ kind)]) ∧ Below w.heap.size w w'
theorem gain_no {xs : List JobD} {o : List Int} {at_ kind : Int} {w w' : World} (h : gainOk xs o at_ kind = false) (hb : Below w.heap.size w w') : GainPost xs o at_ kind w (.returned (.tuple #[.int .i64 0, .bool false])) w' := by
  unfold GainPost gainRes; rw [h]; exact ⟨rfl, hb⟩
theorem gain_yes {xs : List JobD} {o : List Int} {at_ kind z : Int} {w w' : World} (h : gainOk xs o at_ kind = true) (hz : z = IntKind.i64.wrap (costRes xs o kind - costRes xs (swapL o at_.toNat) kind)) (hb : Below w.heap.size w w') : GainPost xs o at_ kind w (.returned (.tuple #[.int .i64 z, .bool true])) w' := by
  unfold GainPost gainRes; rw [h, if_pos rfl, hz]; exact ⟨rfl, hb⟩
theorem swap_wf {o : List Int} {a : Nat} (ha : a + 1 < o.length) (h : ∀ x ∈ o, (Lit.int .i64 x).wf = true) : ∀ x ∈ swapL o a, (Lit.int .i64 x).wf = true := fun x hx => by
  have e0 : o.getD a 0 ∈ o := by rw [List.getD_eq_getElem?_getD, List.getElem?_eq_getElem (by omega)]; exact List.getElem_mem _
  have e1 : o.getD (a + 1) 0 ∈ o := by rw [List.getD_eq_getElem?_getD, List.getElem?_eq_getElem (by omega)]; exact List.getElem_mem _
  unfold swapL at hx
  rcases List.mem_or_eq_of_mem_set hx with hx | rfl
  · rcases List.mem_or_eq_of_mem_set hx with hx | rfl
    · exact h x hx
    · exact h _ e1
  · exact h _ e0
theorem swap_cost {xs : List JobD} {o : List Int} {kind : Int} {a : Nat} (h : costOk xs o kind = true) (ha : a + 1 < o.length) : costOk xs (swapL o a) kind = true := by
  unfold costOk canDo at h ⊢
  simp only [Bool.and_eq_true] at h ⊢
  exact ⟨⟨h.1.1, swapL_ord h.1.2 ha⟩, h.2⟩
theorem cost_parts {xs : List JobD} {o : List Int} {kind : Int} (h : costOk xs o kind = true) : areJobs xs = true ∧ isOrd o xs.length = true ∧ inB kind 0 4 = true ∧ o.length = xs.length ∧ 1 ≤ xs.length ∧ xs.length ≤ 24 := by
  unfold costOk canDo at h
  simp only [Bool.and_eq_true] at h
  have := isOrd_len h.1.2
  obtain ⟨a, b, _⟩ := areJobs_of h.1.1
  exact ⟨h.1.1, h.1.2, h.2, by omega, a, b⟩
set_option maxHeartbeats 1000000 in
theorem cloneI_any (B : Nat) (v : Value) (xs : List Int) (w : World) (h : LstI B w v xs) (hB : B ≤ w.heap.size) (h1 : 1 ≤ xs.length) (hn : xs.length ≤ 1048576) :
    Calls Try.prog 17 #[v] w fun e w' => ∃ g cap, e = .returned (.slice (some ⟨g, 0, none⟩) xs.length cap) ∧ w.heap.size ≤ g ∧ w'.ownsRow w.heap.size 2 1 (.slice (some ⟨g, 0, none⟩) xs.length cap) xs.length (xs.map (Value.int .i64)) ∧ Below w.heap.size w w' := by
  obtain ⟨b, o, cap, rfl, hb, hl, hc⟩ := cells_of2 h h1
  have hB0 : Below w.heap.size w (w.alloc (Obj.cells #[] 2)) := below_alloc (Below.refl _ _) _
  have hO0 : (w.alloc (Obj.cells #[] 2)).ownsRow w.heap.size 2 1 (.slice (some ⟨w.heap.size, 0, none⟩) 0 0) 0 [] := World.ownsRow_lit w #[] 0 (Nat.le_refl _) (Nat.zero_le _) rfl
  have hsrc : ∀ j u, (xs.map (Value.int .i64))[j]? = some u → (w.alloc (Obj.cells #[] 2)).cell? ((⟨b, o, none⟩ : Addr).add j) = some u := fun j u hu => by
    rw [List.getElem?_map] at hu
    cases hx : xs[j]? with
    | none => rw [hx] at hu; cases hu
    | some x =>
      rw [hx] at hu
      obtain rfl : Value.int .i64 x = u := Option.some.inj hu
      have ead : (⟨b, o, none⟩ : Addr).add j = ⟨b, o + j, none⟩ := addr_add b o j
      rw [ead]
      rw [hB0.cell (p := ⟨b, o + j, none⟩) (show b < w.heap.size by omega)]
      exact hc j x hx
  have hle : w.heap.size ≤ (w.alloc (Obj.cells #[] 2)).heap.size := hB0.size
  have hone := ints_cell xs
  have hlm : (xs.map (Value.int .i64)).length = xs.length * 1 := by rw [List.length_map, Nat.mul_one]
  obtain ⟨i0, hi, hz0, hz1, hz2⟩ := info_parts infoI
  have hSrc := Lib.hid hsrc
  have hB0h := Lib.hid hB0
  clear hc h hsrc hB0
  generalize hcs : xs.map (Value.int .i64) = cs at *
  generalize xs.length = n at *
  unfold maxLen at hl
  have hnil : (binOp .eql 23 (.slice (some ⟨b, o, none⟩) n cap) (.slice none 0 0)).run Try.prog w = .ok (.bool false) w := by
    simp only [binOp]
    simp [run_equal_slice_nil w 23 2 (some ⟨b, o, none⟩) n cap Try.underlying23]
  go_enter Try.func17, Try.ntmps17
  go_wp2_with (at_builtin; refine wpList_append_own _ rfl _ _ _ rfl w.heap.size 2 i0 (.int .i64 0) 1 8 Try.underlying23 hi hz0 hz1 hz2 rfl (by decide) _ 0 _ rfl hO0 ⟨b, o, none⟩ n cap cs rfl hlm hSrc.out hone (by unfold maxLen; omega) (by omega) hle ?_; intro v8 w8 hown8 hgrow8 hnil8; have hO8 := Lib.hid hown8; have hB8 := Lib.hid (hB0h.out.grown hgrow8 hle (fun g hg => by cases hg; exact Nat.le_refl _)); clear hown8 hgrow8 hnil8)
  have hO9 := hO8.out
  rw [Nat.zero_add, List.nil_append] at hO9
  obtain ⟨g, c8, rfl, hg⟩ := row_open hO9 h1
  have hO10 := Lib.hid hO9
  clear hO9 hO8
  go_ret
  exact ⟨g, c8, rfl, hg, hO10.out, hB8.out⟩
set_option maxHeartbeats 4000000 in
set_option maxRecDepth 100000 in
theorem implSwap_any (B : Nat) (v1 v2 : Value) (xs : List JobD) (o : List Int) (at_ kind : Int) (w : World) (h1 : LstJob B w v1 xs) (h2 : LstI B w v2 o) (hB : B ≤ w.heap.size) (hwf : ∀ x ∈ o, (Lit.int .i64 x).wf = true) :
    Calls Try.prog 8 #[v1, v2, .int .i64 at_, .int .i64 kind] w (GainPost xs o at_ kind w) := by
  have hC := Lib.hid (implCostOf_any B v1 v2 xs o kind w h1 h2 hB hwf)
  have hNo : Hid (gainOk xs o at_ kind = false → ∀ w', Below w.heap.size w w' → GainPost xs o at_ kind w (.returned (.tuple #[.int .i64 0, .bool false])) w') := Lib.hid fun hn w' hb => gain_no hn hb
  have hYes : Hid (gainOk xs o at_ kind = true → ∀ z w', z = IntKind.i64.wrap (costRes xs o kind - costRes xs (swapL o at_.toNat) kind) → Below w.heap.size w w' → GainPost xs o at_ kind w (.returned (.tuple #[.int .i64 z, .bool true])) w') := Lib.hid fun hy z w' hz hb => gain_yes hy hz hb
  generalize GainPost xs o at_ kind w = Q at *
  obtain ⟨a1, cap1, hv1, hl1, _⟩ := h1.at_
  obtain ⟨a2, cap2, hv2, hl2, _⟩ := h2.at_
  have hL1 := Lib.hid h1
  have hL2 := Lib.hid h2
  subst hv1 hv2
  clear h1 h2
  cases c0 : costOk xs o kind
  · rw [c0] at hC
    have hN := Lib.hid (hNo.out (by unfold gainOk; rw [c0]; rfl))
    generalize xs.length = n at *
    generalize o.length = m at *
    unfold maxLen at hl1 hl2
    go_enter Try.func8, Try.ntmps8
    go_wp2_with (go_at_call 15; (with_reducible refine (hC.out).mono ?_); rintro e w1 ⟨rfl, hb1⟩; have hB1 := Lib.hid hb1; clear hb1)
    first | exact hN.out _ hB1.out | (go_ret2; exact hN.out _ hB1.out)
  rw [c0] at hC
  obtain ⟨hj, ho, hk, hlen, n1, n24⟩ := cost_parts c0
  have hOkEq : gainOk xs o at_ kind = inB at_ 0 ((xs.length : Int) - 2) := by unfold gainOk; rw [c0, Bool.true_and]
  rw [hOkEq] at hNo hYes
  rw [hlen] at hl2 hC ⊢
  cases c1 : inB at_ 0 ((xs.length : Int) - 2)
  · have hN := Lib.hid (hNo.out c1)
    generalize xs.length = n at *
    unfold maxLen at hl1 hl2
    go_enter Try.func8, Try.ntmps8
    go_wp2_with (first | (go_at_call 15; (with_reducible refine (hC.out).mono ?_); rintro e w1 ⟨rfl, hb1⟩; have hB1 := Lib.hid hb1; clear hb1) | (go_at_call 16; refine (isWithin_any _ _ _ _).mono ?_; rintro e w' ⟨rfl, rfl⟩))
    first | exact hN.out _ hB1.out | (go_ret2; exact hN.out _ hB1.out)
  obtain ⟨a, rfl⟩ := Int.eq_ofNat_of_zero_le (inB_true c1).1
  have ha2 := (inB_true c1).2
  have ha : a + 1 < o.length := by omega
  have hY := Lib.hid (hYes.out c1)
  rw [Int.toNat_natCast] at hY
  have hCl := Lib.hid (fun (w1 : World) (hb : Below w.heap.size w w1) => cloneI_any B (.slice a2 xs.length cap2) o w1 (by have := hL2.out.below hb hB; rw [hlen] at this; exact this) (Nat.le_trans hB hb.size) (by omega) (by omega))
  have hCost2 := Lib.hid (fun (w2 : World) (v : Value) (hb : Below w.heap.size w w2) (h : LstI w2.heap.size w2 v (swapL o a)) => implCostOf_any w2.heap.size _ v xs (swapL o a) kind w2 ((hL1.out.below hb hB).mono (Nat.le_trans hB hb.size)) h (Nat.le_refl _) (swap_wf ha hwf))
  have hS2 := swap_cost c0 ha
  rw [hS2] at hCost2
  have hSl : (swapL o a).length = xs.length := by rw [swapL_length]; exact hlen
  have hSw : Hid (swapL o a = (o.set a (o.getD (a + 1) 0)).set (a + 1) (o.getD a 0)) := Lib.hid rfl
  rw [hlen] at hCl ha
  clear hNo hYes c0 hj ho hk hOkEq hL1 hL2 hwf
  generalize costRes xs o kind = z1 at *
  generalize costRes xs (swapL o a) kind = z2 at *
  generalize xs.length = n at *
  unfold maxLen at hl1 hl2
  go_enter Try.func8, Try.ntmps8
  go_wp2_with (first | (go_at_call 15; (with_reducible refine (hC.out).mono ?_); rintro e w1 ⟨rfl, hb1⟩; have hB1 := Lib.hid hb1; clear hb1) | (go_at_call 16; refine (isWithin_any _ _ _ _).mono ?_; rintro e w' ⟨rfl, rfl⟩) | (go_at_call 17; (with_reducible refine (hCl.out _ hB1.out).mono ?_); rintro e w3 ⟨g, c3, rfl, hg3, ho3, hb3⟩; have hO3 := Lib.hid ho3; have hB3 := Lib.hid (hB1.out.trans (hb3.mono hB1.out.size)); have hg := Lib.hid hg3; clear ho3 hb3 hg3))
  have hgw : w.heap.size ≤ g := Nat.le_trans hB1.out.size hg.out
  have q0 : w3.cell? ⟨g, a, none⟩ = some (.int .i64 (o.getD a 0)) := row_cell hO3.out (by omega)
  have q1 : w3.cell? ⟨g, a + 1, none⟩ = some (.int .i64 (o.getD (a + 1) 0)) := row_cell hO3.out (by omega)
  have f0 : w3.frozen? ⟨g, a, none⟩ = false := hO3.out.frozenAt a
  have f1 : w3.frozen? ⟨g, a + 1, none⟩ = false := hO3.out.frozenAt (a + 1)
  generalize o.getD a 0 = x0 at *
  generalize o.getD (a + 1) 0 = x1 at *
  have hw0 : IntKind.i64.wrap ((a : Int) + 1) = (a : Int) + 1 := IntWalk.i64_in _ (by omega)
  have hk1 : (a : Int) < (n : Int) := by omega
  have hk2 : (a : Int) + 1 < (n : Int) := by omega
  have hk3 : (0 : Int) ≤ (a : Int) + 1 := by omega
  have hk4 : ((a : Int) + 1).toNat = a + 1 := by omega
  have hk5 : a < n := by omega
  have hk6 : a + 1 < n := by omega
  go_region
  have s1 := row_set hO3.out a x1
  have s2 := row_set s1.1 (a + 1) x0
  have hO5 := Lib.hid s2.1.drew
  have hB5 := Lib.hid ((hB3.out.setCell (p := ⟨g, a, none⟩) hgw (.int .i64 x1)).setCell (p := ⟨g, a + 1, none⟩) hgw (.int .i64 x0)).drew
  clear s1 s2 q0 q1 f0 f1 hO3 hB3
  generalize ((w3.setCell ⟨g, a, none⟩ (.int .i64 x1)).setCell ⟨g, a + 1, none⟩ (.int .i64 x0)).drew = w6 at *
  have hLs := row_lstI2 hO5.out (by rw [← hSw.out]; exact hSl) (by omega)
  rw [← hSw.out] at hLs
  have hCs := Lib.hid (hCost2.out w6 _ hB5.out hLs)
  clear hLs
  go_wp2_with (go_at_call 15; (with_reducible refine (hCs.out).mono ?_); rintro e w7 ⟨rfl, hb7⟩; have hB7 := Lib.hid (hB5.out.trans (hb7.mono hB5.out.size)); clear hb7)
  first | exact hY.out _ _ (by first | rfl | rw [IntWalk.i64_left]) hB7.out | (go_ret2; exact hY.out _ _ (by first | rfl | rw [IntWalk.i64_left]) hB7.out)
set_option maxHeartbeats 4000000 in
set_option maxRecDepth 100000 in
theorem specSwap_any (B : Nat) (v1 v2 : Value) (xs : List JobD) (o : List Int) (at_ kind : Int) (w : World) (h1 : LstJob B w v1 xs) (h2 : LstI B w v2 o) (hB : B ≤ w.heap.size) :
    Calls Try.prog 5 #[v1, v2, .int .i64 at_, .int .i64 kind] w (GainPost xs o at_ kind w) := by
  have hC := Lib.hid (l02Can_any B v1 v2 xs o w h1 h2)
  have hNo : Hid (gainOk xs o at_ kind = false → ∀ w', Below w.heap.size w w' → GainPost xs o at_ kind w (.returned (.tuple #[.int .i64 0, .bool false])) w') := Lib.hid fun hn w' hb => gain_no hn hb
  have hYes : Hid (gainOk xs o at_ kind = true → ∀ z w', z = IntKind.i64.wrap (costRes xs o kind - costRes xs (swapL o at_.toNat) kind) → Below w.heap.size w w' → GainPost xs o at_ kind w (.returned (.tuple #[.int .i64 z, .bool true])) w') := Lib.hid fun hy z w' hz hb => gain_yes hy hz hb
  generalize GainPost xs o at_ kind w = Q at *
  have hL1 := Lib.hid h1
  have hL2 := Lib.hid h2
  obtain ⟨a1, cap1, hv1, hl1, _⟩ := h1.at_
  subst hv1
  cases c0 : canDo xs o
  · rw [c0] at hC
    have hN := Lib.hid (hNo.out (by unfold gainOk costOk; rw [c0]; rfl))
    obtain ⟨a2, cap2, rfl, hl2, _⟩ := h2.at_
    clear h1 h2
    generalize xs.length = n at *
    generalize o.length = m at *
    unfold maxLen at hl1 hl2
    go_enter Try.func5, Try.ntmps5
    go_wp2_with (go_at_call 11; (with_reducible refine (hC.out).mono ?_); rintro e w' ⟨j, rfl, rfl⟩)
    first | exact hN.out _ (below_drawn w _) | (go_ret2; exact hN.out _ (below_drawn w _))
  rw [c0] at hC
  obtain ⟨hj, ho⟩ : areJobs xs = true ∧ isOrd o xs.length = true := by unfold canDo at c0; simpa only [Bool.and_eq_true] using c0
  have hlen : o.length = xs.length := by have := isOrd_len ho; omega
  obtain ⟨n1, n24, _⟩ := areJobs_of hj
  cases ck : inB kind 0 4
  · have hN := Lib.hid (hNo.out (by unfold gainOk costOk; rw [c0, ck]; rfl))
    obtain ⟨a2, cap2, rfl, hl2, _⟩ := h2.at_
    clear h1 h2
    rw [hlen] at hl2 hC ⊢
    generalize xs.length = n at *
    unfold maxLen at hl1 hl2
    go_enter Try.func5, Try.ntmps5
    go_wp2_with (first | (go_at_call 11; (with_reducible refine (hC.out).mono ?_); rintro e w' ⟨j, rfl, rfl⟩) | (go_at_call 12; refine (l00In_any _ _ _ _).mono ?_; rintro e w' ⟨rfl, rfl⟩))
    first | exact hN.out _ (below_drawn w _) | (go_ret2; exact hN.out _ (below_drawn w _))
  have c0k : costOk xs o kind = true := by unfold costOk; rw [c0, ck]; rfl
  have hOkEq : gainOk xs o at_ kind = inB at_ 0 ((xs.length : Int) - 2) := by unfold gainOk; rw [c0k, Bool.true_and]
  rw [hOkEq] at hNo hYes
  cases c1 : inB at_ 0 ((xs.length : Int) - 2)
  · have hN := Lib.hid (hNo.out c1)
    obtain ⟨a2, cap2, rfl, hl2, _⟩ := h2.at_
    clear h1 h2
    rw [hlen] at hl2 hC ⊢
    generalize xs.length = n at *
    unfold maxLen at hl1 hl2
    go_enter Try.func5, Try.ntmps5
    go_wp2_with (first | (go_at_call 11; (with_reducible refine (hC.out).mono ?_); rintro e w' ⟨j, rfl, rfl⟩) | (go_at_call 12; refine (l00In_any _ _ _ _).mono ?_; rintro e w' ⟨rfl, rfl⟩))
    first | exact hN.out _ (below_drawn w _) | (go_ret2; exact hN.out _ (below_drawn w _))
  obtain ⟨a, rfl⟩ := Int.eq_ofNat_of_zero_le (inB_true c1).1
  have ha2 := (inB_true c1).2
  have ha : a + 1 < o.length := by omega
  have hY := Lib.hid (hYes.out c1)
  rw [Int.toNat_natCast] at hY
  have e1 : costRes xs o kind = costTo kind xs (endsOf xs o) xs.length := by unfold costRes; rw [c0k, if_pos rfl]
  have e2 : costRes xs (swapL o a) kind = costTo kind xs (endsOf xs (swapL o a)) xs.length := by unfold costRes; rw [swap_cost c0k ha, if_pos rfl]
  have hK1 := Lib.hid (fun (w' : World) (hb : Below w.heap.size w w') => l02Cost_any B _ v2 xs o kind w' (hL1.out.below hb hB) (hL2.out.below hb hB) hj ho (Nat.le_trans hB hb.size) ck)
  have hK2 := Lib.hid (fun (w' : World) (v : Value) (hb : Below w.heap.size w w') (h : LstI w'.heap.size w' v (swapL o a)) => l02Cost_any w'.heap.size _ v xs (swapL o a) kind w' ((hL1.out.below hb hB).mono (Nat.le_trans hB hb.size)) h hj (swapL_ord ho ha) (Nat.le_refl _) ck)
  rw [← e1] at hK1
  rw [← e2] at hK2
  obtain ⟨b2, o2, cap2, rfl, hb2, hl2, hc2⟩ := cells_of2 h2 (by omega)
  have hx0 : o[a]? = some (o.getD a 0) := by rw [List.getD_eq_getElem?_getD, List.getElem?_eq_getElem (by omega)]; rfl
  have hx1 : o[a + 1]? = some (o.getD (a + 1) 0) := by rw [List.getD_eq_getElem?_getD, List.getElem?_eq_getElem ha]; rfl
  have p0 := hc2 a _ hx0
  have p1 := hc2 (a + 1) _ hx1
  have hSl : (swapL o a).length = xs.length := by rw [swapL_length]; exact hlen
  have hSw : Hid (swapL o a = (o.set a (o.getD (a + 1) 0)).set (a + 1) (o.getD a 0)) := Lib.hid rfl
  have hB0 : ∀ j, Below w.heap.size w ((w.drewN j).alloc (Obj.cells #[] 2)) := fun j => below_alloc (below_drawn w j) _
  have hO0 : ∀ j, ((w.drewN j).alloc (Obj.cells #[] 2)).ownsRow w.heap.size 2 1 (.slice (some ⟨w.heap.size, 0, none⟩) 0 0) 0 [] := fun j => World.ownsRow_lit (w.drewN j) #[] 0 (Nat.le_refl _) (Nat.zero_le _) rfl
  have hsrc : ∀ j' j u, (o.map (Value.int .i64))[j]? = some u → ((w.drewN j').alloc (Obj.cells #[] 2)).cell? ((⟨b2, o2, none⟩ : Addr).add j) = some u := fun j' j u hu => by
    rw [List.getElem?_map] at hu
    cases hx : o[j]? with
    | none => rw [hx] at hu; cases hu
    | some x =>
      rw [hx] at hu
      obtain rfl : Value.int .i64 x = u := Option.some.inj hu
      have ead : (⟨b2, o2, none⟩ : Addr).add j = ⟨b2, o2 + j, none⟩ := addr_add b2 o2 j
      rw [ead, (hB0 j').cell (p := ⟨b2, o2 + j, none⟩) (show b2 < w.heap.size by omega)]
      exact hc2 j x hx
  have hSrc := Lib.hid hsrc
  have hone := ints_cell o
  have hlm : (o.map (Value.int .i64)).length = xs.length * 1 := by rw [List.length_map, Nat.mul_one, hlen]
  obtain ⟨i0, hi, hz0, hz1, hz2⟩ := info_parts infoI
  rw [hlen] at hl2 hC hK1 ha ⊢
  clear hNo hYes c0 hj ho hOkEq hL1 hL2 h1 h2 hc2 hsrc hx0 hx1 e1 e2 c0k
  have hB0h := Lib.hid hB0
  have hO0h := Lib.hid hO0
  clear hB0 hO0
  generalize costRes xs o kind = z1 at *
  generalize costRes xs (swapL o a) kind = z2 at *
  generalize o.getD a 0 = x0 at *
  generalize o.getD (a + 1) 0 = x1 at *
  generalize xs.length = n at *
  unfold maxLen at hl1 hl2
  have hw0 : IntKind.i64.wrap ((a : Int) + 1) = (a : Int) + 1 := IntWalk.i64_in _ (by omega)
  have hk1 : (a : Int) < (n : Int) := by omega
  have hk2 : (a : Int) + 1 < (n : Int) := by omega
  have hk3 : (0 : Int) ≤ (a : Int) + 1 := by omega
  have hk4 : ((a : Int) + 1).toNat = a + 1 := by omega
  have hk5 : a < n := by omega
  have hk6 : a + 1 < n := by omega
  go_enter Try.func5, Try.ntmps5
  go_wp2_with (first | (go_at_call 11; (with_reducible refine (hC.out).mono ?_); rintro e w' ⟨j, rfl, rfl⟩) | (go_at_call 12; refine (l00In_any _ _ _ _).mono ?_; rintro e w' ⟨rfl, rfl⟩) | (at_builtin; refine wpList_append_own _ rfl _ _ _ rfl w.heap.size 2 i0 (.int .i64 0) 1 8 Try.underlying23 hi hz0 hz1 hz2 rfl (by decide) _ 0 _ rfl (hO0h.out _) ⟨b2, o2, none⟩ n cap2 (o.map (Value.int .i64)) rfl hlm (hSrc.out _) hone (by unfold maxLen; omega) (by omega) (hB0h.out _).size ?_; intro v8 w8 hown8 hgrow8 hnil8; have hO8 := Lib.hid hown8; have hB8 := Lib.hid ((hB0h.out _).grown hgrow8 (hB0h.out _).size (fun g hg => by cases hg; exact Nat.le_refl _)); clear hown8 hgrow8 hnil8; obtain ⟨g, c8, rfl, hg⟩ := row_open (by have := hO8.out; rw [Nat.zero_add, List.nil_append] at this; exact this) (show 1 ≤ n by omega); have hO9 := Lib.hid (show w8.ownsRow w.heap.size 2 1 (.slice (some ⟨g, 0, none⟩) n c8) n (o.map (Value.int .i64)) by have := hO8.out; rw [Nat.zero_add, List.nil_append] at this; exact this); have q0 := (hB8.out.cell (p := ⟨b2, o2 + a, none⟩) (show b2 < w.heap.size by omega)).trans p0; have q1 := (hB8.out.cell (p := ⟨b2, o2 + (a + 1), none⟩) (show b2 < w.heap.size by omega)).trans p1; have hB9 := Lib.hid (hB8.out.setCell (p := ⟨g, a, none⟩) hg (.int .i64 x1)); have q2 := (hB9.out.cell (p := ⟨b2, o2 + a, none⟩) (show b2 < w.heap.size by omega)).trans p0; have d0 := row_cell hO9.out (show a < o.length by omega); have f0 := hO9.out.frozenAt a; have s1 := (row_set hO9.out a x1).1; have d1 := row_cell s1 (show a + 1 < (o.set a x1).length by rw [List.length_set]; omega); have f1 := s1.frozenAt (a + 1); clear hO8))
  have s2 := row_set s1 (a + 1) x0
  have hO5 := Lib.hid s2.1
  have hB5 := Lib.hid (hB9.out.setCell (p := ⟨g, a + 1, none⟩) hg (.int .i64 x0))
  clear s1 s2 q0 q1 q2 d0 d1 f0 f1 hO9 hB9 hB8
  generalize (w8.setCell ⟨g, a, none⟩ (.int .i64 x1)).setCell ⟨g, a + 1, none⟩ (.int .i64 x0) = w6 at *
  have hLs := row_lstI2 hO5.out (by rw [← hSw.out]; exact hSl) (by omega)
  rw [← hSw.out] at hLs
  with_reducible refine (hK1.out w6 hB5.out).mono ?_
  rintro e w7 ⟨rfl, hb7⟩
  have hB7 := Lib.hid (hB5.out.trans (hb7.mono hB5.out.size))
  have hL7 := Lib.hid ((hLs.below hb7 (Nat.le_refl _)).mono hb7.size)
  clear hb7 hLs
  go_wp2_with fail
  with_reducible refine (hK2.out w7 _ hB7.out hL7.out).mono ?_
  rintro e w9 ⟨rfl, hb9⟩
  have hB9 := Lib.hid (hB7.out.trans (hb9.mono hB7.out.size))
  clear hb9
  go_wp2_with fail
  first | exact hY.out _ _ (by first | rfl | rw [IntWalk.i64_left]) hB9.out | (go_ret2; exact hY.out _ _ (by first | rfl | rw [IntWalk.i64_left]) hB9.out)
theorem swapGain_both (xs : List JobD) (o : List Int) (at_ kind : Int) (_ : ∀ y ∈ xs, y.wf) (hw : ∀ x ∈ o, (Lit.int .i64 x).wf = true) (_ : (Lit.int .i64 at_).wf = true) (_ : (Lit.int .i64 kind).wf = true) : ∃ (r0 : Int) (r1 : Bool),
    (∀ (B : Nat) (v1 v2 : Value) (w : World), LstJob B w v1 xs → LstI B w v2 o → B ≤ w.heap.size → Calls Try.prog 5 #[v1, v2, .int .i64 at_, .int .i64 kind] w fun e w' => e = .returned (.tuple #[.int .i64 r0, .bool r1]) ∧ Below w.heap.size w w') ∧
    (∀ (B : Nat) (v1 v2 : Value) (w : World), LstJob B w v1 xs → LstI B w v2 o → B ≤ w.heap.size → Calls Try.prog 8 #[v1, v2, .int .i64 at_, .int .i64 kind] w fun e w' => e = .returned (.tuple #[.int .i64 r0, .bool r1]) ∧ Below w.heap.size w w') :=
  ⟨gainRes xs o at_ kind, gainOk xs o at_ kind, fun B v1 v2 w h1 h2 hB => specSwap_any B v1 v2 xs o at_ kind w h1 h2 hB, fun B v1 v2 w h1 h2 hB => implSwap_any B v1 v2 xs o at_ kind w h1 h2 hB hw⟩
end Go.Proofs.Ytnnmikfdaohkfaa
