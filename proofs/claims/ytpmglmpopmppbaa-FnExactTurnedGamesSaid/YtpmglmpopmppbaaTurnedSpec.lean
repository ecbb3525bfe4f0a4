/- Contracts: games that begin with a round; the model's side. -/
import Derived.Test.YtpmglmpopmppbaaTurned
import Derived.Deep.RegionLaw
namespace Go.Proofs.Ytpmglmpopmppbaa
open Go.RowKit Go.Lst

/-- append to a row of the call's own, at a step of a region that draws its order; it may append nothing. -/
theorem step_append_own {P : Program} {w : World} {ops : Array Oper} {o : Oper} {a : Act} {K : Act → World → Prop} {Q : Exit → Act → World → Prop} {E : Prop} (hgd : o.guard = none) (s x : Operand) (t : TypeId)
    (ho : o.op = .call { callee := .builtin .append, args := #[s, x], argTypes := #[t, t] })
    (base : Nat) (e : TypeId) (i : TypeInfo) (z : Value) (size bytes : Nat) (ht : P.underlying t = some (.slice e)) (hi : P.info? e = some i) (hz : i.zero = some z)
    (hsize : i.size = size) (hby : i.bytes = bytes) (hzs : z.cells.size = size) (hsz : 0 < size)
    (v : Value) (n : Nat) (xs : List Value) (hs : a.eval s = v) (hown : w.ownsRow base e size v n xs)
    (ad : Addr) (m c : Nat) (news : List Value) (hx : a.eval x = .slice (some ad) m c) (hl : news.length = m * size) (hnews : ∀ j u, news[j]? = some u → w.cell? (ad.add j) = some u) (h1 : ∀ u ∈ news, u.oneCell' = true)
    (h63 : n + m ≤ maxLen) (hbytes : (n + m) * bytes ≤ 140737488355328) (hbase : base ≤ w.heap.size)
    (h : ∀ v' w', w'.ownsRow base e size v' (n + m) (xs ++ news) → w.grownBy w' v.ownBlock → K (a.put o.dst v') w') :
    if Region.wanted o (yielded ops a.tmps) = true then Oper.wp P o a w K Q else E := by
  have hw : Region.wanted o (yielded ops a.tmps) = true := by simp [Region.wanted, hgd]
  rw [if_pos hw]
  exact wp_append_own w s x t ho base e i z size bytes ht hi hz hsize hby hzs hsz v n xs hs hown ad m c news hx hl hnews h1 h63 hbytes hbase fun v' w' h2 h3 _ => h v' w' h2 h3

theorem l07Rounds_is {q : Bool} (B : Nat) (v : Value) (xs : List Int) (T : Int) (w : World) (h : LstI B w v xs) (hq : roundsOk T xs = q) : Calls Try.prog 50 #[.int .i64 T, v] w fun x w' => x = .returned (.bool q) ∧ Below w.heap.size w w' := by
  rw [← hq]; exact (l07Rounds_any B v xs T w h).mono fun _ _ hr => hr.below
set_option maxHeartbeats 4000000 in
set_option maxRecDepth 100000 in
theorem specTurned_any (B : Nat) (v : Value) (xs : List Int) (T K : Int) (w : World) (h : LstI B w v xs) (hB : B ≤ w.heap.size) :
    Calls Try.prog 34 #[.int .i64 T, v, .int .i64 K] w (ListPost (turnL T xs K) (turnOk T xs K) w) := by
  cases hq : roundsOk T xs
  · have hC := Lib.hid (l07Rounds_is B v xs T w h hq)
    have hok : turnOk T xs K = false := by unfold turnOk; rw [hq]; rfl
    have hF : Hid (∀ w', Below w.heap.size w w' → ListPost (turnL T xs K) (turnOk T xs K) w (.returned (.tuple #[.slice none 0 0, .bool false])) w') := Lib.hid fun w' hb => list_no (by unfold turnL; rw [hok]; rfl) hok hb
    obtain ⟨a, cap, rfl, _⟩ := h.at_
    clear h hok
    generalize ListPost (turnL T xs K) (turnOk T xs K) w = Q at *
    generalize xs.length = n at *
    go_enter Try.func34, Try.ntmps34
    go_wp2_with (go_at_call 50; (with_reducible refine hC.out.mono ?_); rintro e' w5 ⟨rfl, hb5⟩; have hQe := Lib.hid (hF.out _ hb5); clear hb5)
    show Q (.returned (.tuple #[_, _])) _
    exact Hid.out (by assumption)
  · obtain ⟨t, r, m, rfl, t1, t2, t3, r1, r2, hn, _, _⟩ := rounds_of hq
    clear t3
    have hC := Lib.hid (l07Rounds_is B v xs t w h hq)
    have hok : turnOk t xs K = inB K 0 ((r : Int) - 1) := by
      unfold turnOk
      rw [hq, Bool.true_and, hn, (divB (r * t) t).1, Nat.mul_div_cancel _ (by omega)]
    have hL1 : 1 ≤ r * t := Nat.mul_pos (by omega) (by omega)
    have hL2 : r * t ≤ (2 * t - 2) * t := Nat.mul_le_mul_right t r2
    have hL3 : (2 * t - 2) * t ≤ 480 := Nat.mul_le_mul (show 2 * t - 2 ≤ 30 by omega) t2
    obtain ⟨a, cap, rfl, g1, g2, g3, _⟩ := h.at_
    obtain ⟨b, o, rfl, hbB⟩ := lstI_block h (by omega)
    have hIn := Lib.hid (fun w' => l00In_any K 0 ((r : Int) - 1) w')
    have x3 : ((xs.length : Int)).tdiv (t : Int) = (r : Int) := by rw [hn, (divB (r * t) t).2, Nat.mul_div_cancel _ (by omega)]
    have x6 : ((t : Int) == 0) = false := by rw [beq_eq_false_iff_ne]; omega
    have x7 : ¬ (t : Int) = 0 := by omega
    have x8 : ¬ t = 0 := by omega
    have x9 : IntKind.i64.wrap (r : Int) = (r : Int) := IntWalk.i64_in _ (by omega)
    have y1 : IntKind.i64.wrap ((r : Int) - 1) = (r : Int) - 1 := IntWalk.i64_in _ (by omega)
    cases hk : inB K 0 ((r : Int) - 1)
    · rw [hk] at hok
      simp only [hk] at hIn
      have hF : Hid (∀ w', Below w.heap.size w w' → ListPost (turnL t xs K) (turnOk t xs K) w (.returned (.tuple #[.slice none 0 0, .bool false])) w') := Lib.hid fun w' hb => list_no (by unfold turnL; rw [hok]; rfl) hok hb
      generalize ListPost (turnL t xs K) (turnOk t xs K) w = Q at *
      clear h hok hq hk hL1 hL2 hL3 hn
      generalize xs.length = n at *
      go_enter Try.func34, Try.ntmps34
      go_wp2_with (first | (go_at_call 50; (with_reducible refine hC.out.mono ?_); rintro e' w5 ⟨rfl, hb5⟩; have hQe := Lib.hid (hF.out _ hb5); clear hb5) | (go_at_call 55; (with_reducible refine (hIn.out _).mono ?_); rintro e' w' ⟨rfl, rfl⟩))
      show Q (.returned (.tuple #[_, _])) _
      exact Hid.out (by assumption)
    · rw [hk] at hok
      simp only [hk] at hIn
      have hk2 := hk
      unfold inB at hk2
      simp only [Bool.and_eq_true, decide_eq_true_eq] at hk2
      obtain ⟨k, rfl⟩ : ∃ k : Nat, K = (k : Int) := ⟨K.toNat, by omega⟩
      have hkr : k < r := by omega
      obtain ⟨M, hM⟩ : ∃ M, M = k * t := ⟨_, rfl⟩
      have hMn : M < xs.length := by
        rw [hM, hn]
        exact Nat.mul_lt_mul_of_lt_of_le hkr (Nat.le_refl _) (by omega)
      have x1 : ((k : Int) * (t : Int)) = (M : Int) := by rw [hM, Int.natCast_mul]
      have hTl : turnL t xs k = xs.drop M ++ xs.take M := by unfold turnL; rw [hok, if_pos rfl, x1, Int.toNat_natCast]
      have y2 : IntKind.i64.wrap (M : Int) = (M : Int) := IntWalk.i64_in _ (by omega)
      obtain ⟨b', o', cap', hv', hb', _, hcell⟩ := cells_ofG h (by omega)
      injection hv' with e1 _ e2
      injection e1 with e1
      injection e1 with e1 e3 _
      subst e1 e2 e3
      have hN1 : Hid (∀ W : World, Below w.heap.size w W → ∀ j u, ((xs.drop M).map (Value.int .i64))[j]? = some u → W.cell? ((⟨b, o + M, none⟩ : Addr).add j) = some u) := Lib.hid fun W hW => src_cells fun k x hx => by
        rw [hW.cell (p := ⟨b, o + M + k, none⟩) (show b < w.heap.size by omega), Nat.add_assoc]
        rw [List.getElem?_drop] at hx
        exact hcell _ _ hx
      have hN2 : Hid (∀ W : World, Below w.heap.size w W → ∀ j u, ((xs.take M).map (Value.int .i64))[j]? = some u → W.cell? ((⟨b, o, none⟩ : Addr).add j) = some u) := Lib.hid fun W hW => src_cells fun k x hx => by
        rw [hW.cell (p := ⟨b, o + k, none⟩) (show b < w.heap.size by omega)]
        rw [List.getElem?_take] at hx
        split at hx
        · exact hcell _ _ hx
        · cases hx
      have hI1 := Lib.hid (ints_cellG (xs.drop M))
      have hI2 := Lib.hid (ints_cellG (xs.take M))
      have hl1 : ((xs.drop M).map (Value.int .i64)).length = (xs.length - M) * 1 := by rw [List.length_map, List.length_drop, Nat.mul_one]
      have hl2 : ((xs.take M).map (Value.int .i64)).length = M * 1 := by rw [List.length_map, List.length_take, Nat.mul_one]; omega
      have hLl := Lib.hid (And.intro hl1 hl2)
      have hP : Hid (∀ (w' : World) (v : Value), w'.ownsRow w.heap.size 2 1 v (0 + (xs.length - M) + M) (([] ++ (xs.drop M).map (Value.int .i64)) ++ (xs.take M).map (Value.int .i64)) → Below w.heap.size w w' → ListPost (turnL t xs k) (turnOk t xs k) w (.returned (.tuple #[v, .bool true])) w') := Lib.hid fun w' v ho hb => by
        rw [List.nil_append, ← List.map_append, show 0 + (xs.length - M) + M = xs.length by omega] at ho
        rw [hTl]
        exact list_yes hok (Nat.le_refl _) (turn_len xs M) ho (by omega) hb
      generalize ListPost (turnL t xs k) (turnOk t xs k) w = Q at *
      have hn480 : xs.length ≤ 480 := by omega
      clear h hok hq hk hk2 hTl hM hcell hL1 hL2 hL3 hn hl1 hl2
      generalize (xs.drop M).map (Value.int .i64) = us1 at *
      generalize (xs.take M).map (Value.int .i64) = us2 at *
      generalize xs.length = n at *
      have hs1 := fun W => slice_from b o n cap M W hMn g2
      have hs2 := fun W => slice_to b o n cap M W hMn g2
      obtain ⟨i0, hi, hz0, hz1, hz2⟩ := info_parts infoI
      have hml : n - M + M = n := by omega
      go_enter Try.func34, Try.ntmps34
      go_wp2_with (first | (go_at_call 50; (with_reducible refine hC.out.mono ?_); rintro e' w5 ⟨rfl, hb5⟩; have hB5 := Lib.hid hb5; have hS5 := hb5.size; clear hb5) | (go_at_call 55; (with_reducible refine (hIn.out _).mono ?_); rintro e' w' ⟨rfl, rfl⟩))
      have hO1 := Lib.hid (show (w5.alloc (Obj.cells #[] 2)).ownsRow w.heap.size 2 1 (.slice (some ⟨w5.heap.size, 0, none⟩) 0 0) 0 [] from World.ownsRow_lit w5 #[] 0 hS5 (Nat.zero_le _) rfl)
      have hB6 := Lib.hid (hB5.out.alloc hS5 (Obj.cells #[] 2))
      go_region_law ((first | (refine step_append_own (by rfl) _ _ _ (by rfl) w.heap.size 2 i0 (.int .i64 0) 1 8 Try.underlying22 hi hz0 hz1 hz2 rfl (by decide) _ 0 _ (by rfl) (by first | exact hO1.out | exact hO1.out.drew) ⟨b, o + M, none⟩ (n - M) (cap - M) us1 (by rfl) hLl.out.1 (hN1.out _ (by first | exact hB6.out | exact hB6.out.drew)) hI1.out (by unfold maxLen; omega) (by omega) (by first | exact hB6.out.size | exact hB6.out.drew.size) ?_; intro v6 w6 hown6 hgrow6; have hO6 := Lib.hid hown6; have hB7 := Lib.hid (show Below w.heap.size w w6 from by first | exact hB6.out.grown hgrow6 hB6.out.size (fun g hg => by cases hg; exact hS5) | exact hB6.out.drew.grown hgrow6 hB6.out.size (fun g hg => by cases hg; exact hS5)); clear hown6 hgrow6) | (refine step_append_own (by rfl) _ _ _ (by rfl) w.heap.size 2 i0 (.int .i64 0) 1 8 Try.underlying22 hi hz0 hz1 hz2 rfl (by decide) _ (0 + (n - M)) _ (by rfl) (by first | exact hO6.out | exact hO6.out.drew) ⟨b, o, none⟩ M cap us2 (by rfl) hLl.out.2 (hN2.out _ (by first | exact hB7.out | exact hB7.out.drew)) hI2.out (by unfold maxLen; omega) (by omega) (by first | exact hB7.out.size | exact hB7.out.drew.size) ?_; intro v8 w8 hown8 hgrow8; have hQe := Lib.hid (hP.out w8 v8 hown8 (hB7.out.grown hgrow8 hB7.out.size (fun g hg => (hO6.out.lt g hg).1))); clear hown8 hgrow8)))
      all_goals
        go_wp2
        exact bodyPost_ret (v := .tuple #[v8, .bool true]) (by first | rfl | simp [results, Try.f34, go_sem, Act.put]) rfl hQe.out
theorem turnL_len (T : Int) (xs : List Int) (K : Int) : (turnL T xs K).length ≤ 1048576 := by
  unfold turnL
  split
  · rename_i hok
    unfold turnOk at hok
    rw [Bool.and_eq_true] at hok
    obtain ⟨t, r, m, rfl, t1, t2, _, r1, r2, hn, _, _⟩ := rounds_of hok.1
    rw [turn_len, hn]
    have hL2 : r * t ≤ (2 * t - 2) * t := Nat.mul_le_mul_right t r2
    have hL3 : (2 * t - 2) * t ≤ 480 := Nat.mul_le_mul (show 2 * t - 2 ≤ 30 by omega) t2
    omega
  · simp
theorem turnedGames_both (x0 : Int) (x1 : List Int) (x2 : Int) (_ : (Lit.int .i64 x0).wf = true) (hw1 : ∀ y ∈ x1, (Lit.int .i64 y).wf = true) (_ : (Lit.int .i64 x2).wf = true) : ∃ (r0 : List Int) (r1 : Bool), r0.length ≤ 1048576 ∧
    (∀ (B : Nat) (v1 : Value) (w : World), LstI B w v1 x1 → B ≤ w.heap.size → Calls Try.prog 34 #[.int .i64 x0, v1, .int .i64 x2] w fun e w' => ∃ v', e = .returned (.tuple #[v', .bool r1]) ∧ Lst.Own w.heap.size w'.heap.size w' v' 2 1 r0.length (r0.map (Value.int .i64)) ∧ Below w.heap.size w w') ∧
    (∀ (B : Nat) (v1 : Value) (w : World), LstI B w v1 x1 → B ≤ w.heap.size → Calls Try.prog 35 #[.int .i64 x0, v1, .int .i64 x2] w fun e w' => ∃ v', e = .returned (.tuple #[v', .bool r1]) ∧ Lst.Own w.heap.size w'.heap.size w' v' 2 1 r0.length (r0.map (Value.int .i64)) ∧ Below w.heap.size w w') :=
  ⟨turnL x0 x1 x2, turnOk x0 x1 x2, turnL_len x0 x1 x2, fun B v1 w h hB => specTurned_any B v1 x1 x0 x2 w h hB, fun B v1 w h hB => implTurned_any B v1 x1 x0 x2 w h hB hw1⟩
end Go.Proofs.Ytpmglmpopmppbaa
