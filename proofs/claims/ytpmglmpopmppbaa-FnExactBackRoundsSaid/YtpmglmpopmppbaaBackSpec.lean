/- Contracts: rounds and the same ones the other way; the model's side. -/
import Derived.Test.YtpmglmpopmppbaaBack
import Derived.Test.YtpmglmpopmppbaaInRows
import Derived.Deep.RegionLaw
namespace Go.Proofs.Ytpmglmpopmppbaa
open Go.RowKit Go.Lst Go.Shelf

/-- append to a row of the call's own, at a step of a region that draws its order. -/
theorem step_append_row {P : Program} {w : World} {ops : Array Oper} {o : Oper} {a : Act} {K : Act → World → Prop} {Q : Exit → Act → World → Prop} {E : Prop} (hgd : o.guard = none) (s x : Operand) (t : TypeId)
    (ho : o.op = .call { callee := .builtin .append, args := #[s, x], argTypes := #[t, t] })
    (base : Nat) (e : TypeId) (i : TypeInfo) (z : Value) (size bytes : Nat) (ht : P.underlying t = some (.slice e)) (hi : P.info? e = some i) (hz : i.zero = some z)
    (hsize : i.size = size) (hby : i.bytes = bytes) (hzs : z.cells.size = size) (hsz : 0 < size)
    (v : Value) (n : Nat) (xs : List Value) (hs : a.eval s = v) (hown : w.ownsRow base e size v n xs)
    (ad : Addr) (m c : Nat) (news : List Value) (hx : a.eval x = .slice (some ad) m c) (hl : news.length = m * size) (hnews : ∀ j u, news[j]? = some u → w.cell? (ad.add j) = some u) (h1 : ∀ u ∈ news, u.oneCell' = true)
    (h63 : n + m ≤ maxLen) (hbytes : (n + m) * bytes ≤ 140737488355328) (hbase : base ≤ w.heap.size)
    (h : ∀ v' w', w'.ownsRow base e size v' (n + m) (xs ++ news) → w.grownBy w' v.ownBlock → K (a.put o.dst v') w') :
    if Region.wanted o (yielded ops a.tmps) = true then Oper.wp P o a w K Q else E := by
  have hw : Region.wanted o (yielded ops a.tmps) = true := by simp [Region.wanted, hgd]
  rw [if_pos hw]
  exact wp_append_own w s x t ho base e i z size bytes ht hi hz hsize hby hzs hsz v n xs hs hown ad m c news hx hl hnews h1 h63 hbytes hbase fun v' w' h2 h3 _ => h v' w' h2 h3
theorem backTo_succ (xs : List Int) (k : Nat) : (xs ++ flatB (pairsTo xs (k + 1))).map (Value.int .i64) = (xs ++ flatB (pairsTo xs k)).map (Value.int .i64) ++ [.int .i64 (xs.getD (2 * k + 1) 0), .int .i64 (xs.getD (2 * k) 0)] := by
  rw [pairsTo_succ, flatB_snoc, ← List.append_assoc, List.map_append]; rfl
theorem back_long {t : Nat} {xs : List Int} (t1 : 2 ≤ t) (t2 : t ≤ 16) (he : xs.length % 2 = 0) (hl : t * (t - 1) < xs.length) : roundsOk t (backL xs) = false := by
  unfold roundsOk
  rw [sizeOk_iff t1 t2, backL_length he]
  have h2 : (2 * t - 2) * t = t * (t - 1) + t * (t - 1) := by rw [show 2 * t - 2 = (t - 1) + (t - 1) by omega, Nat.add_mul, Nat.mul_comm (t - 1) t]
  rw [h2, decide_eq_false (show ¬ xs.length + xs.length ≤ t * (t - 1) + t * (t - 1) by omega)]
  simp
theorem implBack_any (B : Nat) (v : Value) (xs : List Int) (T : Int) (w : World) (h : LstI B w v xs) (hB : B ≤ w.heap.size) (hwf : ∀ x ∈ xs, (Lit.int .i64 x).wf = true) :
    Calls Try.prog 31 #[.int .i64 T, v] w (ListPost (backRes T xs) (backOk T xs) w) := by
  cases hq : roundsOk T xs
  · exact implBack_no B v xs T w h hB hwf hq
  · obtain ⟨t, r, m, rfl, t1, t2, t3, r1, r2, hn, _, _⟩ := rounds_of hq
    have hL1 : 1 ≤ r * t := Nat.mul_pos (by omega) (by omega)
    have hL2 : r * t ≤ (2 * t - 2) * t := Nat.mul_le_mul_right t r2
    have hL3 : (2 * t - 2) * t ≤ 480 := Nat.mul_le_mul (show 2 * t - 2 ≤ 30 by omega) t2
    have hev : xs.length % 2 = 0 := by rw [hn, t3, show r * (2 * m) = 2 * (r * m) by rw [Nat.mul_left_comm], Nat.mul_mod_right]
    obtain ⟨a, cap, rfl, g1, g2, g3, _⟩ := h.at_
    obtain ⟨b, o, rfl, hbB⟩ := lstI_block h (by omega)
    exact implBack_run b o cap t xs.length xs B w h hB hbB hwf rfl hev (by omega) (by omega) g2 hq
theorem l07RoundsAt {q : Bool} (B : Nat) (v : Value) (xs : List Int) (T : Int) (w : World) (h : LstI B w v xs) (hq : roundsOk T xs = q) : Calls Try.prog 50 #[.int .i64 T, v] w fun x w' => x = .returned (.bool q) ∧ Below w.heap.size w w' := by
  rw [← hq]; exact (l07Rounds_any B v xs T w h).mono fun _ _ hr => hr.below
set_option maxHeartbeats 8000000 in
set_option maxRecDepth 100000 in
theorem specBack_any (B : Nat) (v : Value) (xs : List Int) (T : Int) (w : World) (h : LstI B w v xs) (hB : B ≤ w.heap.size) :
    Calls Try.prog 30 #[.int .i64 T, v] w (ListPost (backRes T xs) (backOk T xs) w) := by
  cases hq : roundsOk T xs
  · have hC := Lib.hid (l07RoundsAt B v xs T w h hq)
    have hok : backOk T xs = false := by unfold backOk; rw [hq]; rfl
    have hF : Hid (∀ w', Below w.heap.size w w' → ListPost (backRes T xs) (backOk T xs) w (.returned (.tuple #[.slice none 0 0, .bool false])) w') := Lib.hid fun w' hb => list_no (back_no hok) hok hb
    obtain ⟨a, cap, rfl, _⟩ := h.at_
    clear h hok
    generalize ListPost (backRes T xs) (backOk T xs) w = Q at *
    generalize xs.length = n at *
    go_enter Try.func30, Try.ntmps30
    go_wp2_with (go_at_call 50; (with_reducible refine hC.out.mono ?_); rintro e' w5 ⟨rfl, hb5⟩; have hQe := Lib.hid (hF.out _ hb5); clear hb5)
    show Q (.returned (.tuple #[_, _])) _
    exact Hid.out (by assumption)
  · obtain ⟨t, r, m, rfl, t1, t2, t3, r1, r2, hn, _, _⟩ := rounds_of hq
    have hev : xs.length % 2 = 0 := by rw [hn, t3, show r * (2 * m) = 2 * (r * m) by rw [Nat.mul_left_comm], Nat.mul_mod_right]
    clear t3
    have hC := Lib.hid (l07RoundsAt B v xs t w h hq)
    have hok : backOk t xs = roundsOk t (backL xs) := by unfold backOk; rw [hq, Bool.true_and]
    have hF : Hid (roundsOk t (backL xs) = false → ∀ w', Below w.heap.size w w' → ListPost (backRes t xs) (backOk t xs) w (.returned (.tuple #[.slice none 0 0, .bool false])) w') := Lib.hid fun hf w' hb => list_no (back_no (hok.trans hf)) (hok.trans hf) hb
    have hL1 : 1 ≤ r * t := Nat.mul_pos (by omega) (by omega)
    have hL2 : r * t ≤ (2 * t - 2) * t := Nat.mul_le_mul_right t r2
    have hL3 : (2 * t - 2) * t ≤ 480 := Nat.mul_le_mul (show 2 * t - 2 ≤ 30 by omega) t2
    have hn480 : xs.length ≤ 480 := by omega
    have hn1 : 1 ≤ xs.length := by omega
    obtain ⟨X, hX⟩ : ∃ X, X = t * (t - 1) := ⟨_, rfl⟩
    have hX2 : X ≤ 240 := by rw [hX]; exact Nat.mul_le_mul t2 (show t - 1 ≤ 15 by omega)
    have x1 : ((t : Int) * ((t : Int) - 1)) = (X : Int) := by rw [hX, Int.natCast_mul]; congr 1; omega
    have x9 : IntKind.i64.wrap ((t : Int) - 1) = (t : Int) - 1 := IntWalk.i64_in _ (by omega)
    have y2 : IntKind.i64.wrap (X : Int) = (X : Int) := IntWalk.i64_in _ (by omega)
    have hLong : Hid (X < xs.length → roundsOk t (backL xs) = false) := Lib.hid fun hx => back_long t1 t2 hev (by rw [← hX]; exact hx)
    obtain ⟨b, o, cap, rfl, hbB, hcap, hc⟩ := (show ∃ b o cap, v = .slice (some ⟨b, o, none⟩) xs.length cap ∧ b < B ∧ xs.length ≤ cap ∧ ∀ k, k < xs.length → w.cell? ⟨b, o + k, none⟩ = some (.int .i64 (xs.getD k 0)) by
      obtain ⟨a, cap, rfl, hl, h2, _, hc⟩ := h.at_
      obtain ⟨b, o, x0, rfl, hb, _, _⟩ := hc 0 (by omega)
      refine ⟨b, o, cap, rfl, hb, h2, fun k hk => ?_⟩
      obtain ⟨b', o', x', he, _, hx', hcell⟩ := hc k hk
      injection he with he
      injection he with e1 e2 _
      subst e1 e2
      rw [getD_of hx']
      exact hcell)
    by_cases hlong : X < xs.length
    · have hFF := Lib.hid (hF.out (hLong.out hlong))
      generalize ListPost (backRes t xs) (backOk t xs) w = Q at *
      clear h hok hq hL1 hL2 hL3 hn hX hev hc hLong hF
      generalize xs.length = n at *
      have y3 : (X : Int) < (n : Int) := by omega
      go_enter Try.func30, Try.ntmps30
      go_wp2_with (go_at_call 50; (with_reducible refine hC.out.mono ?_); rintro e' w5 ⟨rfl, hb5⟩; have hQe := Lib.hid (hFF.out _ hb5); clear hb5)
      show Q (.returned (.tuple #[_, _])) _
      exact Hid.out (by assumption)
    · have hP : Hid (roundsOk t (backL xs) = true → ∀ (w' : World) (v : Value), w'.ownsRow w.heap.size 2 1 v (xs.length + xs.length) ((backL xs).map (Value.int .i64)) → Below w.heap.size w w' → ListPost (backRes t xs) (backOk t xs) w (.returned (.tuple #[v, .bool true])) w') := Lib.hid fun hf w' v ho hb => by
        rw [back_yes (hok.trans hf)]
        exact list_yes (hok.trans hf) (Nat.le_refl _) (backL_length hev) ho (by omega) hb
      have hA2 : Hid (∀ (W : World) (v : Value), W.ownsRow w.heap.size 2 1 v (xs.length + xs.length) ((backL xs).map (Value.int .i64)) → Calls Try.prog 50 #[.int .i64 t, v] W fun x w' => x = .returned (.bool (roundsOk t (backL xs))) ∧ Below W.heap.size W w') := Lib.hid fun W v ho =>
        l07RoundsAt W.heap.size v (backL xs) t W (row_ints ho (backL_length hev) (by omega)) rfl
      have hBk : Hid (backL xs = xs ++ flatB (pairsTo xs (xs.length / 2))) := Lib.hid rfl
      have hSt := Lib.hid (backTo_succ xs)
      have hZ : Hid ((xs ++ flatB (pairsTo xs 0)).map (Value.int .i64) = [] ++ xs.map (Value.int .i64)) := Lib.hid (by rw [show flatB (pairsTo xs 0) = [] from rfl, List.append_nil, List.nil_append])
      have hCe := Lib.hid hc
      have hN1 : Hid (∀ W : World, Below w.heap.size w W → ∀ j u, (xs.map (Value.int .i64))[j]? = some u → W.cell? ((⟨b, o, none⟩ : Addr).add j) = some u) := Lib.hid fun W hW j u hu => by
        rw [List.getElem?_map] at hu
        cases hx : xs[j]? with
        | none => rw [hx] at hu; cases hu
        | some x =>
          rw [hx] at hu
          obtain rfl : Value.int .i64 x = u := Option.some.inj hu
          rw [backAddr, hW.cell (p := ⟨b, o + j, none⟩) (show b < w.heap.size by omega), hc j (List.getElem?_eq_some_iff.1 hx).1, getD_of hx]
      have hOne : Hid (∀ u ∈ xs.map (Value.int .i64), u.oneCell' = true) := Lib.hid fun u hu => by
        obtain ⟨x, _, rfl⟩ := List.mem_map.1 hu
        rfl
      have hLe : Hid ((xs.map (Value.int .i64)).length = xs.length * 1) := Lib.hid (by rw [List.length_map, Nat.mul_one])
      have hEv := Lib.hid hev
      obtain ⟨i0, hi, hz0, hz1, hz2⟩ := info_parts infoI
      generalize ListPost (backRes t xs) (backOk t xs) w = Q at *
      clear h hok hq hL1 hL2 hL3 hn hX hev hc hLong
      generalize roundsOk t (backL xs) = q at *
      generalize xs.map (Value.int .i64) = us at *
      generalize xs.length = n at *
      have y3 : ¬ (X : Int) < (n : Int) := by omega
      have hO0 := Lib.hid (fun (W : World) (hW : w.heap.size ≤ W.heap.size) => (show (W.alloc (Obj.cells #[] 2)).ownsRow w.heap.size 2 1 (.slice (some ⟨W.heap.size, 0, none⟩) 0 0) 0 [] from World.ownsRow_lit W #[] 0 hW (Nat.zero_le _) rfl))
      go_enter Try.func30, Try.ntmps30
      go_wp2_with (first | (go_at_call 50; (with_reducible refine hC.out.mono ?_); rintro e' w5 ⟨rfl, hb5⟩; have hB5 := Lib.hid hb5; have hS5 := hb5.size; have hB6 := Lib.hid (hb5.alloc hS5 (Obj.cells #[] 2)); clear hb5) | (at_builtin; refine wpList_append_own _ rfl _ _ _ rfl w.heap.size 2 i0 (.int .i64 0) 1 8 Try.underlying22 hi hz0 hz1 hz2 rfl (by decide) _ 0 _ rfl (hO0.out w5 hS5) ⟨b, o, none⟩ n cap us rfl hLe.out (hN1.out _ hB6.out) hOne.out (by unfold maxLen; omega) (by omega) hB6.out.size ?_; intro v8 w8 hown8 hgrow8 _; have hO8 := Lib.hid hown8; have hB8 := Lib.hid (hB6.out.grown hgrow8 hB6.out.size (fun g hg => by cases hg; exact hS5)); clear hown8 hgrow8))
      clear hC hB5 hB6 hO0 hN1 hOne hLe
      go_loopw [6, 7] (fun ov iv wr => ∃ k : Nat, 2 * k ≤ n ∧ iv = .int .i64 ((2 * k : Nat) : Int) ∧ Hid (wr.ownsRow w.heap.size 2 1 ov (n + 2 * k) ((xs ++ flatB (pairsTo xs k)).map (Value.int .i64))) ∧ Hid (Below w.heap.size w wr)) (fun _ iv _ => n - (intOf iv).toNat)
      case atStart => exact ⟨0, by omega, rfl, Lib.hid (by rw [hZ.out]; have := hO8.out; rw [Nat.zero_add] at this; exact this), hB8⟩
      case round =>
        clear hO8 hB8 hZ
        obtain ⟨k, hk, rfl, hO, hBw⟩ := hrel
        obtain ⟨s, hs⟩ : ∃ s, s = 2 * k := ⟨_, rfl⟩
        by_cases hlt : s < n
        · have hle := hBw.out.size
          have hs2 : s + 2 ≤ n := by have := hEv.out; omega
          have c1 := hCe.out s (by omega)
          obtain ⟨s1, hs1⟩ : ∃ s1, s1 = s + 1 := ⟨_, rfl⟩
          have c2 := hCe.out s1 (by omega)
          rw [← hBw.out.cell (p := ⟨b, o + s, none⟩) (show b < w.heap.size by omega)] at c1
          rw [← hBw.out.cell (p := ⟨b, o + s1, none⟩) (show b < w.heap.size by omega)] at c2
          have hS1 := Lib.hid (hSt.out k)
          rw [← hs, ← hs1] at hS1
          rw [← hs] at hO ⊢
          have y4 : (s : Int) < (n : Int) := by omega
          have y5 : (s1 : Int) < (n : Int) := by omega
          have y6 : IntKind.i64.wrap ((s : Int) + 1) = (s1 : Int) := by rw [IntWalk.i64_in _ (by omega)]; omega
          have y9 : (s : Int) + 1 = (s1 : Int) := by omega
          have y8 : IntKind.i64.wrap (s1 : Int) = (s1 : Int) := IntWalk.i64_in _ (by omega)
          have y7 : IntKind.i64.wrap ((s : Int) + 2) = ((s + 2 : Nat) : Int) := by rw [IntWalk.i64_in _ (by omega)]; omega
          have hSk := Lib.hid (show 2 * (k + 1) = s + 2 by omega)
          have hk1 : 2 * (k + 1) ≤ n := by omega
          clear hs hs1
          generalize xs.getD s 0 = pa at *
          generalize xs.getD s1 0 = pb at *
          go_wp2_with fail
          go_region_law ((refine step_append_row (by rfl) _ _ _ (by rfl) w.heap.size 2 i0 (.int .i64 0) 1 8 Try.underlying22 hi hz0 hz1 hz2 rfl (by decide) _ (n + s) _ (by rfl) (by first | exact hO.out.alloc _ | exact (hO.out.alloc _).drew) ⟨wr.heap.size, 0, none⟩ 2 2 [.int .i64 pb, .int .i64 pa] (by rfl) rfl (by first | exact newsTwo wr _ _ _ | exact newsTwo wr.drew _ _ _) (ints_two _ _) (by unfold maxLen; omega) (by omega) (by first | exact (hBw.out.alloc hle _).size | exact (hBw.out.alloc hle _).drew.size) ?_; intro v6 w6 hown6 hgrow6; have hO6 := Lib.hid hown6; have hB7 := Lib.hid (show Below w.heap.size w w6 from by first | exact (hBw.out.alloc hle _).grown hgrow6 (hBw.out.alloc hle _).size (fun g hg => (hO.out.lt g hg).1) | exact (hBw.out.alloc hle _).drew.grown hgrow6 (hBw.out.alloc hle _).size (fun g hg => (hO.out.lt g hg).1)); clear hown6 hgrow6))
          all_goals
            go_wp2
            go_roundw
            case rel => exact ⟨k + 1, hk1, by rw [hSk.out]; first | rfl | go_num, Lib.hid (by rw [hS1.out, hSk.out]; exact hO6.out), hB7⟩
            case measure => simp [intOf]; omega
        · have hrow := hO.out
          rw [show k = n / 2 by have := hEv.out; omega, ← hBk.out, show n + 2 * (n / 2) = n + n by have := hEv.out; omega] at hrow
          obtain ⟨g, c, rfl, hg0⟩ : ∃ g c, u6 = .slice (some ⟨g, 0, none⟩) (n + n) c ∧ w.heap.size ≤ g := by
            rcases hrow.2 with ⟨_, h0⟩ | ⟨g, c, cur, rfl, hAg, _⟩
            · omega
            · exact ⟨g, c, rfl, hAg⟩
          have hgl := (hrow.lt g rfl).2
          have hAA := Lib.hid (hA2.out _ _ hrow)
          have hRw := Lib.hid hrow
          have y4 : ¬ (s : Int) < (n : Int) := by omega
          rw [← hs]
          clear hA2 hO hrow hs
          have hle := hBw.out.size
          cases q
          · have hFF := Lib.hid (hF.out rfl)
            clear hF hP
            go_wp2_with (go_at_call 50; (with_reducible refine hAA.out.mono ?_); rintro e' w7 ⟨rfl, hb7⟩; have hQe := Lib.hid (hFF.out _ (hBw.out.trans (hb7.mono hle))); clear hb7)
            show Q (.returned (.tuple #[_, _])) _
            exact Hid.out (by assumption)
          · have hPP := Lib.hid (hP.out rfl)
            clear hF hP
            go_wp2_with (go_at_call 50; (with_reducible refine hAA.out.mono ?_); rintro e' w7 ⟨rfl, hb7⟩; have hQe := Lib.hid (hPP.out _ _ (ownsRow_below hRw.out hb7 hgl) (hBw.out.trans (hb7.mono hle))); clear hb7)
            show Q (.returned (.tuple #[_, _])) _
            exact Hid.out (by assumption)
theorem backRes_len (T : Int) (xs : List Int) : (backRes T xs).length ≤ 1048576 := by
  cases hok : backOk T xs
  · rw [back_no hok]; simp
  · rw [back_yes hok]
    unfold backOk at hok
    rw [Bool.and_eq_true] at hok
    obtain ⟨t, r, m, _, t1, t2, t3, r1, r2, hn, _, _⟩ := rounds_of hok.2
    have hL2 : r * t ≤ (2 * t - 2) * t := Nat.mul_le_mul_right t r2
    have hL3 : (2 * t - 2) * t ≤ 480 := Nat.mul_le_mul (show 2 * t - 2 ≤ 30 by omega) t2
    omega
theorem backRounds_both (x0 : Int) (x1 : List Int) (_ : (Lit.int .i64 x0).wf = true) (hw1 : ∀ y ∈ x1, (Lit.int .i64 y).wf = true) : ∃ (r0 : List Int) (r1 : Bool), r0.length ≤ 1048576 ∧
    (∀ (B : Nat) (v1 : Value) (w : World), LstI B w v1 x1 → B ≤ w.heap.size → Calls Try.prog 30 #[.int .i64 x0, v1] w fun e w' => ∃ v', e = .returned (.tuple #[v', .bool r1]) ∧ Lst.Own w.heap.size w'.heap.size w' v' 2 1 r0.length (r0.map (Value.int .i64)) ∧ Below w.heap.size w w') ∧
    (∀ (B : Nat) (v1 : Value) (w : World), LstI B w v1 x1 → B ≤ w.heap.size → Calls Try.prog 31 #[.int .i64 x0, v1] w fun e w' => ∃ v', e = .returned (.tuple #[v', .bool r1]) ∧ Lst.Own w.heap.size w'.heap.size w' v' 2 1 r0.length (r0.map (Value.int .i64)) ∧ Below w.heap.size w w') :=
  ⟨backRes x0 x1, backOk x0 x1, backRes_len x0 x1, fun B v1 w h hB => specBack_any B v1 x1 x0 w h hB, fun B v1 w h hB => implBack_any B v1 x1 x0 w h hB hw1⟩
end Go.Proofs.Ytpmglmpopmppbaa
