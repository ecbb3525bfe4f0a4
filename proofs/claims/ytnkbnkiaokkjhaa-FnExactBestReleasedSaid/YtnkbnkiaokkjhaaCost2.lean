/- Contracts: CostOf of the program and of the model. -/
import Derived.Test.YtnkbnkiaokkjhaaCost
namespace Go.Proofs.Ytnkbnkiaokkjhaa
open Go.RowKit Go.Lst Go.Plan


set_option maxHeartbeats 2000000 in
theorem l02Part_any (b o : Nat) (x : JobD) (e kind : Int) (w : World) (hk : inB kind 0 4 = true) (h : okEnd x e) (h2 : w.cell? ⟨b, o + 2, none⟩ = some (.int .i64 x.Due)) (h3 : w.cell? ⟨b, o + 3, none⟩ = some (.int .i64 x.Weight)) :
    Calls Try.prog 37 #[.pointer (some ⟨b, o, none⟩), .int .i64 e, .int .i64 kind] w (Ret (.int .i64 (costPart kind x e)) w) := by
  obtain ⟨k1, k2⟩ := inB_true hk
  obtain ⟨g1, g2, g3, g4, g5, g6⟩ := h
  have m1 := mul_bound g1 g2 g5 g6
  have m2 := mul_bound g1 g2 (b := max 0 (e - x.Due)) (by omega) (by omega)
  obtain ⟨m3, m4⟩ := m1
  obtain ⟨m5, m6⟩ := m2
  clear hk
  rcases (show kind = 0 ∨ kind = 1 ∨ kind = 2 ∨ kind = 3 ∨ kind = 4 by omega) with rfl | rfl | rfl | rfl | rfl
  · go_enter Try.func37, Try.ntmps37
    go_wp2_with fail
    go_ret
    exact Ret.now _ _
  · have hw : IntKind.i64.wrap (x.Weight * e) = x.Weight * e := IntWalk.i64_in _ (by omega)
    go_enter Try.func37, Try.ntmps37
    go_wp2_with fail
    go_ret
    exact Ret.now _ _
  · go_enter Try.func37, Try.ntmps37
    go_wp2_with fail
    go_ret
    exact Ret.now _ _
  · have hw : IntKind.i64.wrap (x.Weight * max 0 (e - x.Due)) = x.Weight * max 0 (e - x.Due) := IntWalk.i64_in _ (by omega)
    have hw2 : IntKind.i64.wrap (e - x.Due) = e - x.Due := IntWalk.i64_in _ (by omega)
    have hv : costPart 3 x e = x.Weight * max 0 (e - x.Due) := rfl
    rw [hv]
    have hm : ∀ nn, Calls Try.prog 52 #[.int .i64 0, .int .i64 (e - x.Due)] (w.drewN nn) fun e' w' => e' = .returned (.int .i64 (max 0 (e - x.Due))) ∧ w.drewN nn = w' := fun nn => l00Max_any _ _ _
    have HM := Lib.hid hm
    clear hm hv
    generalize max 0 (e - x.Due) = mm at *
    go_enter Try.func37, Try.ntmps37
    go_wp2_with fail
    first | (refine (HM.out 0).mono ?_; rintro e' w' ⟨rfl, rfl⟩; go_wp2_with fail; go_ret; exact Ret.now _ _) | (go_quiet ((go_at_call 52; exact Ret.quiet (Ret.same (HM.out _)))); go_wp2_with fail; go_ret; exact Ret.later _ _ _)
  · by_cases hq : x.Due < e
    · have hv : costPart 4 x e = 1 := by show (if x.Due < e then (1 : Int) else 0) = 1; rw [if_pos hq]
      rw [hv]
      clear hv
      go_enter Try.func37, Try.ntmps37
      go_wp2_with fail
      go_ret
      exact Ret.now _ _
    · have hv : costPart 4 x e = 0 := by show (if x.Due < e then (1 : Int) else 0) = 0; rw [if_neg hq]
      have hd : decide (x.Due < e) = false := decide_eq_false hq
      rw [hv]
      clear hv
      go_enter Try.func37, Try.ntmps37
      go_wp2_with fail
      go_ret
      exact Ret.now _ _
set_option maxHeartbeats 2000000 in
theorem l02Both_any (a b kind : Int) (w : World) (hk : inB kind 0 4 = true) (h : kind = 0 ∨ kind = 2 ∨ ((-1000000000000 ≤ a ∧ a ≤ 1000000000000) ∧ (-1000000000000 ≤ b ∧ b ≤ 1000000000000))) :
    Calls Try.prog 38 #[.int .i64 a, .int .i64 b, .int .i64 kind] w fun e w' => e = .returned (.int .i64 (costBoth kind a b)) ∧ w = w' := by
  obtain ⟨k1, k2⟩ := inB_true hk
  clear hk
  rcases (show kind = 0 ∨ kind = 1 ∨ kind = 2 ∨ kind = 3 ∨ kind = 4 by omega) with rfl | rfl | rfl | rfl | rfl
  · clear h
    go_enter Try.func38, Try.ntmps38
    go_wp2_with (go_at_call 52; refine (l00Max_any _ _ _).mono ?_; rintro e w' ⟨rfl, rfl⟩)
    go_ret
    exact ⟨rfl, rfl⟩
  · obtain ⟨⟨h1, h2⟩, h3, h4⟩ := h.resolve_left (by decide) |>.resolve_left (by decide)
    go_enter Try.func38, Try.ntmps38
    go_wp2_with fail
    go_ret
    exact ⟨rfl, rfl⟩
  · clear h
    go_enter Try.func38, Try.ntmps38
    go_wp2_with (go_at_call 52; refine (l00Max_any _ _ _).mono ?_; rintro e w' ⟨rfl, rfl⟩)
    go_ret
    exact ⟨rfl, rfl⟩
  · obtain ⟨⟨h1, h2⟩, h3, h4⟩ := h.resolve_left (by decide) |>.resolve_left (by decide)
    go_enter Try.func38, Try.ntmps38
    go_wp2_with fail
    go_ret
    exact ⟨rfl, rfl⟩
  · obtain ⟨⟨h1, h2⟩, h3, h4⟩ := h.resolve_left (by decide) |>.resolve_left (by decide)
    go_enter Try.func38, Try.ntmps38
    go_wp2_with fail
    go_ret
    exact ⟨rfl, rfl⟩

theorem costTo_one {kind : Int} {xs : List JobD} {es : List Int} {x : JobD} {e : Int} (h : costTo kind xs es (0 + 1) = costBoth kind (costTo kind xs es 0) (costPart kind x e)) (hb : -10000 ≤ costPart kind x e) : costTo kind xs es (0 + 1) = costPart kind x e := by
  rw [h]
  show costBoth kind (costNone kind) (costPart kind x e) = _
  unfold costBoth costNone
  by_cases hk : kind = 0 ∨ kind = 2
  · rw [if_pos hk, if_pos hk]; omega
  · rw [if_neg hk, if_neg hk]; omega
set_option maxHeartbeats 4000000 in
set_option maxRecDepth 100000 in
theorem l02Cost_any (B : Nat) (v1 v2 : Value) (xs : List JobD) (o : List Int) (kind : Int) (w : World) (h1 : LstJob B w v1 xs) (h2 : LstI B w v2 o) (hj : areJobs xs = true) (ho : isOrd o xs.length = true) (hB : B ≤ w.heap.size) (hk : inB kind 0 4 = true) :
    Calls Try.prog 20 #[v1, v2, .int .i64 kind] w fun e w' => e = .returned (.int .i64 (costTo kind xs (endsOf xs o) xs.length)) ∧ Below w.heap.size w w' := by
  have hE := Lib.hid (l02Ends_any B v1 v2 xs o w h1 h2 hj ho hB)
  have h24 := (areJobs_of hj).2.1
  have hn1 := (areJobs_of hj).1
  have hK : Hid (∀ k, k < xs.length → _) := Lib.hid fun k (hk : k < xs.length) => cost_at hj ho kind hk
  obtain ⟨a1, cap1, rfl, hl1, _, _, hc1⟩ := h1.at_
  have hC1 := Lib.hid hc1
  have hen := Lib.hid (endsOf_length xs o)
  have hPt := Lib.hid (fun (b o : Nat) (x : JobD) (e : Int) (w : World) => l02Part_any b o x e kind w hk)
  have hBt := Lib.hid (fun (a b : Int) (w : World) => l02Both_any a b kind w hk)
  have hBB := Lib.hid (fun (i : Nat) (a b : Int) => costBoth_bound (kind := kind) (a := a) (b := b) (i := i) hk)
  have hOne := Lib.hid (fun (es : List Int) (x : JobD) (e : Int) => @costTo_one kind xs es x e)
  have hIn1 : Hid (∀ z, -10000 ≤ z → z ≤ 2500000000 → CostIn kind z 1) := Lib.hid fun z a b => .inr (.inr ⟨by omega, by omega⟩)
  generalize endsOf xs o = es at *
  clear h1 h2 hj ho hc1 hk
  generalize xs.length = n at *
  go_enter Try.func20, Try.ntmps20
  go_wp2_with fail
  refine (hE.out).mono ?_
  rintro e w2 ⟨v', rfl, ho, hb⟩
  have hB2 := Lib.hid hb
  have hL := Lib.hid (show LstI w2.heap.size w2 v' es by
    have := hen.out
    subst this
    exact ho.lstI (Nat.le_refl _))
  clear ho hb
  obtain ⟨ae, cape, hve, hle, _, _, hce⟩ := hL.out.at_
  rw [hen.out] at hve hle hce
  subst hve
  have hCE := Lib.hid hce
  clear hce hL
  obtain ⟨x0, e0, hx0, he0, hoe0, hF0⟩ := hK.out 0 (by omega)
  obtain ⟨b1, o1, x0', rfl, hbB1, hx0', _, _, p2, p3⟩ := hC1.out 0 (by omega)
  obtain rfl : x0' = x0 := by rw [hx0] at hx0'; exact (Option.some.inj hx0').symm
  obtain ⟨b2, o2, e0', rfl, hbB2, he0', q0⟩ := hCE.out 0 (by omega)
  obtain rfl : e0' = e0 := by rw [he0] at he0'; exact (Option.some.inj he0').symm
  rw [← hB2.out.cell (p := ⟨b1, o1 + 0 * 4 + 2, none⟩) (show b1 < w.heap.size by omega)] at p2
  rw [← hB2.out.cell (p := ⟨b1, o1 + 0 * 4 + 3, none⟩) (show b1 < w.heap.size by omega)] at p3
  rw [Nat.zero_mul, Nat.add_zero] at p2 p3
  rw [Nat.add_zero] at q0
  have hPB0 := Lib.hid (costPart_bound (kind := kind) hoe0)
  have hZ0 := Lib.hid (hOne.out es x0' e0' hF0 hPB0.out.1)
  have hP0 := Lib.hid (fun nn => hPt.out b1 o1 x0' e0' (w2.drewN nn) hoe0 p2 p3)
  have hI0 := Lib.hid (hIn1.out _ hPB0.out.1 hPB0.out.2)
  have hBl := Lib.hid (show b1 < w.heap.size by omega)
  clear hx0 hx0' he0 he0' hF0 hoe0 p2 p3 hbB1 hbB2
  have hn0 : (0 : Int) < (n : Int) := by omega
  go_wp2_with fail
  go_quiet ((go_at_call 37; exact Ret.quiet (hP0.out _)))
  go_wp2_with fail
  rename_i nq
  go_loopw [8, 9] (fun cv ii wr => ∃ (i nd : Nat) (z : Int), i + 1 ≤ n ∧ ii = .int .i64 ((i + 1 : Nat) : Int) ∧ cv = .int .i64 z ∧ Hid (z = costTo kind xs es (i + 1)) ∧ Hid (CostIn kind z (i + 1)) ∧ wr = w2.drewN nd) (fun _ ii _ => n - (intOf ii).toNat)
  case atStart => exact ⟨0, _, _, by omega, rfl, rfl, Lib.hid hZ0.out.symm, hI0, rfl⟩
  case round =>
    obtain ⟨i, nd, z, hi, rfl, rfl, hZ, hbd, rfl⟩ := hrel
    rw [show ((i + 1 : Nat) : Int) = (i : Int) + 1 by omega] at *
    by_cases hlt : i + 1 < n
    · obtain ⟨x, en, hx, hes, hoe, hF⟩ := hK.out (i + 1) hlt
      obtain ⟨b1', o1', x', hab, hbB1, hx', _, _, p2, p3⟩ := hC1.out (i + 1) hlt
      injection hab with hab
      injection hab with e1 e2 _
      subst e1 e2
      obtain rfl : x' = x := by rw [hx] at hx'; exact (Option.some.inj hx').symm
      obtain ⟨b2', o2', e', hab, hbB2, he', q1⟩ := hCE.out (i + 1) hlt
      injection hab with hab
      injection hab with e1 e2 _
      subst e1 e2
      obtain rfl : e' = en := by rw [hes] at he'; exact (Option.some.inj he').symm
      rw [← hB2.out.cell (p := ⟨b1, o1 + (i + 1) * 4 + 2, none⟩) (show b1 < w.heap.size by omega)] at p2
      rw [← hB2.out.cell (p := ⟨b1, o1 + (i + 1) * 4 + 3, none⟩) (show b1 < w.heap.size by omega)] at p3
      rw [← World.cell?_drewN (n := nd)] at p2 p3 q1
      generalize hwo : w2.drewN nd = wo at *
      have hWo := Lib.hid hwo
      have hPB := Lib.hid (costPart_bound (kind := kind) hoe)
      have hP1 := Lib.hid (fun nn => hPt.out b1 (o1 + (i + 1) * 4) x' e' (wo.drewN nn) hoe p2 p3)
      have hZ2 := Lib.hid (show costBoth kind z (costPart kind x' e') = costTo kind xs es (i + 1 + 1) by rw [hF, hZ.out])
      have hb2 := Lib.hid (hBB.out (i + 1) z (costPart kind x' e') hbd.out hPB.out)
      have hB1 := Lib.hid (fun nn => hBt.out z (costPart kind x' e') (wo.drewN nn) (by
        have h9 := hPB.out
        rcases hbd.out with h | h | ⟨h3, h4⟩
        · exact .inl h
        · exact .inr (.inl h)
        · exact .inr (.inr ⟨⟨by omega, by omega⟩, by omega, by omega⟩)))
      clear hwo hx hx' hes he' hF hbB1 hbB2 hoe p2 p3
      go_wp2_with fail
      go_quiet ((first | (go_at_call 37; exact Ret.quiet (hP1.out _)) | (go_at_call 38; exact Ret.quiet (Ret.same (hB1.out _)))))
      go_wp2_with fail
      go_roundw
      case rel => exact ⟨i + 1, _, _, by omega, by go_num, rfl, hZ2, hb2, by rw [← hWo.out, World.drewN_drewN]⟩
      case measure => simp [intOf]; omega
    · have hZ2 := Lib.hid (show z = costTo kind xs es n by rw [hZ.out, show i + 1 = n by omega])
      go_wp2
      go_ret
      exact ⟨ret_int hZ2.out, below_drew hB2.out _⟩
end Go.Proofs.Ytnkbnkiaokkjhaa
