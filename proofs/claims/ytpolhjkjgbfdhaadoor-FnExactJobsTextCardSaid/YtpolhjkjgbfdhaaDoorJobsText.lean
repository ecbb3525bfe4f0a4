/- Contracts: the text of jobs, the model's and the program's. Conditions: the table of powers of ten lies as the library's text lays it (the program's side). -/
import Derived.Test.YtpolhjkjgbfdhaaDoorRuleText
namespace Go.Proofs.YtpolhjkjgbfdhaaDoor
open Go.RowKit Go.Lst Go

def semi : ByteArray := ⟨#[59]⟩
def jobL (x : JobD) : List Int := [x.Time, x.Release, x.Due, x.Weight]
def jobB (x : JobD) : ByteArray := listB (jobL x)
def jobsB (xs : List JobD) : ByteArray := joinS semi (xs.map jobB)
def jobsR (xs : List JobD) : ByteArray := if areJobs xs then jobsB xs else ⟨#[]⟩
theorem jobsR_no {xs : List JobD} (h : areJobs xs = false) : jobsR xs = ⟨#[]⟩ := by unfold jobsR; rw [h]; rfl
theorem jobsR_yes {xs : List JobD} (h : areJobs xs = true) : jobsR xs = jobsB xs := by unfold jobsR; rw [h]; rfl
theorem jobs_of {xs : List JobD} (h : areJobs xs = true) : 1 ≤ xs.length ∧ xs.length ≤ 24 ∧ ∀ x ∈ xs, okJob x = true := by
  simp only [areJobs, Bool.and_eq_true, decide_eq_true_eq] at h
  exact ⟨h.1.1, h.1.2, fun x hx => List.all_eq_true.1 h.2 x hx⟩
theorem job_vals {x : JobD} (h : okJob x = true) : ∀ y ∈ jobL x, okVal y = true := by
  simp only [okJob, Bool.and_eq_true] at h
  obtain ⟨⟨⟨h1, h2⟩, h3⟩, h4⟩ := h
  have a1 := inB_true h1
  have a2 := inB_true h2
  have a3 := inB_true h3
  have a4 := inB_true h4
  intro y hy
  simp only [jobL, List.mem_cons, List.mem_nil_iff, or_false] at hy
  unfold okVal inB
  rcases hy with rfl | rfl | rfl | rfl <;> exact decide_eq_true (by omega)
theorem job_ok {x : JobD} (h : okJob x = true) : okList (jobL x) = true ∧ listR (jobL x) = jobB x := by
  have e : okList (jobL x) = true := by
    unfold okList
    rw [List.all_eq_true.2 (job_vals h)]; rfl
  exact ⟨e, by unfold listR jobB; rw [e]; rfl⟩
theorem job_wide {x : JobD} (h : okJob x = true) : Wide (jobL x) := fun y hy => okVal_wide (job_vals h y hy)
theorem job_size {x : JobD} (h : okJob x = true) : (jobB x).size ≤ 84 := by
  have e : jobB x = joinS comma ((jobL x).map decS) := rfl
  have := joinS_size comma 20 ((jobL x).map decS) (decs_size (job_wide h))
  rw [List.length_map] at this
  rw [e]; exact this
theorem jobsTo_size {xs : List JobD} (h : ∀ x ∈ xs, okJob x = true) (k : Nat) (hk : k ≤ xs.length) : (joinS semi ((xs.map jobB).take k)).size ≤ k * 85 := by
  have := joinS_size semi 84 ((xs.map jobB).take k) (fun y hy => by
    obtain ⟨x, hx, rfl⟩ := List.mem_map.1 (List.mem_of_mem_take hy)
    exact job_size (h x hx))
  rw [List.length_take, List.length_map, Nat.min_eq_left hk] at this
  exact this
set_option maxHeartbeats 4000000 in
set_option maxRecDepth 100000 in
theorem l08Jobs_any (B : Nat) (v : Value) (xs : List JobD) (w : World) (h : LstJob B w v xs) (hB : B ≤ w.heap.size) (hq : areJobs xs = true) :
    Calls Tryd.prog 43 #[v] w fun e w' => e = .returned (.string (jobsB xs)) ∧ Below w.heap.size w w' := by
  obtain ⟨hl1, hl24, hok⟩ := jobs_of hq
  obtain ⟨a, cap, rfl, hl, _, _, hc⟩ := h.at_
  have hSz := Lib.hid (fun k (hk : k ≤ xs.length) => jobsTo_size hok k hk)
  have hSt := Lib.hid (fun k x (h0 : 0 < k) (hk : xs[k]? = some x) => joinS_take semi (xs.map jobB) k (jobB x) h0 (by rw [List.getElem?_map, hk]; rfl))
  have h1 := Lib.hid (fun x (hk : xs[0]? = some x) => (show joinS semi ((xs.map jobB).take 1) = jobB x by
    match xs, hk with
    | y :: r, hk =>
      obtain rfl : y = x := by simpa using hk
      rfl))
  have hF : Hid (∀ k, k = xs.length → jobsB xs = joinS semi ((xs.map jobB).take k)) := Lib.hid fun k hk => by
    unfold jobsB
    rw [List.take_of_length_le (by rw [List.length_map]; omega)]
  have hOk := Lib.hid (fun k x (hk : xs[k]? = some x) => hok x (List.mem_of_getElem? hk))
  have hLT : Hid (∀ (x : JobD) (_ : okJob x = true) (w' : World) (_ : w.heap.size ≤ w'.heap.size) (w'' : World) (_ : Below (w'.alloc (.cells #[.int .i64 x.Time, .int .i64 x.Release, .int .i64 x.Due, .int .i64 x.Weight] 2)).heap.size (w'.alloc (.cells #[.int .i64 x.Time, .int .i64 x.Release, .int .i64 x.Due, .int .i64 x.Weight] 2)) w''), Calls Tryd.prog 65 #[.slice (some ⟨w'.heap.size, 0, none⟩) 4 4] w'' fun e w3 => e = .returned (.string (jobB x)) ∧ Below w''.heap.size w'' w3) := Lib.hid fun x hx w' _ w'' hb => by
    have hM := lstI_made w' (jobL x) (by unfold jobL; simp)
    exact l01Text_any (w'.heap.size + 1) _ (jobL x) w'' (hM.below hb (by rw [World.size_alloc]; exact Nat.le_refl _)) (job_wide hx) (by unfold jobL; simp) (by have := hb.size; rw [World.size_alloc] at this; exact this)
  generalize jobsB xs = s at *
  have hC := Lib.hid hc
  have hBl := Lib.hid (show ∀ (w' : World) (b o : Nat) (x : Int), Below w.heap.size w w' → b < B → w.cell? ⟨b, o, none⟩ = some (.int .i64 x) → w'.cell? ⟨b, o, none⟩ = some (.int .i64 x) from fun w' b o x hb hlt hx => by rw [hb.cell (p := ⟨b, o, none⟩) (Nat.lt_of_lt_of_le hlt hB)]; exact hx)
  generalize hlen : xs.length = n at *
  clear h hc hlen hok hq
  unfold maxLen at hl
  go_enter Tryd.func43, Tryd.ntmps43
  go_wp2_with fail
  go_loopw [3, 4] (fun sv iv wr => ∃ (k : Nat), k ≤ n ∧ iv = .int .i64 k ∧ sv = .string (joinS semi ((xs.map jobB).take k)) ∧ Hid (Below w.heap.size w wr)) (fun _ iv _ => n - (intOf iv).toNat)
  case atStart => exact ⟨0, Nat.zero_le _, rfl, rfl, Lib.hid (Below.refl _ _)⟩
  case round =>
    obtain ⟨k, hk, rfl, rfl, hBw⟩ := hrel
    by_cases hlt : k < n
    · obtain ⟨b, o, x, rfl, hbB, hx, f0, f1, f2, f3⟩ := hC.out k hlt
      have hxx := Lib.hid hx
      have hjx := Lib.hid (hOk.out k x hx)
      have hL := Lib.hid (hLT.out x hjx.out wr hBw.out.size)
      have hsz := job_size hjx.out
      have hsk := hSz.out k (by omega)
      have hS0 : Hid (∀ w' : World, Below wr.heap.size wr w' → (w'.cell? ⟨b, o + k * 4, none⟩ = some (.int .i64 x.Time) ∧ w'.cell? ⟨b, o + k * 4 + 1, none⟩ = some (.int .i64 x.Release) ∧ w'.cell? ⟨b, o + k * 4 + 2, none⟩ = some (.int .i64 x.Due) ∧ w'.cell? ⟨b, o + k * 4 + 3, none⟩ = some (.int .i64 x.Weight)) ∧ Below wr.heap.size wr w') := Lib.hid fun w' hb => ⟨⟨hBl.out w' b _ _ (below_on hBw.out (Nat.le_refl _) hb) hbB f0, hBl.out w' b _ _ (below_on hBw.out (Nat.le_refl _) hb) hbB f1, hBl.out w' b _ _ (below_on hBw.out (Nat.le_refl _) hb) hbB f2, hBl.out w' b _ _ (below_on hBw.out (Nat.le_refl _) hb) hbB f3⟩, hb⟩
      have hR0 := Below.refl wr.heap.size wr
      obtain ⟨⟨c0, c1, c2, c3⟩, -⟩ := hS0.out wr hR0
      have hk0 : (0 : Int) ≤ (k : Int) := by omega
      have hk1 : (k : Int) < (n : Int) := by omega
      clear hx f0 f1 f2 f3
      obtain ⟨acc, hacc⟩ : ∃ acc, acc = joinS semi ((xs.map jobB).take k) := ⟨_, rfl⟩
      obtain ⟨t, ht⟩ : ∃ t, t = jobB x := ⟨_, rfl⟩
      have hNx : Hid (joinS semi ((xs.map jobB).take (k + 1)) = if k = 0 then acc ++ t else (acc ++ ⟨#[59]⟩) ++ t) := Lib.hid (by
        by_cases h0 : k = 0
        · rw [if_pos h0, hacc, ht]
          subst h0
          rw [h1.out x hxx.out]
          apply ByteArray.ext
          show _ = ((⟨#[]⟩ : ByteArray) ++ jobB x).data
          rw [ByteArray.data_append]; simp
        · rw [if_neg h0, hSt.out k x (by omega) hxx.out, hacc, ht, ByteArray.append_assoc]; rfl)
      rw [← ht] at hL hsz
      rw [← hacc] at hsk ⊢
      clear hacc ht
      by_cases h0 : k = 0
      · have hN2 := Lib.hid (hNx.out.trans (if_pos h0))
        subst h0
        have hS1 : Hid (∀ w' : World, Below wr.heap.size wr w' → (w'.cell? ⟨b, o, none⟩ = some (.int .i64 x.Time) ∧ w'.cell? ⟨b, o + 1, none⟩ = some (.int .i64 x.Release) ∧ w'.cell? ⟨b, o + 2, none⟩ = some (.int .i64 x.Due) ∧ w'.cell? ⟨b, o + 3, none⟩ = some (.int .i64 x.Weight)) ∧ Below wr.heap.size wr w') := Lib.hid fun w' hb => by
          have := hS0.out w' hb
          simpa only [Nat.zero_mul, Nat.add_zero] using this
        clear hS0 c0 c1 c2 c3 hk0
        have hS0 := hS1
        clear hS1
        obtain ⟨⟨c0, c1, c2, c3⟩, -⟩ := hS0.out wr hR0
        have hAdd : ∀ W : World, (Op.stringOp .add acc t).run Tryd.prog W = .ok (.string (acc ++ t)) W := fun W => run_string_add_sum W acc t (by omega)
        go_wp2_with fail
        go_region_held3 (fun w' => (w'.cell? ⟨b, o, none⟩ = some (.int .i64 x.Time) ∧ w'.cell? ⟨b, o + 1, none⟩ = some (.int .i64 x.Release) ∧ w'.cell? ⟨b, o + 2, none⟩ = some (.int .i64 x.Due) ∧ w'.cell? ⟨b, o + 3, none⟩ = some (.int .i64 x.Weight)) ∧ Below wr.heap.size wr w') ((first | exact hS0.out _ hR0 | exact hS0.out _ hR0.drew | exact hS0.out _ (below_alloc hR0 _) | exact hS0.out _ (below_alloc hR0 _).drew | exact hS0.out _ (below_alloc hR0.drew _) | exact hS0.out _ hB8.out | exact hS0.out _ hB8.out.drew)) ((go_at_call 65; refine (hL.out _ (by first | exact Below.refl _ _ | exact (Below.refl _ _).drew | exact (Below.refl _ _).drew.drew)).mono ?_; rintro e w8 ⟨rfl, b8⟩; have hB8 : Hid (Below wr.heap.size wr w8) := Lib.hid (by first | exact below_on (below_alloc hR0 _) (Nat.le_refl _) b8 | exact below_on (below_alloc hR0.drew _) (Nat.le_refl _) b8 | exact below_on (below_alloc hR0 _).drew (Nat.le_refl _) b8); clear b8))
        all_goals
          have hB9 := Lib.hid (below_on hBw.out (Nat.le_refl _) hB8.out)
          clear hS0 hR0 c0 c1 c2 c3 hL hB8 hAdd
          go_wp2_with fail
          go_roundw
          case rel => exact ⟨_ + 1, by omega, by first | rfl | go_num, by first | (rw [hN2.out]; rfl) | rw [hN2.out], hB9⟩
          case measure => simp [intOf] <;> omega
      · have hN2 := Lib.hid (hNx.out.trans (if_neg h0))
        have hd : decide ((0 : Int) < (k : Int)) = true := decide_eq_true (by omega)
        have hdn : 0 < k := by omega
        have hs2 : (acc ++ ⟨#[59]⟩ : ByteArray).size ≤ 2041 := by rw [ByteArray.size_append]; show acc.size + 1 ≤ 2041; omega
        have hAdd : ∀ W : World, (Op.stringOp .add (acc ++ ⟨#[59]⟩) t).run Tryd.prog W = .ok (.string ((acc ++ ⟨#[59]⟩) ++ t)) W := fun W => run_string_add_sum W _ t (by omega)
        go_wp2_with fail
        go_region_held3 (fun w' => (w'.cell? ⟨b, o + k * 4, none⟩ = some (.int .i64 x.Time) ∧ w'.cell? ⟨b, o + k * 4 + 1, none⟩ = some (.int .i64 x.Release) ∧ w'.cell? ⟨b, o + k * 4 + 2, none⟩ = some (.int .i64 x.Due) ∧ w'.cell? ⟨b, o + k * 4 + 3, none⟩ = some (.int .i64 x.Weight)) ∧ Below wr.heap.size wr w') ((first | exact hS0.out _ hR0 | exact hS0.out _ hR0.drew | exact hS0.out _ (below_alloc hR0 _) | exact hS0.out _ (below_alloc hR0 _).drew | exact hS0.out _ (below_alloc hR0.drew _) | exact hS0.out _ hB8.out | exact hS0.out _ hB8.out.drew)) ((go_at_call 65; refine (hL.out _ (by first | exact Below.refl _ _ | exact (Below.refl _ _).drew | exact (Below.refl _ _).drew.drew)).mono ?_; rintro e w8 ⟨rfl, b8⟩; have hB8 : Hid (Below wr.heap.size wr w8) := Lib.hid (by first | exact below_on (below_alloc hR0 _) (Nat.le_refl _) b8 | exact below_on (below_alloc hR0.drew _) (Nat.le_refl _) b8 | exact below_on (below_alloc hR0 _).drew (Nat.le_refl _) b8); clear b8))
        all_goals
          have hB9 := Lib.hid (below_on hBw.out (Nat.le_refl _) hB8.out)
          clear hS0 hR0 c0 c1 c2 c3 hL hB8 hAdd
          go_wp2_with fail
          go_roundw
          case rel => exact ⟨k + 1, by omega, by first | rfl | go_num, by first | (rw [hN2.out]; rfl) | rw [hN2.out], hB9⟩
          case measure => simp [intOf] <;> omega
    · obtain rfl : k = n := by omega
      have hS := Lib.hid (hF.out k rfl)
      go_wp2_with fail
      go_ret
      exact ⟨by rw [hS.out]; rfl, hBw.out⟩
set_option maxHeartbeats 1000000 in
theorem specJobsText_any (B : Nat) (v : Value) (xs : List JobD) (w : World) (h : LstJob B w v xs) (hB : B ≤ w.heap.size) :
    Calls Tryd.prog 16 #[v] w fun e w' => e = .returned (.tuple #[.string (jobsR xs), .bool (areJobs xs)]) ∧ Below w.heap.size w w' := by
  have hA := Lib.hid (l02Jobs_any B v xs w h)
  cases hq : areJobs xs
  · rw [jobsR_no hq]
    rw [hq] at hA
    clear hq h
    go_enter Tryd.func16, Tryd.ntmps16
    go_wp2_with fail
    refine hA.out.mono ?_
    rintro e w2 ⟨m, rfl, rfl⟩
    go_wp2_with fail
    first | exact ⟨rfl, below_drawn _ _⟩ | (go_ret2; exact ⟨rfl, below_drawn _ _⟩)
  · rw [hq] at hA
    have hJ := Lib.hid (fun m => l08Jobs_any B v xs (w.drewN m) (h.below (below_drawn w m) hB) hB hq)
    rw [jobsR_yes hq]
    generalize jobsB xs = s at *
    clear hq h
    go_enter Tryd.func16, Tryd.ntmps16
    go_wp2_with fail
    refine hA.out.mono ?_
    rintro e w2 ⟨m, rfl, rfl⟩
    go_wp2_with fail
    refine (hJ.out m).mono ?_
    rintro e w3 ⟨rfl, hb⟩
    have B3 := Lib.hid (below_on (below_drawn w m) (Nat.le_refl _) hb)
    clear hb
    go_wp2_with fail
    first | exact ⟨rfl, B3.out⟩ | (go_ret2; exact ⟨rfl, B3.out⟩)
set_option maxHeartbeats 4000000 in
set_option maxRecDepth 100000 in
theorem jobsText_any (B : Nat) (v : Value) (xs : List JobD) (w : World) (h : LstJob B w v xs) (hB : B ≤ w.heap.size) (hT : Tab10 w) :
    Calls Tryd.prog 18 #[v] w fun e w' => e = .returned (.tuple #[.string (jobsR xs), .bool (areJobs xs)]) ∧ Below w.heap.size w w' := by
  have hA := Lib.hid (areJobs_any B v xs w h hB)
  cases hq : areJobs xs
  · rw [jobsR_no hq]
    rw [hq] at hA
    clear hq h
    go_enter Tryd.func18, Tryd.ntmps18
    go_wp2_with fail
    refine hA.out.mono ?_
    rintro e w2 ⟨rfl, hb⟩
    have B3 := Lib.hid hb
    clear hb
    go_wp2_with fail
    first | exact ⟨rfl, B3.out⟩ | (go_ret2; exact ⟨rfl, B3.out⟩)
  obtain ⟨hl1, hl24, hok⟩ := jobs_of hq
  obtain ⟨a, cap, rfl, hl, _, _, hc⟩ := h.at_
  obtain ⟨i0, hi, hz0, hz1, hz2⟩ := info_parts infoS8
  rw [hq] at hA
  rw [jobsR_yes hq]
  have hz : Hid ((joinS semi (xs.map jobB)).size ≤ 140737488355328) := Lib.hid (by
    have := jobsTo_size hok xs.length (Nat.le_refl _)
    rw [List.take_of_length_le (by rw [List.length_map]; omega)] at this
    omega)
  have hMp : Hid ((List.range xs.length).map (fun i => Value.string (jobB (xs.getD i default))) = (xs.map jobB).map Value.string) := Lib.hid (by
    apply List.ext_getElem?
    intro i
    by_cases hi : i < xs.length
    · simp [List.getElem?_eq_getElem hi, List.getElem?_range hi]
    · rw [List.getElem?_eq_none (by simp; omega), List.getElem?_eq_none (by simp; omega)])
  have hTx : Hid (∀ k x, xs[k]? = some x → jobB (xs.getD k default) = jobB x) := Lib.hid fun k x hk => by rw [List.getD_eq_getElem?_getD, hk]; rfl
  have hBl := Lib.hid (show ∀ (w' : World) (b o : Nat) (x : Int), Below w.heap.size w w' → b < B → w.cell? ⟨b, o, none⟩ = some (.int .i64 x) → w'.cell? ⟨b, o, none⟩ = some (.int .i64 x) from fun w' b o x hb hlt hx => by rw [hb.cell (p := ⟨b, o, none⟩) (Nat.lt_of_lt_of_le hlt hB)]; exact hx)
  have hLx : Hid (∀ (x : JobD) (_ : okJob x = true) (w' : World) (_ : Below w.heap.size w w'), Calls Tryd.prog 39 #[.slice (some ⟨w'.heap.size, 0, none⟩) 4 4] (w'.alloc (.cells #[.int .i64 x.Time, .int .i64 x.Release, .int .i64 x.Due, .int .i64 x.Weight] 2)) fun e w3 => e = .returned (.tuple #[.string (jobB x), .bool true]) ∧ Below (w'.alloc (.cells #[.int .i64 x.Time, .int .i64 x.Release, .int .i64 x.Due, .int .i64 x.Weight] 2)).heap.size (w'.alloc (.cells #[.int .i64 x.Time, .int .i64 x.Release, .int .i64 x.Due, .int .i64 x.Weight] 2)) w3) := Lib.hid fun x hx w' hb => by
    obtain ⟨e1, e2⟩ := job_ok hx
    have c := listText_any (w'.heap.size + 1) _ (jobL x) _ (lstI_made w' (jobL x) (by unfold jobL; simp)) (by rw [World.size_alloc]; exact Nat.le_refl _) (hT.kept (hb.alloc hb.size _))
    rw [e1, e2] at c
    exact c
  have hJl := Lib.hid (show (xs.map jobB).length = xs.length by rw [List.length_map])
  have hC := Lib.hid hc
  have hOk := Lib.hid (fun k x (hk : xs[k]? = some x) => hok x (List.mem_of_getElem? hk))
  have hSs : Hid (jobsB xs = joinS semi (xs.map jobB)) := Lib.hid rfl
  generalize jobsB xs = s at *
  generalize hts : xs.map jobB = ts at *
  generalize htx : (fun i => Value.string (jobB (xs.getD i default))) = F at *
  have hFk : Hid (∀ k x, xs[k]? = some x → F k = .string (jobB x)) := Lib.hid fun k x hk => by rw [← htx]; show Value.string _ = _; rw [hTx.out k x hk]
  generalize hlen : xs.length = n at *
  clear h hc hlen hts htx hT hTx hok hq
  unfold maxLen at hl
  go_enter Tryd.func18, Tryd.ntmps18
  go_wp2_with fail
  refine hA.out.mono ?_
  rintro e w1 ⟨rfl, hb1⟩
  have hB1 := Lib.hid hb1
  clear hb1 hA
  go_wp2_with (at_make; refine wpList_make_full _ rfl _ _ _ rfl w1.heap.size _ i0 (.string ⟨#[]⟩) 1 Tryd.underlying39 hi hz0 hz1 _ _ _ _ n rfl rfl rfl rfl ?c1 ?c2 ?c3 ?_)
  case c1 => rw [hz2]; omega
  case c2 => unfold maxLen; omega
  case c3 => exact Nat.le_refl _
  intro w2 hown2 hg2
  rw [toList_madeCells_one] at hown2
  have hO2 := Lib.hid (show w2.ownsRow w1.heap.size 9 1 (.slice (some ⟨w1.heap.size, 0, none⟩) n n) n (pz F (.string ⟨#[]⟩) 0 n) by rw [pz_zero]; exact hown2)
  have hB2 := Lib.hid (hB1.out.grown hg2 hB1.out.size (fun k hk => by cases hk))
  have hS1 := Lib.hid hB1.out.size
  have hSet : Hid (∀ i, i < n → (pz F (.string ⟨#[]⟩) i n).set i (F i) = pz F (.string ⟨#[]⟩) (i + 1) n) := Lib.hid fun i hi => pz_set F _ hi
  have hAt : Hid (∀ i, i < n → (pz F (.string ⟨#[]⟩) i n)[i]? = some (.string ⟨#[]⟩)) := Lib.hid fun i hi => pz_at _ _ hi
  have hFull : Hid (pz F (.string ⟨#[]⟩) n n = (List.range n).map F) := Lib.hid (pz_full _ _ _)
  generalize hFS : pz F (.string ⟨#[]⟩) = FS at *
  generalize w1.heap.size = g1 at *
  clear hown2 hg2 hFS
  go_wp2_with fail
  go_loopw [15] (fun iv wr => ∃ (k : Nat), k ≤ n ∧ iv = .int .i64 k ∧ Hid (wr.ownsRow g1 9 1 (.slice (some ⟨g1, 0, none⟩) n n) n (FS k n)) ∧ Hid (Below w.heap.size w wr)) (fun iv _ => n - (intOf iv).toNat)
  case atStart => exact ⟨0, Nat.zero_le _, rfl, hO2, hB2⟩
  case round =>
    clear hO2 hB2
    obtain ⟨k, hk, rfl, hO, hBw⟩ := hrel
    by_cases hlt : k < n
    · obtain ⟨b, o, x, rfl, hbB, hx, f0, f1, f2, f3⟩ := hC.out k hlt
      have c0 := hBl.out wr b _ _ hBw.out hbB f0
      have c1 := hBl.out wr b _ _ hBw.out hbB f1
      have c2 := hBl.out wr b _ _ hBw.out hbB f2
      have c3 := hBl.out wr b _ _ hBw.out hbB f3
      have hFx := Lib.hid (hFk.out k x hx)
      have hSk := Lib.hid (hSet.out k hlt)
      have hAk := Lib.hid (hAt.out k hlt)
      have hB5 := Lib.hid (hBw.out.alloc hBw.out.size (.cells #[.int .i64 x.Time, .int .i64 x.Release, .int .i64 x.Due, .int .i64 x.Weight] 66))
      have hO5 := Lib.hid (ownsRow_kept hO.out (below_alloc (Below.refl wr.heap.size wr) (.cells #[.int .i64 x.Time, .int .i64 x.Release, .int .i64 x.Due, .int .i64 x.Weight] 66)))
      have hL := Lib.hid (hLx.out x (hOk.out k x hx) (wr.alloc (.cells #[.int .i64 x.Time, .int .i64 x.Release, .int .i64 x.Due, .int .i64 x.Weight] 66)) hB5.out)
      clear hx f0 f1 f2 f3
      generalize jobB x = t at *
      have hB6 := Lib.hid (hB5.out.alloc hB5.out.size (.cells #[.int .i64 x.Time, .int .i64 x.Release, .int .i64 x.Due, .int .i64 x.Weight] 2))
      have hO6 := Lib.hid (ownsRow_kept hO5.out (below_alloc (Below.refl _ _) (.cells #[.int .i64 x.Time, .int .i64 x.Release, .int .i64 x.Due, .int .i64 x.Weight] 2)))
      rw [World.size_alloc] at hL
      go_wp2_with fail
      refine hL.out.mono ?_
      rintro e w3 ⟨rfl, hb⟩
      have hB7 := Lib.hid (below_on hB6.out (Nat.le_refl _) hb)
      have hO7 := Lib.hid (ownsRow_kept hO6.out hb)
      have q0 : w3.cell? ⟨g1, k, none⟩ = some (.string ⟨#[]⟩) := (hO7.out.cellAt k (by omega)).trans hAk.out
      have y0 := hO7.out.frozenAt k
      have hO8 := Lib.hid (show (w3.setCell ⟨g1, k, none⟩ (.string t)).ownsRow g1 9 1 (.slice (some ⟨g1, 0, none⟩) n n) n (FS (k + 1) n) by rw [← hSk.out, hFx.out]; exact (hO7.out.stored k (.string t)).1)
      have hB8 := Lib.hid (hB7.out.setCell (p := ⟨g1, k, none⟩) hS1.out (.string t))
      clear hb hO hO5 hO6 hO7 hB5 hB6 hB7 c0 c1 c2 c3 hL
      go_wp2_with fail
      go_roundw
      case rel => exact ⟨k + 1, by omega, by go_num, hO8, hB8⟩
      case measure => simp [intOf]; omega
    · obtain rfl : k = n := by omega
      have hO5 := Lib.hid (show wr.ownsRow g1 9 1 (.slice (some ⟨g1, 0, none⟩) k k) k (ts.map Value.string) by rw [← hMp.out, ← hFull.out]; exact hO.out)
      have hJn := Lib.hid (join_row semi ts g1 k g1 wr hJl.out hO5.out (by omega) hz.out)
      generalize joinS semi ts = r at *
      unfold semi at hJn
      go_wp2_with (go_at_call 46; (with_reducible refine hJn.out.mono ?_); rintro e w3 ⟨rfl, hb3⟩; have hB3 := Lib.hid (below_on hBw.out (Nat.le_refl _) hb3); clear hb3)
      first | exact ⟨by rw [hSs.out]; rfl, hB3.out⟩ | (go_ret2; exact ⟨by rw [hSs.out]; rfl, hB3.out⟩)
theorem jobsText_both (xs : List JobD) (_ : ∀ y ∈ xs, y.wf) : ∃ (r0 : ByteArray) (r1 : Bool),
    (∀ (B : Nat) (v : Value) (w : World), LstJob B w v xs → B ≤ w.heap.size → Calls Tryd.prog 16 #[v] w fun e w' => e = .returned (.tuple #[.string r0, .bool r1]) ∧ Below w.heap.size w w') ∧
    (∀ (B : Nat) (v : Value) (w : World), Tab10 w → LstJob B w v xs → B ≤ w.heap.size → Calls Tryd.prog 18 #[v] w fun e w' => e = .returned (.tuple #[.string r0, .bool r1]) ∧ Below w.heap.size w w') :=
  ⟨jobsR xs, areJobs xs, fun B v w h hB => specJobsText_any B v xs w h hB, fun B v w hT h hB => jobsText_any B v xs w h hB hT⟩
end Go.Proofs.YtpolhjkjgbfdhaaDoor
