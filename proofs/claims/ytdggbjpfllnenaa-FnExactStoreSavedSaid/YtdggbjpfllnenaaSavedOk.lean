/- Contracts: what is a valid one of those saved, in the model and in the program. -/
import Derived.Test.YtdggbjpfllnenaaSaved
import Derived.Test.YtdggbjpfllnenaaAreJobs
namespace Go.Proofs.Ytdggbjpfllnenaa
open Go.RowKit Go.Lst

def okSaved (d : SavedD) : Bool := isName d.name && areTasks d.tasks && decide (d.starts.length = d.tasks.length) && allIn d.starts 0 65535
set_option maxHeartbeats 4000000 in
set_option maxRecDepth 100000 in
theorem l07Saved_any (g B : Nat) (vt vs : Value) (d : SavedD) (w : World) (X0 : Whole w g 31 #[.string d.name, vt, vs]) (ht : LstTask B w vt d.tasks) (hs : LstI B w vs d.starts) (hp : d.name.size ≤ maxLen) :
    Calls Try.prog 11 #[.pointer (some ⟨g, 0, none⟩)] w (Ret (.bool (okSaved d)) w) := by
  have hN := Lib.hid (fun w' => l07Name_any d.name hp w')
  have hT := Lib.hid (fun n => l03Are_any B vt d.tasks (w.drewN n) (ht.below (Lst.Below.drewN (Below.refl B w) n) (Nat.le_refl _)))
  have hNo1 : Hid (isName d.name = false → okSaved d = false) := Lib.hid fun h => by unfold okSaved; rw [h]; rfl
  have hNo2 : Hid (areTasks d.tasks = false → okSaved d = false) := Lib.hid fun h => by unfold okSaved; rw [h]; simp
  have hNo3 : Hid (¬ d.starts.length = d.tasks.length → okSaved d = false) := Lib.hid fun h => by unfold okSaved; simp [h]
  have hNo4 : Hid (∀ (k : Nat) (x : Int), d.starts[k]? = some x → inB x 0 65535 = false → okSaved d = false) := Lib.hid fun k x hx hq => by unfold okSaved; rw [show allIn d.starts 0 65535 = false from all_not hx hq]; simp
  have hYes : Hid (isName d.name = true → areTasks d.tasks = true → d.starts.length = d.tasks.length → (∀ k, k = d.starts.length → (∀ i x, i < k → d.starts[i]? = some x → inB x 0 65535 = true) → okSaved d = true)) := Lib.hid fun h1 h2 h3 k hk hP => by
    unfold okSaved
    rw [h1, h2, show allIn d.starts 0 65535 = true from all_upto fun i x hi hx => hP i x (by omega) hx]
    simp [h3]
  obtain ⟨a1, c1, rfl, l1, -⟩ := ht
  obtain ⟨a2, c2, rfl, l2, _, _, hC⟩ := hs.at_
  have hC2 := Lib.hid hC
  have z0 := X0.at_ (i := 0) rfl
  have z1 := X0.at_ (i := 1) rfl
  have z2 := X0.at_ (i := 2) rfl
  clear X0 hs hC
  generalize okSaved d = q at *
  generalize d.starts = ss at *
  generalize d.tasks.length = n1 at *
  generalize hq1 : isName d.name = q1 at *
  generalize areTasks d.tasks = q2 at *
  generalize d.name = nm at *
  unfold maxLen at l1 l2 hp
  cases q1
  · have hF := Lib.hid (hNo1.out rfl)
    clear hq1
    go_enter Try.func11, Try.ntmps11
    go_wp2_with fail
    go_quiet ((first | (go_at_call 21; exact Ret.quiet (Ret.same (hN.out _))) | (go_at_call 22; exact Ret.quiet (hT.out _))))
    go_wp2_with fail
    go_ret
    exact ⟨_, ret_bool (by rw [hF.out]), rfl⟩
  cases q2
  · have hF := Lib.hid (hNo2.out rfl)
    clear hq1
    go_enter Try.func11, Try.ntmps11
    go_wp2_with fail
    go_quiet ((first | (go_at_call 21; exact Ret.quiet (Ret.same (hN.out _))) | (go_at_call 22; exact Ret.quiet (hT.out _))))
    go_wp2_with fail
    go_ret
    exact ⟨_, ret_bool (by rw [hF.out]), rfl⟩
  by_cases hlen : ss.length = n1
  case neg =>
    have hF := Lib.hid (hNo3.out hlen)
    clear hq1
    go_enter Try.func11, Try.ntmps11
    go_wp2_with fail
    go_quiet ((first | (go_at_call 21; exact Ret.quiet (Ret.same (hN.out _))) | (go_at_call 22; exact Ret.quiet (hT.out _))))
    go_wp2_with fail
    go_ret
    exact ⟨_, ret_bool (by rw [hF.out]), rfl⟩
  have hY := Lib.hid (hYes.out rfl rfl hlen)
  subst hlen
  clear hNo1 hNo2 hNo3 hYes hq1
  generalize ss.length = n at *
  go_enter Try.func11, Try.ntmps11
  go_wp2_with fail
  go_quiet ((first | (go_at_call 21; exact Ret.quiet (Ret.same (hN.out _))) | (go_at_call 22; exact Ret.quiet (hT.out _))))
  go_wp2_with fail
  clear hN hT
  go_loopw [36] (fun i wr => ∃ k m : Nat, k ≤ n ∧ i = .int .i64 k ∧ Hid (∀ i x, i < k → ss[i]? = some x → inB x 0 65535 = true) ∧ wr = w.drewN m) (fun i _ => n - (intOf i).toNat)
  case atStart => exact ⟨0, _, Nat.zero_le _, rfl, Lib.hid (fun i x hi _ => by omega), rfl⟩
  case round =>
    obtain ⟨k, m, hk, rfl, hP, rfl⟩ := hrel
    by_cases hlt : k < n
    · obtain ⟨b, o, x, rfl, _, hx, hcell⟩ := hC2.out k hlt
      have hXx := Lib.hid hx
      clear hx
      rw [← World.cell?_drewN (n := m)] at z0 z1 z2 hcell
      cases hq : inB x 0 65535
      · have hF := Lib.hid (hNo4.out k x hXx.out hq)
        go_wp2_with (go_at_call 23; (with_reducible refine (l00In_is _ _ _ hq _).mono ?_); rintro e w' ⟨rfl, rfl⟩)
        go_ret
        exact ⟨_, ret_bool (by rw [hF.out]), rfl⟩
      · have hP2 : Hid (∀ i y, i < k + 1 → ss[i]? = some y → inB y 0 65535 = true) := Lib.hid fun i y hi hy => by
          by_cases h1 : i < k
          · exact hP.out i y h1 hy
          · have : i = k := by omega
            subst this
            rw [hXx.out] at hy
            cases hy
            exact hq
        go_wp2_with (go_at_call 23; (with_reducible refine (l00In_is _ _ _ hq _).mono ?_); rintro e w' ⟨rfl, rfl⟩)
        go_roundw
        case rel => exact ⟨k + 1, _, by omega, by go_num, hP2, rfl⟩
        case measure => simp [intOf]; omega
    · have hF := Lib.hid (hY.out k (by omega) hP.out)
      go_wp2_with fail
      go_ret
      exact ⟨_, ret_bool (by rw [hF.out]), rfl⟩
set_option maxHeartbeats 4000000 in
set_option maxRecDepth 100000 in
theorem validSaved_any (B : Nat) (V : Value) (d : SavedD) (w : World) (h1 : LstSaved B w V d) (hp : d.name.size ≤ maxLen) (hB : B ≤ w.heap.size) :
    Calls Try.prog 15 #[V] w fun e w' => e = .returned (.bool (okSaved d)) ∧ Below w.heap.size w w' := by
  obtain ⟨vt, vs, rfl, ht, hs⟩ := h1
  have hN := Lib.hid (fun w' => isNameB_any d.name hp w')
  have hT := Lib.hid (fun w' (hb : Below w.heap.size w w') => areTasks_any w.heap.size vt d.tasks w' ((ht.mono hB).below hb (Nat.le_refl _)) hb.size)
  have hW := Lib.hid (fun w' (hb : Below w.heap.size w w') => areWithin_any w.heap.size vs d.starts 0 65535 w' ((hs.mono hB).below hb (Nat.le_refl _)).lst)
  obtain ⟨a1, k1, rfl, l1, -⟩ := ht
  obtain ⟨b1, k2, rfl, l2, -⟩ := hs
  unfold okSaved
  generalize isName d.name = q1 at *
  generalize areTasks d.tasks = q2 at *
  generalize allIn d.starts 0 65535 = q4 at *
  generalize d.tasks.length = n1 at *
  generalize d.starts.length = m1 at *
  generalize d.name = p at *
  unfold maxLen at l1 l2
  clear hB hp
  have X0 := Lib.hid (Whole.made w 31 #[Value.string p, Value.slice a1 n1 k1, Value.slice b1 m1 k2] rfl)
  have B2 := Lib.hid (below_alloc (Below.refl w.heap.size w) (.cells #[Value.string p, Value.slice a1 n1 k1, Value.slice b1 m1 k2] 31))
  go_enter Try.func15, Try.ntmps15
  go_wp2_with fail
  generalize (w.alloc (.cells #[Value.string p, Value.slice a1 n1 k1, Value.slice b1 m1 k2] 31)) = w2 at *
  refine (hN.out w2).mono ?_
  rintro e w3 ⟨rfl, b3⟩
  replace X0 := Lib.hid (X0.out.kept b3); replace B2 := Lib.hid (below_on B2.out (Nat.le_refl _) b3)
  clear b3
  cases q1
  · go_wp2_with fail
    go_ret
    exact ⟨rfl, B2.out⟩
  have c1 : w3.cell? ⟨w.heap.size, 1, none⟩ = some (Value.slice a1 n1 k1) := X0.out.at_ (i := 1) rfl
  go_wp2_with fail
  refine (hT.out w3 B2.out).mono ?_
  rintro e w4 ⟨rfl, b4⟩
  replace X0 := Lib.hid (X0.out.kept b4); replace B2 := Lib.hid (below_on B2.out (Nat.le_refl _) b4)
  clear b4 c1
  cases q2
  · go_wp2_with fail
    go_ret
    exact ⟨rfl, B2.out⟩
  have c1 : w4.cell? ⟨w.heap.size, 1, none⟩ = some (Value.slice a1 n1 k1) := X0.out.at_ (i := 1) rfl
  have c2 : w4.cell? ⟨w.heap.size, 2, none⟩ = some (Value.slice b1 m1 k2) := X0.out.at_ (i := 2) rfl
  by_cases hlen : m1 = n1
  case neg =>
    have hF := Lib.hid (decide_eq_false hlen)
    go_wp2_with fail
    go_ret
    exact ⟨ret_bool (by rw [hF.out]; rfl), B2.out⟩
  subst hlen
  go_wp2_with fail
  refine (hW.out w4 B2.out).mono ?_
  rintro e w5 ⟨rfl, rfl⟩
  go_wp2_with fail
  go_ret
  exact ⟨ret_bool (by simp), B2.out⟩
end Go.Proofs.Ytdggbjpfllnenaa
