/- Contracts: two lists of what is saved compared in the model; both sides. -/
import Derived.Test.YtnffkfknnnknoaaSameSaved
namespace Go.Proofs.Ytnffkfknnnknoaa
open Go.RowKit Go.Lst

set_option maxHeartbeats 8000000 in
theorem specSameSaved_any (B : Nat) (v1 v2 : Value) (xs ys : List SavedD) (w : World) (h1 : LstSavedS B w v1 xs) (h2 : LstSavedS B w v2 ys) :
    Calls Try.prog 11 #[v1, v2] w (Ret (.bool (sameSaved xs ys)) w) := by
  obtain ⟨a1, cap1, rfl, hl1, _, _, _⟩ := h1.at_
  obtain ⟨a2, cap2, rfl, hl2, _, _, _⟩ := h2.at_
  by_cases hl : xs.length = ys.length
  · have hX := Lib.hid (pairsS h1 h2 hl)
    have hAll : Hid (∀ k, k = xs.length → (∀ i x y, i < k → xs[i]? = some x → ys[i]? = some y → x = y) → sameSaved xs ys = true) := Lib.hid fun k hk hp => sameS_all hl fun i x y hi => hp i x y (by omega)
    have hNe : Hid (∀ (k : Nat) (x y : SavedD), xs[k]? = some x → ys[k]? = some y → decide (x = y) = false → sameSaved xs ys = false) := Lib.hid fun k x y hx hy h => sameS_at hx hy h
    rw [← hl]
    clear h1 h2 hl hl2
    generalize xs.length = n at *
    generalize sameSaved xs ys = res at *
    unfold maxLen at hl1
    go_enter Try.func11, Try.ntmps11
    go_wp2_with fail
    go_loopw [13] (fun i wr => ∃ k m : Nat, k ≤ n ∧ i = .int .i64 k ∧ Hid (∀ i x y, i < k → xs[i]? = some x → ys[i]? = some y → x = y) ∧ wr = w.drewN m) (fun i _ => n - (intOf i).toNat)
    case atStart => exact ⟨0, 0, Nat.zero_le _, rfl, Lib.hid (fun i x y hi _ _ => by omega), rfl⟩
    case round =>
      obtain ⟨k, m, hk, rfl, hP, rfl⟩ := hrel
      by_cases hlt : k < n
      · obtain ⟨b1, o1, b2, o2, x, y, ub1, ul1, ub2, ul2, cb1, cl1, cb2, cl2, rfl, rfl, hb1, hb2, hx, hy, ⟨p0, p1, p2⟩, ⟨q0, q1, q2⟩, l1, l2, l3, l4⟩ := hX.out k hlt
        have hXx := Lib.hid hx
        have hYy := Lib.hid hy
        rw [← World.cell?_drewN (n := m)] at p0 p1 p2 q0 q1 q2
        have hS1 := Lib.hid (fun nd => specSameTasks_any B _ _ x.tasks y.tasks ((w.drewN m).drewN nd) (l1.below (Lst.Below.drewN (Lst.Below.drewN (Below.refl B w) m) nd) (Nat.le_refl _)) (l3.below (Lst.Below.drewN (Lst.Below.drewN (Below.refl B w) m) nd) (Nat.le_refl _)))
        have hS2 := Lib.hid (fun nd => l00Same_any B _ _ x.starts y.starts ((w.drewN m).drewN nd) ((l2.drewN m).drewN nd) ((l4.drewN m).drewN nd))
        have hT := Lib.hid (savedEq x y)
        have hF0 := Lib.hid (hNe.out k x y hXx.out hYy.out)
        have hP0 : Hid (x = y → ∀ i x y, i < k + 1 → xs[i]? = some x → ys[i]? = some y → x = y) := Lib.hid fun hE i x' y' hi hx hy => by
          by_cases h1 : i < k
          · exact hP.out i x' y' h1 hx hy
          · have e0 : i = k := by omega
            rw [e0] at hx hy
            exact (Option.some.inj (hXx.out.symm.trans hx)).symm.trans (hE.trans (Option.some.inj (hYy.out.symm.trans hy)))
        clear hx hy l1 l2 l3 l4
        unfold sameTasks at hS1
        generalize hd : decide (x = y) = dd at *
        have hD := Lib.hid hd
        clear hd
        generalize decide (x.tasks = y.tasks) = p at *
        generalize decide (x.starts = y.starts) = q at *
        generalize x.name = ta at *
        generalize y.name = tb at *
        generalize x.tasks.length = n1 at *
        generalize x.starts.length = n2 at *
        generalize y.tasks.length = n3 at *
        generalize y.starts.length = n4 at *
        generalize hwo : w.drewN m = wo at *
        have hWo := Lib.hid hwo
        clear hwo
        by_cases c0 : ta = tb
        · have e0 : (ta.toList != tb.toList) = false := by rw [bne_eq_false_iff_eq, c0]
          have e1 : (ta.toList == tb.toList) = true := by rw [beq_iff_eq, c0]
          have hT2 := Lib.hid (show dd = (p && q) by rw [hT.out, decide_eq_true c0]; simp)
          clear hT c0
          cases p
          · have hF := Lib.hid (hF0.out (by rw [hT2.out]; rfl))
            go_wp2_with fail
            go_quiet (first | (go_at_call 25; with_reducible exact Ret.quiet (hS1.out _)) | (go_at_call 26; with_reducible exact Ret.quiet (hS2.out _)))
            go_wp2_with fail
            go_ret
            exact ⟨_, ret_bool hF.out.symm, by rw [← hWo.out, World.drewN_drewN]⟩
          · cases q
            · have hF := Lib.hid (hF0.out (by rw [hT2.out]; rfl))
              go_wp2_with fail
              go_quiet (first | (go_at_call 25; with_reducible exact Ret.quiet (hS1.out _)) | (go_at_call 26; with_reducible exact Ret.quiet (hS2.out _)))
              go_wp2_with fail
              go_ret
              exact ⟨_, ret_bool hF.out.symm, by rw [← hWo.out, World.drewN_drewN]⟩
            · have hP2 := Lib.hid (hP0.out (of_decide_eq_true (by rw [hD.out, hT2.out]; rfl)))
              go_wp2_with fail
              go_quiet (first | (go_at_call 25; with_reducible exact Ret.quiet (hS1.out _)) | (go_at_call 26; with_reducible exact Ret.quiet (hS2.out _)))
              go_wp2_with fail
              go_roundw
              case rel => exact ⟨k + 1, _, by omega, by go_num, hP2, by rw [← hWo.out, World.drewN_drewN]⟩
              case measure => simp [intOf]; omega
        · have e0 : (ta.toList != tb.toList) = true := bne_iff_ne.2 fun h => c0 (text_eq_of h)
          have e1 : (ta.toList == tb.toList) = false := by rw [beq_eq_false_iff_ne]; exact fun h => c0 (text_eq_of h)
          have hF := Lib.hid (hF0.out (by rw [hT.out, decide_eq_false c0]; simp))
          go_wp2_with fail
          go_quiet (first | (go_at_call 25; with_reducible exact Ret.quiet (hS1.out _)) | (go_at_call 26; with_reducible exact Ret.quiet (hS2.out _)))
          go_wp2_with fail
          go_ret
          exact ⟨_, ret_bool hF.out.symm, by rw [← hWo.out, World.drewN_drewN]⟩
      · have hF := Lib.hid (hAll.out k (by omega) hP.out)
        go_wp2_with fail
        go_ret
        exact ⟨_, ret_bool hF.out.symm, rfl⟩
  · have hV := Lib.hid (sameS_len hl)
    have hne : ((xs.length : Int) != (ys.length : Int)) = true := by rw [bne_iff_ne]; omega
    have hne2 : (xs.length != ys.length) = true := by rw [bne_iff_ne]; omega
    generalize xs.length = n1 at *
    generalize ys.length = n2 at *
    unfold maxLen at hl1 hl2
    clear hl h1 h2
    go_enter Try.func11, Try.ntmps11
    go_wp2_with fail
    go_ret
    exact ⟨0, ret_bool (by rw [hV.out]), rfl⟩
theorem sameSaved_both (xs ys : List SavedD) (_ : ∀ y ∈ xs, y.wf) (_ : ∀ y ∈ ys, y.wf) : ∃ r0 : Bool,
    (∀ (B : Nat) (v1 v2 : Value) (w : World), LstSavedS B w v1 xs → LstSavedS B w v2 ys → B ≤ w.heap.size → Calls Try.prog 11 #[v1, v2] w fun e w' => e = .returned (.bool r0) ∧ Below w.heap.size w w') ∧
    (∀ (B : Nat) (v1 v2 : Value) (w : World), LstSavedS B w v1 xs → LstSavedS B w v2 ys → B ≤ w.heap.size → Calls Try.prog 13 #[v1, v2] w fun e w' => e = .returned (.bool r0) ∧ Below w.heap.size w w') :=
  ⟨sameSaved xs ys, fun B v1 v2 w h1 h2 _ => (specSameSaved_any B v1 v2 xs ys w h1 h2).mono fun _ _ hr => hr.below, fun B v1 v2 w h1 h2 hB => implSameSaved_any B v1 v2 xs ys w h1 h2 hB⟩
end Go.Proofs.Ytnffkfknnnknoaa
