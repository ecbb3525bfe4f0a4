/- A row of one number, repeated (slices.Repeat): walked in the library's code. -/
import Derived.Test.YtfidppepchobeaaPost
import Derived.Test.YtfidppepchobeaaLayMul
import Derived.Shelf.Bits.Mul64
import Derived.Laws.CopyOwn
import Derived.Deep.RegionLaw
namespace Go.Proofs.Ytfidppepchobeaa
open Go.RowKit Go.Lst Go

theorem row_heap {w : World} {A g n : Nat} {e : TypeId} {xs : List Value} (h : w.ownsRow A e 1 (.slice (some ⟨g, 0, none⟩) n n) n xs) : w.heap[g]? = some (.cells xs.toArray e (0, 0)) ∧ A ≤ g := by
  obtain ⟨h1, h2⟩ := h
  rcases h2 with ⟨hv, _⟩ | ⟨g', cap, cur, hv, hb, hg, h3, h4, h5, h6⟩
  · cases hv
  · injection hv with e1 e2 e3
    injection e1 with e1
    injection e1 with e1
    subst e1 e3
    refine ⟨?_, hb⟩
    rw [hg]
    congr 2
    rw [← h6, List.take_of_length_le (by rw [Array.length_toList]; omega)]
theorem row_of_heap {w : World} {A g n : Nat} {e : TypeId} {xs : List Value} (h : w.heap[g]? = some (.cells xs.toArray e (0, 0))) (hA : A ≤ g) (hn : xs.length = n) (hm : n ≤ maxLen) : w.ownsRow A e 1 (.slice (some ⟨g, 0, none⟩) n n) n xs :=
  ⟨by omega, .inr ⟨g, n, xs.toArray, rfl, hA, h, Nat.le_refl _, hm, by rw [List.size_toArray]; omega, by
    show List.take (n * 1) xs = xs
    rw [List.take_of_length_le (by omega)]⟩⟩
/-- k copies of x, and zeros behind them. -/
def repTo (x : Int) (e k : Nat) : List Value := List.replicate k (.int .i64 x) ++ List.replicate (e - k) (.int .i64 0)
theorem repTo_length (x : Int) {e k : Nat} (h : k ≤ e) : (repTo x e k).length = e := by
  unfold repTo; rw [List.length_append, List.length_replicate, List.length_replicate]; omega
theorem repTo_full (x : Int) (e : Nat) : repTo x e e = (List.replicate e x).map (Value.int .i64) := by
  unfold repTo; rw [Nat.sub_self, List.map_replicate]; simp
theorem repTo_splice (x : Int) {e k c : Nat} (h : k + c ≤ e) : splice (repTo x e k) k (List.replicate c (Value.int .i64 x)) = repTo x e (k + c) := by
  unfold splice repTo
  rw [List.length_replicate, List.take_append_of_le_length (by rw [List.length_replicate]; omega), List.take_of_length_le (by rw [List.length_replicate]; omega),
    List.drop_append, List.length_replicate, List.drop_of_length_le (by rw [List.length_replicate]; omega), List.nil_append, List.drop_replicate, ← List.append_assoc, List.replicate_append_replicate,
    show e - k - (k + c - k) = e - (k + c) by omega]
theorem repTo_at (x : Int) {e k j : Nat} (h : j < k) : (repTo x e k)[j]? = some (.int .i64 x) := by
  unfold repTo
  rw [List.getElem?_append_left (by rw [List.length_replicate]; exact h), List.getElem?_replicate, if_pos h]
theorem heap_cell {w : World} {g j : Nat} {xs : List Value} {t : TypeId} {v : Value} (h : w.heap[g]? = some (.cells xs.toArray t (0, 0))) (hx : xs[j]? = some v) : w.cell? ⟨g, j, none⟩ = some v := by
  simp only [World.cell?, h]
  simpa using hx

theorem news_at {w : World} {b : Nat} {u : Value} (h : w.cell? ⟨b, 0, none⟩ = some u) : ∀ (j : Nat) (v : Value), [u][j]? = some v → w.cell? ⟨b, j, none⟩ = some v := fun j v hv => by
  match j, hv with
  | 0, hv => rw [← Option.some.inj hv]; exact h
theorem slice_from (b o n cap m : Nat) (W : World) (h1 : m < n) (h2 : n ≤ cap) :
    (Instr.slice 22 (.slice (some ⟨b, o, none⟩) n cap) (some (.int .i64 (m : Int))) none none).run Try.prog W = .ok (.slice (some ⟨b, o + m, none⟩) (n - m) (cap - m)) W := by
  have e1 : m ≤ n := by omega
  have e2 : ¬ cap = m := by omega
  simp [Instr.slice, run_underlying Try.underlying22, Instr.sliceBounds, Instr.sliceBound, asIntOf, go_sem, e1, e2]
theorem slice_to (b o n cap m : Nat) (W : World) (h1 : m < n) (h2 : n ≤ cap) :
    (Instr.slice 22 (.slice (some ⟨b, o, none⟩) n cap) none (some (.int .i64 (m : Int))) none).run Try.prog W = .ok (.slice (some ⟨b, o, none⟩) m cap) W := by
  have e1 : m ≤ cap := by omega
  have e2 : ¬ cap < m := by omega
  simp [Instr.slice, run_underlying Try.underlying22, Instr.sliceBounds, Instr.sliceBound, asIntOf, go_sem, e1, e2]
theorem mul_one_small (e : Nat) (he : e ≤ 12) (w : World) : Calls Try.prog 102 #[.int .u64 1, .int .u64 (e : Int)] w fun x w' => x = .returned (.tuple #[.int .u64 0, .int .u64 (e : Int)]) ∧ w = w' := by
  have c := Any.bits_Mul Try.lays212 1 e (by omega) (by omega) w
  rw [show 1 * e / 18446744073709551616 = 0 by omega, show 1 * e % 18446744073709551616 = e by omega] at c
  exact c.mono fun _ _ h => ⟨h.1, h.2.symm⟩
set_option maxHeartbeats 400000 in
set_option maxRecDepth 100000 in
theorem repeat_any (b : Nat) (x : Int) (e : Nat) (w : World) (h1 : 1 ≤ e) (he : e ≤ 12) (hc : w.cell? ⟨b, 0, none⟩ = some (.int .i64 x)) (hb : b < w.heap.size) :
    Calls Try.prog 53 #[.slice (some ⟨b, 0, none⟩) 1 1, .int .i64 (e : Int)] w fun y w' => y = .returned (.slice (some ⟨w.heap.size, 0, none⟩) e e) ∧ w'.ownsRow w.heap.size 2 1 (.slice (some ⟨w.heap.size, 0, none⟩) e e) e ((List.replicate e x).map (Value.int .i64)) ∧ Below w.heap.size w w' := by
  have hM := Lib.hid (fun w' => mul_one_small e he w')
  obtain ⟨i0, hi, hz0, hz1, hz2⟩ := info_parts infoI
  have hu : IntKind.u64.wrap (e : Int) = e := by rw [IntKind.wrap_u64]; omega
  have hi2 : IntKind.i64.wrap (e : Int) = e := IntWalk.i64_in _ (by omega)
  have hsz : (Try.prog.info? 2).map (·.size) = some 1 := by rw [hi]; show some i0.size = _; rw [hz1]
  go_enter Try.func53, Try.ntmps53
  go_wp2_with (first | (go_at_call 102; (with_reducible refine (hM.out _).mono ?_); rintro e' w' ⟨rfl, rfl⟩) | (at_make; refine wpList_make_full _ rfl _ _ _ rfl w.heap.size _ i0 (.int .i64 0) 1 Try.underlying22 hi hz0 hz1 _ _ _ _ e rfl rfl rfl rfl ?c1 ?c2 ?c3 ?_))
  case c1 => rw [hz2]; omega
  case c2 => unfold maxLen; omega
  case c3 => exact Nat.le_refl _
  intro w2 hown2 hg2
  have hB2 := Lib.hid ((Below.refl w.heap.size w).grown hg2 (Nat.le_refl _) (fun k hk => by cases hk))
  have hO2 := zeros_row hown2
  have hG2 := Lib.hid (show w2.heap[w.heap.size]? = some (.cells (repTo x e 0).toArray 2 (0, 0)) by
    rw [(row_heap hO2).1, List.map_replicate]; rfl)
  have hc2 := Lib.hid (show w2.cell? ⟨b, 0, none⟩ = some (.int .i64 x) by rw [hB2.out.cell (p := ⟨b, 0, none⟩) hb]; exact hc)
  have hSp : Hid (∀ k c, k + c ≤ e → splice (repTo x e k) k (List.replicate c (Value.int .i64 x)) = repTo x e (k + c)) := Lib.hid fun k c h => repTo_splice x h
  have hLe : Hid (∀ k, k ≤ e → (repTo x e k).length = e) := Lib.hid fun k h => repTo_length x h
  have hAt : Hid (∀ k j, j < k → (repTo x e k)[j]? = some (.int .i64 x)) := Lib.hid fun k j h => repTo_at x h
  have hFu := Lib.hid (repTo_full x e)
  have hOne : Hid (∀ c, ∀ v ∈ List.replicate c (Value.int .i64 x), v.oneCell' = true) := Lib.hid fun c v hv => by rw [List.eq_of_mem_replicate hv]; rfl
  have hEnd : Hid (∀ w', w'.heap[w.heap.size]? = some (.cells (repTo x e e).toArray 2 (0, 0)) → Below w.heap.size w w' → w'.ownsRow w.heap.size 2 1 (.slice (some ⟨w.heap.size, 0, none⟩) e e) e ((List.replicate e x).map (Value.int .i64)) ∧ Below w.heap.size w w') := Lib.hid fun w' h hb => by
    rw [hFu.out] at h
    exact ⟨row_of_heap h (Nat.le_refl _) (by simp) (by unfold maxLen; omega), hb⟩
  generalize repTo x e = R at *
  generalize hgg : w.heap.size = g at *
  have hGG := Lib.hid hgg
  clear hown2 hg2 hO2 hz0 hz1 hz2 hi hgg
  go_wp2_with (refine wpList_copy_splice rfl _ _ _ _ rfl 2 Try.underlying22 hsz _ _ _ _ _ _ rfl rfl g 0 (R 0) 2 hG2.out [.int .i64 x] ?d1 ?d2 ?d3 ?d4 g w hB2.out (Nat.le_refl _) ?_)
  case d1 => exact (Nat.min_eq_left h1).symm
  case d2 => exact fun j v hv => news_at hc2.out j v hv
  case d3 => rw [hLe.out 0 (Nat.zero_le _)]; simp; omega
  case d4 => exact hOne.out 1
  intro w3 HG3 hB3
  rw [show splice (R 0) 0 [Value.int .i64 x] = R 1 from hSp.out 0 1 (by omega)] at HG3
  have hB3 := Lib.hid hB3
  clear hB2 hG2 hc2
  go_wp2_with fail
  go_loopw [8] (fun nv wr => ∃ k : Nat, 1 ≤ k ∧ k ≤ e ∧ nv = .int .i64 k ∧ Hid (wr.heap[g]? = some (.cells (R k).toArray 2 (0, 0))) ∧ Hid (Below g w wr)) (fun nv _ => e - (intOf nv).toNat)
  case atStart => exact ⟨1, Nat.le_refl _, h1, rfl, HG3, hB3⟩
  case round =>
    clear HG3 hB3
    obtain ⟨k, hk1, hk, rfl, hG, hBw⟩ := hrel
    by_cases hlt : k < e
    · have hs1 := fun W => slice_from g 0 e e k W hlt (Nat.le_refl _)
      have hs2 := fun W => slice_to g 0 e e k W hlt (Nat.le_refl _)
      obtain ⟨c, hcm⟩ : ∃ c, c = Nat.min k (e - k) := ⟨_, rfl⟩
      have hc0 : 1 ≤ c ∧ k + c ≤ e ∧ c ≤ k := by
        have h9 : Nat.min k (e - k) = if k ≤ e - k then k else e - k := Nat.min_def ..
        rw [hcm, h9]
        split <;> omega
      have hcm2 := Lib.hid hcm
      have hck : Hid (c ≤ k) := Lib.hid hc0.2.2
      clear hcm
      have hSrc : Hid (∀ w' : World, w'.heap[g]? = some (.cells (R k).toArray 2 (0, 0)) → ∀ (j : Nat) (v : Value), (List.replicate c (Value.int .i64 x))[j]? = some v → w'.cell? ((⟨g, 0, none⟩ : Addr).add j) = some v) := Lib.hid fun w' h j v hv => by
        rw [List.getElem?_replicate] at hv
        split at hv
        · rename_i hjc
          have h8 := heap_cell h (hAt.out k j (by have := hck.out; omega))
          rw [← Option.some.inj hv]
          unfold Addr.add
          split
          · rename_i h0; rw [h0] at h8; exact h8
          · rw [Nat.zero_add]; exact h8
        · cases hv
      have hFit : Hid (k + (List.replicate c (Value.int .i64 x)).length ≤ (R k).length) := Lib.hid (by rw [hLe.out k hk, List.length_replicate]; exact hc0.2.1)
      go_wp2_with fail
      obtain ⟨W9, hcp, hG9, hB9⟩ : ∃ W9, (Builtin.copy_ #[22, 22] 3 #[.slice (some ⟨g, k, none⟩) (e - k) (e - k), .slice (some ⟨g, 0, none⟩) k e]).run Try.prog wr.drew = .ok (.int .i64 (c : Int)) W9 ∧ Hid (W9.heap[g]? = some (.cells (R (k + c)).toArray 2 (0, 0))) ∧ Hid (Below g w W9) := by
        have hdr : wr.drew.heap[g]? = some (.cells (R k).toArray 2 (0, 0)) := hG.out
        have hrun := run_copy_row (P := Try.prog) wr.drew 22 22 3 2 g k (e - k) (e - k) ⟨g, 0, none⟩ k e (R k).toArray 2 (List.replicate c (.int .i64 x)) Try.underlying22 hsz hdr (by rw [List.length_replicate]; exact hcm2.out) (hSrc.out _ hdr) (by rw [List.size_toArray]; exact hFit.out) (hOne.out c)
        rw [List.length_replicate] at hrun
        refine ⟨_, hrun, Lib.hid ?_, Lib.hid (below_setRow (by exact hBw.out.drew) (Nat.le_refl _) _)⟩
        rw [← hSp.out k c hc0.2.1]
        have := setRow_heap wr.drew g (R k).toArray (splice (R k) k (List.replicate c (Value.int .i64 x))).toArray 2 _ hdr
        unfold splice at this ⊢
        rw [List.length_replicate] at this
        rw [List.length_replicate, List.append_assoc]
        exact this
      have hwk : IntKind.i64.wrap ((k : Int) + (c : Int)) = ((k + c : Nat) : Int) := by rw [IntWalk.i64_in _ (by omega)]; omega
      go_region
      go_roundw
      case rel =>
        iterate 14 (apply Exists.intro)
        refine ⟨⟨k + c, by omega, by omega, by rw [show ((k + c : Nat) : Int) = (k : Int) + c by omega], hG9, hB9⟩, ?_⟩
        rfl
      case measure => simp [intOf]; omega
    · obtain rfl : k = e := by omega
      have hR := Lib.hid (hEnd.out wr hG.out hBw.out)
      clear hG hBw
      go_wp2_with fail
      go_ret
      rw [hGG.out]
      exact ⟨rfl, hR.out⟩
end Go.Proofs.Ytfidppepchobeaa
