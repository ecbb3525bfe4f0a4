/- Contracts: a list in rows (as ShopRows, with wider bounds and fewer imports). -/
import Derived.Test.YtnkbnkiaokkjhaaInts
import Derived.Test.YtnkbnkiaokkjhaaBlk
import Derived.Laws.AppendOwn
namespace Go.Proofs.Ytnkbnkiaokkjhaa
open Go.RowKit Go.Lst

theorem rows_fit {k n m : Nat} (h : k < n) : k * m + m ≤ n * m := by
  have := Nat.mul_le_mul_right m (show k + 1 ≤ n from h)
  rw [Nat.add_mul, Nat.one_mul] at this
  exact this
/-- A slice of a list, cut out of it. -/
theorem lstI_part {B b o n cap : Nat} {w : World} {xs : List Int} (h : LstI B w (.slice (some ⟨b, o, none⟩) n cap) xs) (p q cap' : Nat) (hq : p + q ≤ n) (h1 : q ≤ cap') (h2 : cap' ≤ maxLen) : LstI B w (.slice (some ⟨b, o + p, none⟩) q cap') ((xs.drop p).take q) := by
  obtain ⟨a, cap0, hv, hl, _, _, _, hc⟩ := h
  injection hv with e1 e2 e3
  subst e1 e2 e3
  have hlen : ((xs.drop p).take q).length = q := by rw [List.length_take, List.length_drop]; omega
  refine ⟨_, cap', by rw [hlen], by rw [hlen]; omega, by rw [hlen]; exact h1, h2, by rw [List.length_map, Nat.mul_one], fun hne => ?_⟩
  rw [hlen] at hne
  obtain ⟨b', o', ha, hb, hcell⟩ := hc (by omega)
  injection ha with ha
  injection ha with e1 e2 _
  subst e1 e2
  refine ⟨b, o + p, rfl, hb, fun i u hu => ?_⟩
  rw [Nat.add_assoc]
  refine hcell (p + i) u ?_
  rw [List.getElem?_map, List.getElem?_take] at hu
  split at hu
  · rw [List.getElem?_drop] at hu
    rw [List.getElem?_map]; exact hu
  · cases hu
theorem lstI_at {B n cap : Nat} {w : World} {a : Option Addr} {xs : List Int} (h : LstI B w (.slice a n cap) xs) : xs.length = n := by
  obtain ⟨a', cap0, hv, _⟩ := h
  injection hv with _ e2 _
  exact e2.symm
theorem lstI_block {B n cap : Nat} {w : World} {a : Option Addr} {xs : List Int} (h : LstI B w (.slice a n cap) xs) (h0 : 0 < n) : ∃ b o, a = some ⟨b, o, none⟩ ∧ b < B := by
  have hl := lstI_at h
  obtain ⟨a', cap0, hv, _, _, _, _, hc⟩ := h
  injection hv with e1 _ _
  subst e1
  obtain ⟨b, o, ha, hb, _⟩ := hc (by omega)
  exact ⟨b, o, ha, hb⟩

def rowV (b o m i : Nat) : Value := .slice (some ⟨b, o + i * m, none⟩) m m
def rowsL (b o m n : Nat) : List Value := (List.range n).map (rowV b o m)
theorem rowsL_succ (b o m k : Nat) : rowsL b o m (k + 1) = rowsL b o m k ++ [rowV b o m k] := by unfold rowsL; rw [List.range_succ, List.map_append]; rfl
theorem rowsL_length (b o m n : Nat) : (rowsL b o m n).length = n := by simp [rowsL]
theorem rowsL_get (b o m n i : Nat) (h : i < n) : (rowsL b o m n)[i]? = some (rowV b o m i) := by
  unfold rowsL
  rw [List.getElem?_map, List.getElem?_range h]; rfl
/-- The row i of a list. -/
def rowOf (ts : List Int) (m i : Nat) : List Int := (ts.drop (i * m)).take m
theorem rowOf_getD (ts : List Int) {m i k : Nat} (h : k < m) : (rowOf ts m i).getD k 0 = ts.getD (i * m + k) 0 := by
  unfold rowOf
  rw [List.getD_eq_getElem?_getD, List.getD_eq_getElem?_getD, List.getElem?_take, if_pos h, List.getElem?_drop]
theorem rowOf_length {ts : List Int} {m n i : Nat} (hl : ts.length = n * m) (h : i < n) : (rowOf ts m i).length = m := by
  have := rows_fit (m := m) h
  unfold rowOf
  rw [List.length_take, List.length_drop]; omega

theorem infoR : (Try.prog.info? 24).map (fun i => (i.zero, i.size, i.bytes)) = some (some (.slice none 0 0), 1, 24) := by kernel_rfl
theorem news1 (w : World) (t : TypeId) (u : Value) : ∀ (j : Nat) (x : Value), [u][j]? = some x → (w.alloc (.cells #[u] t)).cell? ((⟨w.heap.size, 0, none⟩ : Addr).add j) = some x := fun j x hj => by
  match j, hj with
  | 0, hj =>
    obtain rfl : u = x := by simpa using hj
    exact (Whole.made w t #[u] rfl).at_ rfl
  | j + 1, hj => simp at hj
theorem one_slice (a : Option Addr) (n c : Nat) : ∀ u ∈ [Value.slice a n c], u.oneCell' = true := by simp [Value.oneCell']
theorem grow_le {B : Nat} {w : World} (h : B ≤ w.heap.size) (o : Obj) : B ≤ (w.alloc o).heap.size := by simp; omega
theorem below_app {B C n k : Nat} {w wr w6 : World} {o : Obj} {v : Value} {cs : List Value} {e : TypeId} (hb : Below B w wr) (hO : wr.ownsRow C e k v n cs) (hg : (wr.alloc o).grownBy w6 v.ownBlock) (hB : B ≤ wr.heap.size) (hC : B ≤ C) : Below B w w6 :=
  (hb.alloc hB o).grown hg (grow_le hB o) fun k hk => Nat.le_trans hC (hO.lt k hk).1

set_option maxHeartbeats 2000000 in
theorem rowsOf_any (b o m n cap : Nat) (w : World) (hm : 1 ≤ m) (hm8 : m ≤ 16) (hn : n ≤ 1000) (hc : n * m ≤ cap) (hcap : cap ≤ maxLen) :
    Calls Try.prog 54 #[.slice (some ⟨b, o, none⟩) (n * m) cap, .int .i64 m] w fun e w' => ∃ v', e = .returned v' ∧ Own w.heap.size w'.heap.size w' v' 24 1 n (rowsL b o m n) ∧ Below w.heap.size w w' := by
  obtain ⟨i0, hi, hz0, hz1, hz2⟩ := info_parts infoR
  have hF : Hid (∀ k, k < n → k * m + m ≤ n * m) := Lib.hid fun k hk => rows_fit hk
  have hL : n * m ≤ 16000 := Nat.mul_le_mul hn hm8
  have hE : Hid (∀ k, ¬ k < n → k ≤ n → k * m = n * m) := Lib.hid fun k h1 h2 => by rw [show k = n by omega]
  have hS : Hid (∀ k, (k + 1) * m = k * m + m) := Lib.hid fun k => by rw [Nat.add_mul, Nat.one_mul]
  have hNe : Hid (∀ k, k < n → k * m < n * m) := Lib.hid fun k hk => by have := rows_fit (m := m) hk; omega
  generalize hLL : n * m = L at *
  unfold maxLen at hcap
  have hLL2 := Lib.hid hLL
  clear hLL
  go_enter Try.func54, Try.ntmps54
  go_wp2_with fail
  go_loopw [5, 6] (fun v f wr => ∃ k g : Nat, k ≤ n ∧ f = .int .i64 g ∧ Hid (g = k * m) ∧ Hid (wr.ownsRow w.heap.size 24 1 v k (rowsL b o m k)) ∧ Hid (Below w.heap.size w wr)) (fun _ f _ => L - (intOf f).toNat)
  case atStart => exact ⟨0, 0, Nat.zero_le _, rfl, Lib.hid (by rw [Nat.zero_mul]), Lib.hid ⟨by simp [rowsL], .inl ⟨rfl, rfl⟩⟩, Lib.hid (Below.refl _ _)⟩
  case round =>
    obtain ⟨k, g, hk, rfl, hg, hO, hB⟩ := hrel
    by_cases hlt : k < n
    · have h1 := hF.out k hlt
      have h2 := hNe.out k hlt
      have h3 := Lib.hid (hS.out k)
      rw [← hg.out] at h1 h2 h3
      have h4 : cap ≠ g := by omega
      have hV := Lib.hid (show rowV b o m k = .slice (some ⟨b, o + g, none⟩) m m by unfold rowV; rw [hg.out])
      go_wp2_with (at_builtin; refine wpList_append_own _ rfl _ _ _ rfl w.heap.size 24 i0 (.slice none 0 0) 1 24 Try.underlying60 hi hz0 hz1 hz2 rfl (by decide) _ k (rowsL b o m k) rfl (hO.out.alloc _) ⟨wr.heap.size, 0, none⟩ 1 1 [.slice (some ⟨b, o + g, none⟩) m m] rfl rfl (news1 wr _ _) (one_slice _ _ _) (by unfold maxLen; omega) (by omega) (grow_le hB.out.size _) ?_; intro v6 w6 hown6 hgrow6 hnil6; have hB6 := Lib.hid (below_app hB.out hO.out hgrow6 hB.out.size (Nat.le_refl _)); have hO6 := Lib.hid (show w6.ownsRow w.heap.size 24 1 v6 (k + 1) (rowsL b o m (k + 1)) by rw [rowsL_succ, hV.out]; exact hown6); clear hown6 hgrow6 hnil6)
      go_roundw
      case rel => exact ⟨k + 1, g + m, by omega, by go_num, Lib.hid h3.out.symm, hO6, hB6⟩
      case measure => simp [intOf]; omega
    · have h1 := hE.out k hlt hk
      rw [← hg.out] at h1
      have hO2 := Lib.hid (show Own w.heap.size wr.heap.size wr _ 24 1 n (rowsL b o m n) by rw [show n = k by omega]; exact Own.new hO.out (by unfold maxLen; omega))
      go_wp2_with fail
      go_ret
      exact ⟨_, rfl, hO2.out, hB.out⟩
end Go.Proofs.Ytnkbnkiaokkjhaa
