/- A longest way through tasks: the program's parts (slices.Reverse, the question which task tells a start) and its walk. No condition. -/
import Derived.Test.YtfnpbhplnlfnmaaWaySpec
import Derived.Test.YtfnpbhplnlfnmaaSortRow
import Derived.StillTailTactics
namespace Go.Proofs.Ytfnpbhplnlfnmaa
open Go.RowKit Go.Lst Srt

def revF (n : Nat) (f : Nat → Int) (k : Nat) : Nat → Int := fun t => if t < k ∨ n ≤ t + k then f (n - 1 - t) else f t
theorem revF_swap {n k : Nat} (f : Nat → Int) (h : 2 * k + 1 < n) : Srt.swap (revF n f k) k (n - 1 - k) = revF n f (k + 1) := by
  funext t
  unfold Srt.swap revF
  by_cases h1 : t = n - 1 - k
  · rw [if_pos h1, if_neg (by omega), if_pos (by omega), show n - 1 - t = k by omega]
  · rw [if_neg h1]
    by_cases h2 : t = k
    · rw [if_pos h2, if_neg (by omega), if_pos (by omega), h2]
    · rw [if_neg h2]
      by_cases h3 : t < k ∨ n ≤ t + k
      · rw [if_pos h3, if_pos (by omega)]
      · rw [if_neg h3, if_neg (by omega)]
theorem revF_done {n k : Nat} (f : Nat → Int) (h : n ≤ 2 * k + 1) (t : Nat) (ht : t < n) : revF n f k t = f (n - 1 - t) := by
  unfold revF
  by_cases h3 : t < k ∨ n ≤ t + k
  · rw [if_pos h3]
  · rw [if_neg h3, show n - 1 - t = t by omega]
theorem cells_list (l : List Int) : cellsF l.length (fun t => l.getD t 0) = l.map (Value.int .i64) := by
  refine List.ext_getElem? fun i => ?_
  by_cases hi : i < l.length
  · rw [cellsF_at _ hi, List.getElem?_map, List.getElem?_eq_getElem hi, List.getD_eq_getElem?_getD, List.getElem?_eq_getElem hi]; rfl
  · rw [List.getElem?_eq_none (by rw [cellsF_length]; omega), List.getElem?_eq_none (by rw [List.length_map]; omega)]
theorem cells_rev (l : List Int) : cellsF l.length (fun t => l.getD (l.length - 1 - t) 0) = l.reverse.map (Value.int .i64) := by
  refine List.ext_getElem? fun i => ?_
  by_cases hi : i < l.length
  · rw [cellsF_at _ hi, List.getElem?_map, List.getElem?_reverse hi, List.getElem?_eq_getElem (by omega), List.getD_eq_getElem?_getD, List.getElem?_eq_getElem (by omega)]; rfl
  · rw [List.getElem?_eq_none (by rw [cellsF_length]; omega), List.getElem?_eq_none (by rw [List.length_map, List.length_reverse]; omega)]
set_option maxHeartbeats 4000000 in
set_option maxRecDepth 100000 in
theorem reverse_any (A g n c : Nat) (l : List Int) (w : World) (ho : w.ownsRow A 2 1 (.slice (some ⟨g, 0, none⟩) n c) n (l.map (Value.int .i64))) (hl : l.length = n) (hn1 : 1 ≤ n) (hn : n ≤ 1000) :
    Calls Try.prog 26 #[.slice (some ⟨g, 0, none⟩) n c] w fun e w' => (∃ v, e = .returned v) ∧ w'.ownsRow A 2 1 (.slice (some ⟨g, 0, none⟩) n c) n (l.reverse.map (Value.int .i64)) ∧ w.grownBy w' (some g) := by
  have hR0 := Lib.hid (show Row A g n c w w (revF n (fun t => l.getD t 0) 0) from ⟨by
    rw [cellsF_congr (g := fun t => l.getD t 0) (fun k hk => by unfold revF; rw [if_neg (by omega)])]
    rw [← hl] at ho ⊢
    rw [cells_list]; exact ho, grown_refl _ _⟩)
  have hEnd : Hid (∀ k (W : World), n ≤ 2 * k + 1 → Row A g n c w W (revF n (fun t => l.getD t 0) k) → W.ownsRow A 2 1 (.slice (some ⟨g, 0, none⟩) n c) n (l.reverse.map (Value.int .i64)) ∧ w.grownBy W (some g)) := Lib.hid fun k W hk hR => by
    have h1 := hR.own
    rw [cellsF_congr (revF_done _ hk)] at h1
    refine ⟨?_, hR.kept⟩
    rw [← cells_rev, hl]
    exact h1
  clear ho hl
  generalize (fun t => l.getD t 0) = f at *
  generalize l.reverse.map (Value.int .i64) = cs at *
  go_enter Try.func26, Try.ntmps26
  have hwn : IntKind.i64.wrap ((n : Int) - 1) = (n : Int) - 1 := IntWalk.i64_in _ (by omega)
  go_wp2_with fail
  go_loopw [2, 3] (fun iv jv wr => ∃ k : Nat, k ≤ n ∧ iv = .int .i64 k ∧ jv = .int .i64 ((n : Int) - 1 - k) ∧ Hid (Row A g n c w wr (revF n f k))) (fun iv _ _ => n - (intOf iv).toNat)
  case atStart => exact ⟨0, Nat.zero_le _, rfl, by simp, hR0⟩
  case round =>
    clear hR0
    obtain ⟨k, hk, rfl, rfl, hR⟩ := hrel
    by_cases hlt : 2 * k + 1 < n
    · obtain ⟨j, hj⟩ : ∃ j : Nat, j = n - 1 - k := ⟨_, rfl⟩
      have ej : (n : Int) - 1 - (k : Int) = (j : Int) := by omega
      rw [ej]
      have hS := Lib.hid (hR.out.swap k j)
      have hS2 := revF_swap f hlt
      rw [← hj] at hS2
      rw [hS2] at hS
      have c1 := hR.out.cell (k := k) (by omega)
      have c2 := hR.out.cell (k := j) (by omega)
      have f1 := hR.out.frozen k
      have f2 := hR.out.frozen j
      have hkj : (k : Int) < (j : Int) := by omega
      have hkn : (k : Int) < (n : Int) := by omega
      have hjn : (j : Int) < (n : Int) := by omega
      have w1 : IntKind.i64.wrap ((k : Int) + 1) = (k : Int) + 1 := IntWalk.i64_in _ (by omega)
      have w2 : IntKind.i64.wrap ((j : Int) - 1) = (j : Int) - 1 := IntWalk.i64_in _ (by omega)
      have ej2 : (j : Int) - 1 = (n : Int) - 1 - ((k + 1 : Nat) : Int) := by omega
      have hEJ := Lib.hid ej2
      have hne := Lib.hid (show k ≠ j by omega)
      clear ej hS2 hj ej2
      generalize hu : revF n f k k = u at *
      generalize hv : revF n f k j = v at *
      clear hu hv hR
      go_wp2_with fail
      go_region
      go_wp2_with fail
      go_roundw
      case rel => exact ⟨k + 1, by omega, by go_num, by rw [hEJ.out], hS⟩
      case measure => simp [intOf]; omega
    · have hE := Lib.hid (hEnd.out k wr (by omega) hR.out)
      have hd : ¬ (k : Int) < (n : Int) - 1 - (k : Int) := by omega
      go_wp2_with fail
      go_end0
      exact ⟨⟨_, rfl⟩, hE.out.1, hE.out.2⟩
set_option maxHeartbeats 1000000 in
theorem indexW_any (B : Nat) (v : Value) (xs : List Int) (x : Int) (r : Nat) (w : World) (h : LstI B w v xs) (hr : xs[r]? = some x) (hlt : ∀ (j : Nat) (y : Int), j < r → xs[j]? = some y → (x == y) = false) :
    Calls Try.prog 23 #[v, .int .i64 x] w fun e w' => e = .returned (.int .i64 r) ∧ w = w' := by
  obtain ⟨a, cap, rfl, hl, _, _, hc⟩ := h.at_
  have hrl : r < xs.length := (List.getElem?_eq_some_iff.1 hr).1
  have hC := Lib.hid hc
  have hR := Lib.hid hr
  have hL := Lib.hid hlt
  clear hc h hr hlt
  generalize xs.length = n at *
  unfold maxLen at hl
  go_enter Try.func23, Try.ntmps23
  go_wp2_with fail
  go_loopw [8] (fun i wr => ∃ k : Nat, k ≤ r ∧ i = .int .i64 k ∧ wr = w) (fun i _ => n - (intOf i).toNat)
  case atStart => exact ⟨0, Nat.zero_le _, rfl, rfl⟩
  case round =>
    obtain ⟨k, hk, rfl, rfl⟩ := hrel
    obtain ⟨b, o, y, rfl, _, hy, hcell⟩ := hC.out k (by omega)
    have hkn : k < n := by omega
    by_cases hkr : k = r
    · have hq : (x == y) = true := by
        have := hR.out; rw [← hkr, hy] at this; rw [beq_iff_eq]; exact (Option.some.inj this).symm
      have hK := Lib.hid hkr
      clear hkr hy
      go_wp2_with fail
      go_ret
      exact ⟨by rw [← hK.out]; rfl, rfl⟩
    · have hq := hL.out k y (by omega) hy
      clear hy
      go_wp2_with fail
      go_roundw
      case rel => exact ⟨k + 1, by omega, by go_num, by trivial⟩
      case measure => simp [intOf]; omega
set_option maxHeartbeats 4000000 in
set_option maxRecDepth 100000 in
theorem wayTell_any (n m j i bn : Nat) (s l ei : Int) (be bt ba bp ge cE bb ob cb bl ol cl b2 o2 c2 : Nat) (w : World) (h1 : w.cell? ⟨be, 0, none⟩ = some (.slice (some ⟨ge, 0, none⟩) n cE)) (h2 : w.cell? ⟨bt, 2, none⟩ = some (.slice (some ⟨bb, ob, none⟩) m cb)) (h3 : w.cell? ⟨bt, 3, none⟩ = some (.slice (some ⟨bl, ol, none⟩) m cl))
    (h4 : w.cell? ⟨ba, 0, none⟩ = some (.slice (some ⟨b2, o2, none⟩) n c2)) (h5 : w.cell? ⟨bp, 0, none⟩ = some (.int .i64 (i : Int))) (k1 : w.cell? ⟨bb, ob + j, none⟩ = some (.int .i64 (bn : Int))) (k2 : w.cell? ⟨ge, bn, none⟩ = some (.int .i64 s)) (k3 : w.cell? ⟨bl, ol + j, none⟩ = some (.int .i64 l)) (k4 : w.cell? ⟨b2, o2 + i, none⟩ = some (.int .i64 ei))
    (hj : j < m) (hbn : bn < n) (hi : i < n) (s0 : -10000000 ≤ s) (s1 : s ≤ 10000000) (l0 : -10000000 ≤ l) (l1 : l ≤ 10000000) :
    Calls Try.prog 24 #[.int .i64 (j : Int), .pointer (some ⟨be, 0, none⟩), .pointer (some ⟨bt, 0, none⟩), .pointer (some ⟨ba, 0, none⟩), .pointer (some ⟨bp, 0, none⟩)] w (Ret (.bool (s + l == ei)) w) := by
  have y1 : IntKind.i64.wrap (s + l) = s + l := IntWalk.i64_in _ (by omega)
  have q1 : (j : Int) < (m : Int) := by omega
  have q2 : (bn : Int) < (n : Int) := by omega
  have q3 : (i : Int) < (n : Int) := by omega
  go_enter Try.func24, Try.ntmps24
  go_wp2_with fail
  go_quiet (fail)
  go_wp2_with fail
  go_ret
  exact ⟨_, rfl, rfl⟩
set_option maxHeartbeats 1000000 in
theorem firstTell_any (n : Nat) (q1 q2 q3 q4 : Addr) (p : Nat → Bool) (w : World) (hn : n ≤ 1000) (hF : ∀ k, k < n → ∀ m, Calls Try.prog 24 #[.int .i64 k, .pointer (some q1), .pointer (some q2), .pointer (some q3), .pointer (some q4)] (w.drewN m) (Ret (.bool (p k)) (w.drewN m))) :
    Calls Try.prog 25 #[.int .i64 n, .func (.func 24) #[] #[.pointer (some q1), .pointer (some q2), .pointer (some q3), .pointer (some q4)]] w (Ret (.int .i64 (fstP p n : Nat)) w) := by
  have hQ := Lib.hid hF
  have hOne : Hid (∀ r, r ≤ n → (∀ j, j < r → p j = false) → (r < n → p r = true) → fstP p n = r) := Lib.hid fun r a b c => fstP_one a b c
  clear hF
  generalize fstP p n = res at *
  go_enter Try.func25, Try.ntmps25
  go_wp2_with fail
  go_loopw [5] (fun i wr => ∃ k m : Nat, k ≤ n ∧ i = .int .i64 k ∧ Hid (∀ j, j < k → p j = false) ∧ wr = w.drewN m) (fun i _ => n - (intOf i).toNat)
  case atStart => exact ⟨0, 0, Nat.zero_le _, rfl, Lib.hid (fun j hj => by omega), rfl⟩
  case round =>
    obtain ⟨k, m, hk, rfl, hP, rfl⟩ := hrel
    by_cases hlt : k < n
    · have hQ2 := Lib.hid (hQ.out k hlt m)
      have hw1 : IntKind.i64.wrap ((k : Int) + 1) = (k : Int) + 1 := IntWalk.i64_in _ (by omega)
      have hlt2 : (k : Int) < (n : Int) := by omega
      cases hp : p k
      · rw [hp] at hQ2
        have hP2 : Hid (∀ j, j < k + 1 → p j = false) := Lib.hid fun j hj => by
          by_cases e : j = k
          · rw [e]; exact hp
          · exact hP.out j (by omega)
        clear hp
        go_wp2_with fail
        refine (hQ2.out).mono ?_
        rintro e w2 ⟨m2, rfl, rfl⟩
        rw [World.drewN_drewN]
        go_wp2_with fail
        go_roundw
        case rel => exact ⟨k + 1, _, by omega, by go_num, hP2, rfl⟩
        case measure => simp [intOf]; omega
      · rw [hp] at hQ2
        have hT := Lib.hid (hOne.out k hk hP.out (fun _ => hp))
        clear hp
        go_wp2_with fail
        refine (hQ2.out).mono ?_
        rintro e w2 ⟨m2, rfl, rfl⟩
        rw [World.drewN_drewN]
        go_wp2_with fail
        go_ret
        exact ⟨_, by rw [hT.out]; rfl, rfl⟩
    · obtain rfl : n = k := by omega
      have hT := Lib.hid (hOne.out n (Nat.le_refl _) hP.out (fun h => absurd h (Nat.lt_irrefl _)))
      go_wp2_with fail
      go_ret
      exact ⟨_, by rw [hT.out]; rfl, rfl⟩
end Go.Proofs.Ytfnpbhplnlfnmaa
