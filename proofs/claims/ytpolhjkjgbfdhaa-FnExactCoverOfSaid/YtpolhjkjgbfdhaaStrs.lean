/- Lists of texts: a word for them, the law's marks of texts, and contracts of the law's own functions on lists of texts: compared, marked, and looked at again. -/
import Derived.Test.YtpolhjkjgbfdhaaInts
import Derived.Test.YtpolhjkjgbfdhaaBlk
import Derived.Test.YtpolhjkjgbfdhaaNear
import Derived.IntWalk
import Derived.Laws.BytesArg
namespace Go.Lst
open Go.RowKit
/-- The slice v holds the texts xs. -/
def LstS (B : Nat) (w : World) (v : Value) (xs : List ByteArray) : Prop := LstK 1 B w v xs.length (xs.map Value.string)
theorem Own.lstS {A B B' e : Nat} {w : World} {v : Value} {xs : List ByteArray} (h : Own A B w v e 1 xs.length (xs.map Value.string)) (hB : B ≤ B') : LstS B' w v xs := h.lstK hB
theorem LstS.lst {B : Nat} {w : World} {v : Value} {xs : List ByteArray} (h : LstS B w v xs) : Lst B w v (xs.map Value.string) := LstK.lst h
end Go.Lst
namespace Go.Proofs.Ytpolhjkjgbfdhaa
open Go.RowKit Go.Lst

def digs (n : Nat) (out : ByteArray) : ByteArray := if h : n = 0 then out else digs (n / 10) (strOfNums [48 + (n : Int) % 10] ++ out)
termination_by n
decreasing_by omega
theorem digs_zero (out : ByteArray) : digs 0 out = out := by unfold digs; rw [dif_pos rfl]
theorem digs_step {n : Nat} (h : 0 < n) (out : ByteArray) : digs (n / 10) (strOfNums [48 + (n : Int) % 10] ++ out) = digs n out := by
  conv => rhs; unfold digs
  rw [dif_neg (by omega)]
theorem strOf_one (x : Int) : (strOfNums [x]).size = 1 := rfl
theorem two_small {m s n : Nat} (hm : 0 < m) (h : m * 2 ^ s ≤ n) (hn : n ≤ 9223372036854775807) : s ≤ 62 := by
  by_cases hs : s ≤ 62
  · exact hs
  · exfalso
    have h1 : 2 ^ 63 ≤ 2 ^ s := Nat.pow_le_pow_right (by decide) (by omega)
    have h2 : 1 * 2 ^ s ≤ m * 2 ^ s := Nat.mul_le_mul_right _ hm
    rw [Nat.one_mul] at h2
    have h3 : (2 : Nat) ^ 63 = 9223372036854775808 := by decide
    omega
theorem two_step {m s n : Nat} (h : m * 2 ^ s ≤ n) : m / 10 * 2 ^ (s + 1) ≤ n := by
  refine Nat.le_trans ?_ h
  rw [Nat.pow_succ, Nat.mul_comm (2 ^ s) 2, ← Nat.mul_assoc]
  exact Nat.mul_le_mul_right _ (by omega)
def markT (n : Nat) : ByteArray := if n = 0 then ⟨#[109, 48]⟩ else ⟨#[109]⟩ ++ digs n ⟨#[]⟩
set_option maxHeartbeats 4000000 in
set_option maxRecDepth 100000 in
theorem markText_any (n : Nat) (hn : n ≤ 9223372036854775807) (w : World) : Calls Try.prog 61 #[.int .i64 (n : Int)] w fun e w' => e = .returned (.string (markT n)) ∧ Below w.heap.size w w' := by
  by_cases h0 : n = 0
  · subst h0
    go_enter Try.func61, Try.ntmps61
    go_wp2_with fail
    go_ret
    exact ⟨by unfold markT; rw [if_pos rfl]; rfl, Below.refl _ _⟩
  have hE : Hid (markT n = ⟨#[109]⟩ ++ digs n ⟨#[]⟩) := Lib.hid (by unfold markT; rw [if_neg h0])
  have hle : decide ((n : Int) ≤ 0) = false := decide_eq_false (by omega)
  go_enter Try.func61, Try.ntmps61
  go_wp2_with fail
  go_loopw [0, 3] (fun nv ov wr => ∃ (m : Nat) (out : ByteArray), m ≤ n ∧ nv = .int .i64 (m : Int) ∧ ov = .string out ∧ Hid (digs m out = digs n ⟨#[]⟩) ∧ out.size ≤ 63 ∧ Hid (0 < m → m * 2 ^ out.size ≤ n) ∧ Hid (Below w.heap.size w wr)) (fun nv _ _ => (intOf nv).toNat)
  case atStart => exact ⟨n, _, Nat.le_refl _, rfl, rfl, Lib.hid rfl, by decide, Lib.hid (fun _ => by show n * 2 ^ 0 ≤ n; omega), Lib.hid (Below.refl _ _)⟩
  case round =>
    obtain ⟨m, out, hm, rfl, rfl, hD, hsz, hP, hB⟩ := hrel
    by_cases hpos : 0 < m
    · have hw1 : IntKind.i64.wrap ((m : Int).tmod 10) = (m : Int) % 10 := by rw [Int.tmod_eq_emod_of_nonneg (by omega)]; exact IntWalk.i64_in _ (by omega)
      have hw2 : IntKind.i64.wrap (48 + (m : Int) % 10) = 48 + (m : Int) % 10 := IntWalk.i64_in _ (by omega)
      have hw3 : IntKind.u8.wrap (48 + (m : Int) % 10) = 48 + (m : Int) % 10 := IntWalk.u8_in _ (by omega)
      have hw4 : IntKind.i64.wrap ((m : Int).tdiv 10) = ((m / 10 : Nat) : Int) := by rw [Int.tdiv_eq_ediv_of_nonneg (by omega)]; rw [IntWalk.i64_in _ (by omega)]; omega
      have hs1 := strOf_one (48 + (m : Int) % 10)
      have hsz2 := two_small hpos (hP.out hpos) hn
      have hP2 : Hid (0 < m / 10 → m / 10 * 2 ^ (strOfNums [48 + (m : Int) % 10] ++ out).size ≤ n) := Lib.hid fun _ => by rw [ByteArray.size_append, strOf_one, Nat.add_comm]; exact two_step (hP.out hpos)
      have hsz3 : (strOfNums [48 + (m : Int) % 10] ++ out).size ≤ 63 := by rw [ByteArray.size_append, strOf_one]; omega
      have hS := Lib.hid ((digs_step hpos out).trans hD.out)
      have hcv := run_convert_bytes_arg (P := Try.prog) (wr.alloc (.cells #[.int .u8 (48 + (m : Int) % 10)] 5)) 96 5 Try.underlying96 Try.underlying5 wr.heap.size 0 1 1 [48 + (m : Int) % 10] rfl (fun i hi => by
        obtain rfl : i = 0 := by omega
        exact (Whole.made wr 5 #[.int .u8 (48 + (m : Int) % 10)] rfl).at_ rfl) 9 Try.underlying9
      have hB1 := Lib.hid (hB.out.alloc hB.out.size (.cells #[.int .u8 (48 + (m : Int) % 10)] 5))
      go_wp2_with fail
      go_roundw
      case rel => exact ⟨m / 10, _, by omega, by first | rfl | go_num, rfl, hS, hsz3, hP2, hB1⟩
      case measure => simp [intOf]; omega
    · obtain rfl : m = 0 := by omega
      have hF := Lib.hid (show markT n = ⟨#[109]⟩ ++ out by rw [hE.out, ← hD.out, digs_zero])
      go_wp2_with fail
      go_ret
      exact ⟨by rw [hF.out]; rfl, hB.out⟩
def markS (z : Int) : Value := .string (markT z.toNat)
theorem markText_at (z : Int) (h0 : 0 ≤ z) (h1 : z ≤ 9223372036854775807) (w : World) : Calls Try.prog 61 #[.int .i64 z] w fun e w' => e = .returned (.string (markT z.toNat)) ∧ Below w.heap.size w w' := by
  obtain ⟨n, rfl⟩ := Int.eq_ofNat_of_zero_le h0
  exact markText_any n (by omega) w
theorem grown_below {w w' : World} (h : Below w.heap.size w w') (r : Option Nat) : w.grownBy w' r := ⟨h.os, h.tape, h.output, h.size, fun k hk _ => h.block k hk⟩
set_option maxHeartbeats 1000000 in
theorem eqStringS_yes (B : Nat) (v1 v2 : Value) (xs : List ByteArray) (w : World) (h1 : LstS B w v1 xs) (h2 : LstS B w v2 xs) :
    Calls Try.prog 29 #[v1, v2] w (Ret (.bool true) w) := by
  obtain ⟨a1, cap1, rfl, hl1, hc1⟩ := h1.lst
  obtain ⟨a2, cap2, rfl, hl2, hc2⟩ := h2.lst
  rw [List.length_map] at hl1 ⊢
  have hne1 : 0 < xs.length → xs.map Value.string ≠ [] := fun h h0 => by simp at h0; rw [h0] at h; simp at h
  have hX : Hid (∀ k, k < xs.length → ∃ b1 o1 b2 o2 x, a1 = some ⟨b1, o1, none⟩ ∧ a2 = some ⟨b2, o2, none⟩ ∧ w.cell? ⟨b1, o1 + k, none⟩ = some (.string x) ∧ w.cell? ⟨b2, o2 + k, none⟩ = some (.string x)) := Lib.hid fun k hk => by
    obtain ⟨b1, o1, ha1, _, hb1⟩ := hc1 (hne1 (by omega))
    obtain ⟨b2, o2, ha2, _, hb2⟩ := hc2 (hne1 (by omega))
    have e1 : xs[k]? = some xs[k] := List.getElem?_eq_getElem _
    exact ⟨b1, o1, b2, o2, xs[k], ha1, ha2, hb1 k _ (by rw [List.getElem?_map, e1]; rfl), hb2 k _ (by rw [List.getElem?_map, e1]; rfl)⟩
  clear hc1 hc2 hne1 hl2
  generalize xs.length = n at *
  unfold maxLen at hl1
  go_enter Try.func29, Try.ntmps29
  go_wp2
  go_loopw [5] (fun i wr => ∃ k m : Nat, k ≤ n ∧ i = .int .i64 k ∧ wr = w.drewN m) (fun i _ => n - (intOf i).toNat)
  case atStart => exact ⟨0, 0, Nat.zero_le _, rfl, rfl⟩
  case round =>
    obtain ⟨k, m, hk, rfl, rfl⟩ := hrel
    by_cases hlt : k < n
    · obtain ⟨b1, o1, b2, o2, x, rfl, rfl, hcell1, hcell2⟩ := hX.out k hlt
      rw [← World.cell?_drewN (n := m)] at hcell1 hcell2
      generalize hwo : w.drewN m = wo at *
      have hWo := Lib.hid hwo
      clear hwo
      go_wp2_with fail
      go_quiet (fail)
      go_wp2
      go_roundw
      case rel => exact ⟨k + 1, _, by omega, by go_num, by rw [← hWo.out, World.drewN_drewN]⟩
      case measure => simp [intOf]; omega
    · go_wp2
      go_ret
      exact Ret.later _ _ _
set_option maxHeartbeats 1000000 in
theorem markStringS_any (A B : Nat) (v : Value) (cs : List Value) (n : Nat) (k0 : Int) (w : World) (h : Own A B w v 9 1 n cs) (h0 : 0 ≤ k0) (hk0 : k0 ≤ 1099511627776) (hn : n ≤ 1099511627776) :
    Calls Try.prog 30 #[v, .int .i64 k0] w fun e w' => e = .returned (.int .i64 (k0 + n)) ∧ Own A B w' v 9 1 n ((marksFrom k0 n).map markS) ∧ w.grownBy w' v.ownBlock := by
  obtain ⟨hrow, hm, hB⟩ := h
  rcases hrow.2 with ⟨rfl, rfl⟩ | ⟨g, cap, cur, rfl, hAg, hg, hnc, hcap, hcs, htk⟩
  · have hpost : Own A B w (.slice none 0 0) 9 1 0 ((marksFrom k0 0).map markS) := ⟨⟨rfl, .inl ⟨rfl, rfl⟩⟩, Nat.zero_le _, fun g hg => by cases hg⟩
    have hP := Lib.hid hpost
    clear hpost hrow hB
    go_enter Try.func30, Try.ntmps30
    go_wp2
    go_loopw [1, 5] (fun kk i wr => kk = .int .i64 k0 ∧ i = .int .i64 0 ∧ wr = w) (fun _ _ _ => 0)
    case atStart => exact ⟨rfl, rfl, rfl⟩
    case round =>
      obtain ⟨rfl, rfl, rfl⟩ := hrel
      go_wp2
      go_ret
      exact ⟨by simp, hP.out, ⟨rfl, rfl, rfl, Nat.le_refl _, fun _ _ _ => rfl⟩⟩
  · have hO : w.ownsRow A 9 1 (.slice (some ⟨g, 0, none⟩) n cap) n ((marksFrom k0 0).map markS ++ cs.drop 0) := by simpa [marksFrom] using hrow
    have hlen : cs.length = n := by have := hrow.1; omega
    have hBB := Lib.hid hB
    have hH := Lib.hid hO
    have hL := Lib.hid hlen
    have hM := Lib.hid hm
    clear hrow hB hO hlen hg hcs htk hAg hm
    unfold maxLen at hcap
    go_enter Try.func30, Try.ntmps30
    go_wp2
    go_loopw [1, 5] (fun kk i wr => ∃ k : Nat, k ≤ n ∧ i = .int .i64 k ∧ kk = .int .i64 (k0 + k) ∧ Hid (wr.ownsRow A 9 1 (.slice (some ⟨g, 0, none⟩) n cap) n ((marksFrom k0 k).map markS ++ cs.drop k)) ∧ Hid (w.grownBy wr (some g))) (fun _ i _ => n - (intOf i).toNat)
    case atStart => exact ⟨0, Nat.zero_le _, rfl, by simp, hH, Lib.hid (grown_refl _ _)⟩
    case round =>
      obtain ⟨k, hk, rfl, rfl, hO1, hG1⟩ := hrel
      by_cases hlt : k < n
      · obtain ⟨u0, hdst⟩ : ∃ u, wr.cell? ⟨g, k, none⟩ = some u := by
          have h1 := hO1.out.cellAt k (by omega)
          have h2 := hO1.out.1
          rw [Nat.mul_one] at h2
          rw [h1]
          exact ⟨_, List.getElem?_eq_getElem (by omega)⟩
        have hfr : wr.frozen? ⟨g, k, none⟩ = false := hO1.out.frozenAt k
        have hCall := Lib.hid (markText_at (k0 + k) (by omega) (by omega) wr)
        have hL2 : Hid (∀ w5 : World, w5.ownsRow A 9 1 (.slice (some ⟨g, 0, none⟩) n cap) n ((marksFrom k0 k).map markS ++ cs.drop k) → (w5.setCell ⟨g, k, none⟩ (.string (markT (k0 + k).toNat))).ownsRow A 9 1 (.slice (some ⟨g, 0, none⟩) n cap) n ((marksFrom k0 (k + 1)).map markS ++ cs.drop (k + 1)) ∧ w5.grownBy (w5.setCell ⟨g, k, none⟩ (.string (markT (k0 + k).toNat))) (some g)) := Lib.hid fun w5 h5 => by
          have hst := h5.stored k (markS (k0 + k))
          rw [marks_step _ _ _ _ _ hL.out hlt] at hst
          exact hst
        generalize markT (k0 + k).toNat = mt at *
        go_wp2_with (go_at_call 61; (with_reducible refine (hCall.out).mono ?_); rintro e w5 ⟨rfl, hb5⟩; have hO5 := Lib.hid (ownsRow_kept hO1.out hb5); have hG5 := Lib.hid (grown_on hG1.out (grown_below hb5 _)); have hst := hL2.out w5 hO5.out; have hO2 := Lib.hid hst.1; have hG2 := Lib.hid (grown_on hG5.out hst.2); have hd5 : w5.cell? ⟨g, k, none⟩ = some u0 := (hb5.cell (p := ⟨g, k, none⟩) (World.block_lt_of_cell? wr _ hdst)).trans hdst; have hf5 : w5.frozen? ⟨g, k, none⟩ = false := hO5.out.frozenAt k; clear hst hb5 hG1 hO1)
        go_roundw
        case rel => exact ⟨k + 1, by omega, by go_num, by simp; omega, hO2, hG2⟩
        case measure => simp [intOf]; omega
      · have hkn : k = n := by omega
        have hO3 : wr.ownsRow A 9 1 (.slice (some ⟨g, 0, none⟩) n cap) n ((marksFrom k0 n).map markS) := by
          have h1 := hO1.out
          rw [hkn, List.drop_of_length_le (by have := hL.out; omega), List.append_nil] at h1
          exact h1
        have hO4 := Lib.hid hO3
        have hkn2 := Lib.hid hkn
        clear hO3 hkn hO1
        go_wp2
        go_ret
        exact ⟨by rw [hkn2.out]; rfl, ⟨hO4.out, hM.out, hBB.out⟩, hG1.out⟩
end Go.Proofs.Ytpolhjkjgbfdhaa
