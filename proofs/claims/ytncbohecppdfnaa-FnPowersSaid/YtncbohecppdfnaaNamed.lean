/- Contracts of what the named laws share: how long an input may be, and the numbers that its bytes choose. -/
import Derived.Test.YtncbohecppdfnaaBase
import Derived.Test.YtncbohecppdfnaaOwn
import Derived.IntWalk
namespace Go.Proofs.Ytncbohecppdfnaa
open Go.RowKit Go.Lst

/-- What a byte of an input chooses, from 0 to n - 1. -/
def atB (bs : List Int) (i n : Int) : Int := if n ≤ 1 then 0 else if i < (bs.length : Int) then bs.getD i.toNat 0 % n else (i * 37 + 11) % n
def bytesOk (bs : List Int) : Prop := bs.length ≤ 1048576 ∧ ∀ x ∈ bs, 0 ≤ x ∧ x ≤ 255
theorem byte_in {x : Int} (h : (Lit.int .u8 x).wf = true) : 0 ≤ x ∧ x ≤ 255 := by
  have e1 : IntKind.u8.min = 0 := rfl
  have e2 : IntKind.u8.max = 255 := rfl
  have h2 : (decide (IntKind.u8.min ≤ x) && decide (x ≤ IntKind.u8.max)) = true := h
  rw [e1, e2] at h2
  simpa using h2
theorem bytes_in {bs : List Int} (hb : ∀ x ∈ bs, (Lit.int .u8 x).wf = true) (k : Nat) : 0 ≤ bs.getD k 0 ∧ bs.getD k 0 ≤ 255 := by
  rw [List.getD_eq_getElem?_getD]
  cases h : bs[k]?
  · exact ⟨by decide, by decide⟩
  · exact byte_in (hb _ (List.mem_of_getElem? h))
theorem atB_in {bs : List Int} (i n : Int) (hn : 1 ≤ n) : 0 ≤ atB bs i n ∧ atB bs i n < n := by
  unfold atB
  split
  · exact ⟨by omega, by omega⟩
  split
  · exact ⟨Int.emod_nonneg _ (by omega), Int.emod_lt_of_pos _ (by omega)⟩
  · exact ⟨Int.emod_nonneg _ (by omega), Int.emod_lt_of_pos _ (by omega)⟩
theorem infoNum : (Try.prog.info? 2).map (fun i => (i.zero, i.size, i.bytes)) = some (some (.int .i64 0), 1, 8) := by kernel_rfl
theorem newsN (w : World) (t : TypeId) (u : Value) : ∀ (j : Nat) (x : Value), [u][j]? = some x → (w.alloc (.cells #[u] t)).cell? ((⟨w.heap.size, 0, none⟩ : Addr).add j) = some x := fun j x hj => by
  match j, hj with
  | 0, hj =>
    obtain rfl : u = x := by simpa using hj
    have : (⟨w.heap.size, 0, none⟩ : Addr).add 0 = ⟨w.heap.size, 0, none⟩ := rfl
    rw [this]
    simp
  | j + 1, hj => simp at hj
set_option maxHeartbeats 2000000 in
theorem b10At_any (B : Nat) (v : Value) (bs : List Int) (i : Nat) (n : Int) (w : World) (h : Lst B w v (bs.map (Value.int .u8))) (hb : ∀ x ∈ bs, (Lit.int .u8 x).wf = true) (hi : i ≤ 1000) (hn : n ≤ 1048576) :
    Calls Try.prog 9 #[v, .int .i64 i, .int .i64 n] w fun e w' => e = .returned (.int .i64 (atB bs i n)) ∧ w = w' := by
  obtain ⟨a, cap, rfl, hl, hc⟩ := h
  rw [List.length_map] at hl ⊢
  unfold maxLen at hl
  by_cases h1 : n ≤ 1
  · have e : atB bs i n = 0 := by unfold atB; rw [if_pos h1]
    rw [e]
    clear hc
    generalize bs.length = m at *
    go_enter Try.func9, Try.ntmps9
    go_wp2_with fail
    go_ret
    exact ⟨rfl, rfl⟩
  · by_cases h2 : i < bs.length
    · obtain ⟨b, o, rfl, hbB, hcell⟩ := hc (by intro e; rw [List.map_eq_nil_iff] at e; rw [e] at h2; simp at h2)
      have c0 := hcell i (.int .u8 (bs.getD i 0)) (by rw [List.getElem?_map, List.getElem?_eq_getElem h2, List.getD_eq_getElem?_getD, List.getElem?_eq_getElem h2]; rfl)
      have hx := bytes_in hb i
      have e : atB bs i n = bs.getD i 0 % n := by
        unfold atB
        rw [if_neg h1, if_pos (by omega), Int.toNat_natCast]
      rw [e]
      have hmod : (bs.getD i 0).tmod n = bs.getD i 0 % n := Int.tmod_eq_emod_of_nonneg hx.1
      have hbd := Int.emod_lt_of_pos (bs.getD i 0) (show 0 < n by omega)
      have hbd0 := Int.emod_nonneg (bs.getD i 0) (show n ≠ 0 by omega)
      have hd : (i : Int) < (bs.length : Int) := by omega
      have hw : IntKind.i64.wrap (bs.getD i 0) = bs.getD i 0 := IntWalk.i64_in _ (by omega)
      have hz : (n == 0) = false := by rw [beq_eq_false_iff_ne]; omega
      clear hcell hb e
      generalize bs.getD i 0 = x at *
      generalize bs.length = m at *
      generalize x % n = y at *
      go_enter Try.func9, Try.ntmps9
      go_wp2_with fail
      go_ret
      exact ⟨rfl, rfl⟩
    · have e : atB bs i n = ((i : Int) * 37 + 11) % n := by
        unfold atB
        rw [if_neg h1, if_neg (by omega)]
      rw [e]
      have hmod : ((i : Int) * 37 + 11).tmod n = ((i : Int) * 37 + 11) % n := Int.tmod_eq_emod_of_nonneg (by omega)
      have hd : ¬ (i : Int) < (bs.length : Int) := by omega
      have hd2 : decide ((i : Int) < (bs.length : Int)) = false := decide_eq_false hd
      have hw : IntKind.i64.wrap ((i : Int) * 37) = (i : Int) * 37 := IntWalk.i64_in _ (by omega)
      have hw2 : IntKind.i64.wrap ((i : Int) * 37 + 11) = (i : Int) * 37 + 11 := IntWalk.i64_in _ (by omega)
      have hbd := Int.emod_lt_of_pos ((i : Int) * 37 + 11) (show 0 < n by omega)
      have hbd0 := Int.emod_nonneg ((i : Int) * 37 + 11) (show n ≠ 0 by omega)
      have hz : (n == 0) = false := by rw [beq_eq_false_iff_ne]; omega
      clear hc hb e
      generalize bs.length = m at *
      go_enter Try.func9, Try.ntmps9
      go_wp2_with fail
      go_ret
      exact ⟨rfl, rfl⟩
set_option maxHeartbeats 1000000 in
theorem b10Long_any (a1 a2 : Option Addr) (n1 n2 c1 c2 : Nat) (w : World) : Calls Try.prog 8 #[.slice a1 n1 c1, .slice a2 n2 c2] w fun e w' => e = .returned (.bool (decide (1048576 < n1) || decide (1048576 < n2))) ∧ w = w' := by
  by_cases h1 : 1048576 < n1
  · have d1 : decide ((1048576 : Int) < (n1 : Int)) = true := decide_eq_true (by omega)
    rw [decide_eq_true h1, Bool.true_or]
    go_enter Try.func8, Try.ntmps8
    go_wp2_with fail
    go_ret
    exact ⟨rfl, rfl⟩
  · have d1 : decide ((1048576 : Int) < (n1 : Int)) = false := decide_eq_false (by omega)
    rw [decide_eq_false h1, Bool.false_or]
    by_cases h2 : 1048576 < n2
    · have d2 : decide ((1048576 : Int) < (n2 : Int)) = true := decide_eq_true (by omega)
      rw [decide_eq_true h2]
      go_enter Try.func8, Try.ntmps8
      go_wp2_with fail
      go_ret
      exact ⟨rfl, rfl⟩
    · have d2 : decide ((1048576 : Int) < (n2 : Int)) = false := decide_eq_false (by omega)
      rw [decide_eq_false h2]
      go_enter Try.func8, Try.ntmps8
      go_wp2_with fail
      go_ret
      exact ⟨rfl, rfl⟩
end Go.Proofs.Ytncbohecppdfnaa
