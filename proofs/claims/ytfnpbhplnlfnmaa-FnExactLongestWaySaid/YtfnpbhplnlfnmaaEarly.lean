/- Contracts: the least starts of tasks, and the end, in the model and in the program. -/
import Derived.Test.YtfnpbhplnlfnmaaEarlyPure
import Derived.Test.YtfnpbhplnlfnmaaTimes
import Derived.Test.YtfnpbhplnlfnmaaBlk
import Derived.Laws.EntriesVeiled
import Derived.Deep.RegionHeld3
namespace Go.Proofs.Ytfnpbhplnlfnmaa
open Go.RowKit Go.Lst

theorem getD_get {st : List Int} {k : Nat} (h : k < st.length) : st[k]? = some (st.getD k 0) := by
  rw [List.getElem?_eq_getElem h, getD_some (List.getElem?_eq_getElem h)]
/-- What lies where, of a task and of those before it. -/
theorem least_cells {B : Nat} {w : World} {v1 v2 : Value} {xs : List TaskD} {st : List Int} {k : Nat} {x : TaskD} (h1 : LstTask B w v1 xs) (h2 : LstI B w v2 st) (hf : Fit xs) (hx : xs[k]? = some x) (hl : xs.length ≤ st.length) (hb : Bnd (-1000000) 1000000 st) :
    ∃ (b o c1 b2 o2 c2 : Nat) (ab al : Option Addr) (cb cl : Nat), v1 = .slice (some ⟨b, o, none⟩) xs.length c1 ∧ v2 = .slice (some ⟨b2, o2, none⟩) st.length c2 ∧ b < B ∧ b2 < B ∧ k < xs.length ∧ st.length ≤ maxLen ∧
      w.cell? ⟨b, o + k * 4 + 2, none⟩ = some (.slice ab x.Before.length cb) ∧ w.cell? ⟨b, o + k * 4 + 3, none⟩ = some (.slice al x.Before.length cl) ∧ x.Before.length ≤ 16 ∧
      ∀ j, j < x.Before.length → ∃ (bb ob bl ol bn : Nat) (s t l : Int), ab = some ⟨bb, ob, none⟩ ∧ al = some ⟨bl, ol, none⟩ ∧ bb < B ∧ bl < B ∧ bn < k ∧ bn < xs.length ∧ bn < st.length ∧
        w.cell? ⟨bb, ob + j, none⟩ = some (.int .i64 (bn : Int)) ∧ w.cell? ⟨bl, ol + j, none⟩ = some (.int .i64 l) ∧ w.cell? ⟨b2, o2 + bn, none⟩ = some (.int .i64 s) ∧ w.cell? ⟨b, o + bn * 4, none⟩ = some (.int .i64 t) ∧
        termAt xs st x j = s + t + l ∧ -1000000 ≤ s ∧ s ≤ 1000000 ∧ 0 ≤ t ∧ t ≤ 1000 ∧ -100 ≤ l ∧ l ≤ 100 ∧ bAt x j = (bn : Int) := by
  have hk := (List.getElem?_eq_some_iff.1 hx).1
  have hfew := before_few hf hx
  obtain ⟨a, cap, rfl, hm, _, _, hc⟩ := h1.at_
  obtain ⟨a2, cap2, rfl, hm2, _, _, hc2⟩ := h2.at_
  obtain ⟨b, o, x', vb, vl, rfl, hbB, hx', c0, c1, c2, c3, l0, l1⟩ := hc k hk
  obtain rfl : x = x' := by rw [hx] at hx'; exact Option.some.inj hx'
  obtain ⟨b2, o2, _, rfl, hb2, _, _⟩ := hc2 k (by omega)
  obtain ⟨ab, cb, rfl, _, _, _, hcb⟩ := l0.at_
  obtain ⟨al, cl, rfl, _, _, _, hcl⟩ := l1.at_
  have hlen := hf.len k x hx
  refine ⟨b, o, cap, b2, o2, cap2, ab, al, cb, cl, rfl, rfl, hbB, hb2, hk, hm2, c2, by rw [hlen]; exact c3, hfew, fun j hj => ?_⟩
  obtain ⟨bb, ob, y, rfl, hbb, hy, cy⟩ := hcb j hj
  obtain ⟨bl, ol, z, rfl, hbl, hz, cz⟩ := hcl j (by omega)
  have hbj := hf.before k x hx j hj
  have hlj := hf.lags k x hx j hj
  have ey : bAt x j = y := getD_some hy
  have ez : lAt x j = z := getD_some hz
  rw [ey] at hbj
  rw [ez] at hlj
  obtain ⟨bn, rfl⟩ : ∃ bn : Nat, y = (bn : Int) := ⟨y.toNat, by omega⟩
  have hbk : bn < k := by omega
  obtain ⟨b', o', x2, vb', vl', e1, _, hx2, d0, _, _, _, _, _⟩ := hc bn (by omega)
  injection e1 with e1
  injection e1 with e2 e3 _
  subst e2 e3
  obtain ⟨b3, o3, s, e4, _, hs, cs⟩ := hc2 bn (by omega)
  injection e4 with e4
  injection e4 with e5 e6 _
  subst e5 e6
  have ht := hf.time bn x2 hx2
  have hsb := hb bn
  rw [getD_some hs] at hsb
  refine ⟨bb, ob, bl, ol, bn, s, x2.Time, z, rfl, rfl, hbb, hbl, hbk, by omega, by omega, cy, cz, cs, d0, ?_, hsb.1, hsb.2, ht.1, ht.2, hlj.1, hlj.2, ey⟩
  unfold termAt stAt tmAt
  rw [ey, ez, Int.toNat_natCast, getD_some hs, getD_some hx2]

set_option maxHeartbeats 4000000 in
theorem l03Least_any (B : Nat) (v1 v2 : Value) (xs : List TaskD) (st : List Int) (k : Nat) (x : TaskD) (w : World) (h1 : LstTask B w v1 xs) (h2 : LstI B w v2 st) (hf : Fit xs) (hx : xs[k]? = some x) (hl : xs.length ≤ st.length) (hb : Bnd (-1000000) 1000000 st) :
    Calls Try.prog 37 #[v1, v2, .int .i64 k] w (Ret (.int .i64 (ready xs st x)) w) := by
  obtain ⟨b, o, c1, b2, o2, c2, ab, al, cb, cl, rfl, rfl, _, _, hk, hm2, d2, d3, hfew, hcells⟩ := least_cells h1 h2 hf hx hl hb
  have hC := Lib.hid hcells
  have hR : Hid (∀ j, j < x.Before.length → readyTo xs st x (j + 1) = max (readyTo xs st x j) (termAt xs st x j)) := Lib.hid fun _ _ => rfl
  have hE : Hid (∀ j, j = x.Before.length → ready xs st x = readyTo xs st x j) := Lib.hid fun j hj => by rw [hj]; rfl
  have hBd : Hid (∀ j, j ≤ x.Before.length → 0 ≤ readyTo xs st x j ∧ readyTo xs st x j ≤ 1001100) := Lib.hid fun j hj => readyTo_bound hf hb (by omega) hx j hj
  have hm1 : xs.length ≤ 16 := hf.most
  have h0 : Hid (readyTo xs st x 0 = 0) := Lib.hid rfl
  clear hcells h1 h2 hf hx hl hb
  generalize ready xs st x = res at *
  generalize x.Before.length = n at *
  generalize xs.length = n1 at *
  generalize st.length = n2 at *
  unfold maxLen at hm2
  have hkI : (k : Int) < n1 := by omega
  go_enter Try.func37, Try.ntmps37
  go_wp2_with fail
  go_loopw [7, 16] (fun z i wr => ∃ (j m : Nat) (y : Int), j ≤ n ∧ i = .int .i64 j ∧ z = .int .i64 y ∧ Hid (y = readyTo xs st x j) ∧ wr = w.drewN m) (fun _ i _ => n - (intOf i).toNat)
  case atStart => exact ⟨0, 0, 0, Nat.zero_le _, rfl, rfl, Lib.hid h0.out.symm, rfl⟩
  case round =>
    obtain ⟨j, m, y, hj, rfl, rfl, hy, rfl⟩ := hrel
    by_cases hlt : j < n
    · obtain ⟨bb, ob, bl, ol, bn, s, t, l, rfl, rfl, _, _, hbk, hb1, hb2, e1, e2, e3, e4, hterm, s1, s2, t1, t2, l1, l2, _⟩ := hC.out j hlt
      have hy1 := hBd.out j hj
      rw [← hy.out] at hy1
      have hnext := Lib.hid (show max y (s + t + l) = readyTo xs st x (j + 1) by rw [hR.out j hlt, hterm, hy.out])
      rw [← World.cell?_drewN (n := m)] at d2 d3 e1 e2 e3 e4
      generalize hwo : w.drewN m = wo at *
      have hWo := Lib.hid hwo
      clear hwo hterm
      have hw1 : IntKind.i64.wrap (s + t) = s + t := IntWalk.i64_in _ (by omega)
      have hw2 : IntKind.i64.wrap (s + t + l) = s + t + l := IntWalk.i64_in _ (by omega)
      have hi1 : (bn : Int) < n1 := by omega
      have hi2 : (bn : Int) < n2 := by omega
      have hi3 : (j : Int) < n := by omega
      go_wp2_with fail
      go_quiet ((go_at_call 38; exact Ret.quiet (Ret.same (l00Max_any _ _ _))))
      go_wp2_with fail
      go_roundw
      case rel => exact ⟨j + 1, _, _, by omega, by go_num, rfl, hnext, by rw [← hWo.out]; exact World.drewN_drewN ..⟩
      case measure => simp [intOf]; omega
    · have hF := Lib.hid (show y = res by rw [hy.out, hE.out j (by omega)])
      go_wp2_with fail
      go_ret
      exact ⟨_, ret_int hF.out, rfl⟩

set_option maxHeartbeats 4000000 in
theorem readyFn_any (B : Nat) (v1 v2 : Value) (p1 p2 : Addr) (xs : List TaskD) (st : List Int) (k : Nat) (x : TaskD) (w : World) (h1 : LstTask B w v1 xs) (h2 : LstI B w v2 st) (hf : Fit xs) (hx : xs[k]? = some x) (hl : xs.length ≤ st.length) (hb : Bnd (-1000000) 1000000 st)
    (hp1 : w.cell? p1 = some v1) (hp2 : w.cell? p2 = some v2) :
    Calls Try.prog 57 #[.int .i64 k, .pointer (some p1), .pointer (some p2)] w (Ret (.int .i64 (ready xs st x)) w) := by
  obtain ⟨b, o, c1, b2, o2, c2, ab, al, cb, cl, rfl, rfl, _, _, hk, hm2, d2, d3, hfew, hcells⟩ := least_cells h1 h2 hf hx hl hb
  have hC := Lib.hid hcells
  have hR : Hid (∀ j, j < x.Before.length → readyTo xs st x (j + 1) = max (readyTo xs st x j) (termAt xs st x j)) := Lib.hid fun _ _ => rfl
  have hE : Hid (∀ j, j = x.Before.length → ready xs st x = readyTo xs st x j) := Lib.hid fun j hj => by rw [hj]; rfl
  have hBd : Hid (∀ j, j ≤ x.Before.length → 0 ≤ readyTo xs st x j ∧ readyTo xs st x j ≤ 1001100) := Lib.hid fun j hj => readyTo_bound hf hb (by omega) hx j hj
  have hm1 : xs.length ≤ 16 := hf.most
  have h0 : Hid (readyTo xs st x 0 = 0) := Lib.hid rfl
  clear hcells h1 h2 hf hx hl hb
  generalize ready xs st x = res at *
  generalize x.Before.length = n at *
  generalize xs.length = n1 at *
  generalize st.length = n2 at *
  unfold maxLen at hm2
  have hkI : (k : Int) < n1 := by omega
  go_enter Try.func57, Try.ntmps57
  go_wp2_with fail
  go_loopw [5, 14] (fun z i wr => ∃ (j m : Nat) (y : Int), j ≤ n ∧ i = .int .i64 j ∧ z = .int .i64 y ∧ Hid (y = readyTo xs st x j) ∧ wr = w.drewN m) (fun _ i _ => n - (intOf i).toNat)
  case atStart => exact ⟨0, 0, 0, Nat.zero_le _, rfl, rfl, Lib.hid h0.out.symm, rfl⟩
  case round =>
    obtain ⟨j, m, y, hj, rfl, rfl, hy, rfl⟩ := hrel
    by_cases hlt : j < n
    · obtain ⟨bb, ob, bl, ol, bn, s, t, l, rfl, rfl, _, _, hbk, hb1, hb2, e1, e2, e3, e4, hterm, s1, s2, t1, t2, l1, l2, _⟩ := hC.out j hlt
      have hy1 := hBd.out j hj
      rw [← hy.out] at hy1
      have hnext := Lib.hid (show max y (s + t + l) = readyTo xs st x (j + 1) by rw [hR.out j hlt, hterm, hy.out])
      rw [← World.cell?_drewN (n := m)] at d2 d3 e1 e2 e3 e4 hp1 hp2
      generalize hwo : w.drewN m = wo at *
      have hWo := Lib.hid hwo
      clear hwo hterm
      have hw1 : IntKind.i64.wrap (s + t) = s + t := IntWalk.i64_in _ (by omega)
      have hw2 : IntKind.i64.wrap (s + t + l) = s + t + l := IntWalk.i64_in _ (by omega)
      have hi1 : (bn : Int) < n1 := by omega
      have hi2 : (bn : Int) < n2 := by omega
      have hi3 : (j : Int) < n := by omega
      go_wp2_with fail
      go_quiet (fail)
      go_wp2_with fail
      simp only [mx_eq]
      go_roundw
      case rel => exact ⟨j + 1, _, _, by omega, by go_num, rfl, hnext, by rw [← hWo.out]; exact World.drewN_drewN ..⟩
      case measure => simp [intOf]; omega
    · have hF := Lib.hid (show y = res by rw [hy.out, hE.out j (by omega)])
      go_wp2_with fail
      go_ret
      exact ⟨_, ret_int hF.out, rfl⟩

/-- The function that readyBy returns, in a world with two new blocks. -/
theorem readyBy_any (a1 a2 : Option Addr) (n1 n2 c1 c2 : Nat) (w : World) : Calls Try.prog 48 #[.slice a1 n1 c1, .slice a2 n2 c2] w fun e w' =>
    e = .returned (.func (.func 57) #[] #[.pointer (some ⟨w.heap.size, 0, none⟩), .pointer (some ⟨w.heap.size + 1, 0, none⟩)]) ∧ Below w.heap.size w w' ∧ w'.heap.size = w.heap.size + 2 ∧
      w'.cell? ⟨w.heap.size, 0, none⟩ = some (.slice a1 n1 c1) ∧ w'.cell? ⟨w.heap.size + 1, 0, none⟩ = some (.slice a2 n2 c2) := by
  go_enter Try.func48, Try.ntmps48
  go_wp2_with fail
  go_ret
  refine ⟨rfl, below_alloc (below_alloc (Below.refl _ _) _) _, by simp, ?_, ?_⟩
  · exact ((Whole.made w _ #[.slice a1 n1 c1] rfl).more _).at_ rfl
  · exact (Whole.made _ _ #[.slice a2 n2 c2] (by simp)).at_ rfl

set_option maxHeartbeats 4000000 in
theorem l03End_any (B : Nat) (v1 v2 : Value) (xs : List TaskD) (st : List Int) (w : World) (h1 : LstTask B w v1 xs) (h2 : LstI B w v2 st) (hf : Fit xs) (hl : xs.length ≤ st.length) (hb : Bnd (-1000000) 1000000 st) :
    Calls Try.prog 20 #[v1, v2] w (Ret (.int .i64 (endOf xs st)) w) := by
  obtain ⟨a, c1, rfl, hm, _, _, hc⟩ := h1.at_
  obtain ⟨a2, c2, rfl, hm2, _, _, hc2⟩ := h2.at_
  have hC : Hid (∀ k, k < xs.length → ∃ (b o b2 o2 : Nat) (s t : Int), a = some ⟨b, o, none⟩ ∧ a2 = some ⟨b2, o2, none⟩ ∧ w.cell? ⟨b2, o2 + k, none⟩ = some (.int .i64 s) ∧ w.cell? ⟨b, o + k * 4, none⟩ = some (.int .i64 t) ∧
      endTo xs st (k + 1) = max (endTo xs st k) (s + t) ∧ -1000000 ≤ s ∧ s ≤ 1000000 ∧ 0 ≤ t ∧ t ≤ 1000) := Lib.hid fun k hk => by
    obtain ⟨b, o, x, _, _, rfl, _, hx, c0, _⟩ := hc k hk
    obtain ⟨b2, o2, s, rfl, _, hs, cs⟩ := hc2 k (by omega)
    have ht := hf.time k x hx
    have hsb := hb k
    rw [getD_some hs] at hsb
    exact ⟨b, o, b2, o2, s, x.Time, rfl, rfl, cs, c0, by simp only [endTo]; rw [getD_some hs, getD_some hx], hsb.1, hsb.2, ht.1, ht.2⟩
  have hE : Hid (∀ j, j = xs.length → endOf xs st = endTo xs st j) := Lib.hid fun j hj => by rw [hj]; rfl
  have hBd : Hid (∀ j, 0 ≤ endTo xs st j ∧ endTo xs st j ≤ 1001000) := Lib.hid fun j => endTo_bound hf hb (by omega) j
  have hm1 : xs.length ≤ 16 := hf.most
  have h0 : Hid (endTo xs st 0 = 0) := Lib.hid rfl
  clear hc hc2 h1 h2 hf hb
  generalize endOf xs st = res at *
  generalize xs.length = n at *
  generalize st.length = n2 at *
  unfold maxLen at hm2
  go_enter Try.func20, Try.ntmps20
  go_wp2_with fail
  go_loopw [5, 9] (fun z i wr => ∃ (j m : Nat) (y : Int), j ≤ n ∧ i = .int .i64 j ∧ z = .int .i64 y ∧ Hid (y = endTo xs st j) ∧ wr = w.drewN m) (fun _ i _ => n - (intOf i).toNat)
  case atStart => exact ⟨0, 0, 0, Nat.zero_le _, rfl, rfl, Lib.hid h0.out.symm, rfl⟩
  case round =>
    obtain ⟨j, m, y, hj, rfl, rfl, hy, rfl⟩ := hrel
    by_cases hlt : j < n
    · obtain ⟨b, o, b2, o2, s, t, rfl, rfl, e1, e2, hterm, s1, s2, t1, t2⟩ := hC.out j hlt
      have hy1 := hBd.out j
      rw [← hy.out] at hy1
      have hnext := Lib.hid (show max y (s + t) = endTo xs st (j + 1) by rw [hterm, hy.out])
      rw [← World.cell?_drewN (n := m)] at e1 e2
      generalize hwo : w.drewN m = wo at *
      have hWo := Lib.hid hwo
      clear hwo hterm
      have hw1 : IntKind.i64.wrap (s + t) = s + t := IntWalk.i64_in _ (by omega)
      have hi1 : (j : Int) < n := by omega
      have hi2 : (j : Int) < n2 := by omega
      go_wp2_with fail
      go_quiet ((go_at_call 38; exact Ret.quiet (Ret.same (l00Max_any _ _ _))))
      go_wp2_with fail
      go_roundw
      case rel => exact ⟨j + 1, _, _, by omega, by go_num, rfl, hnext, by rw [← hWo.out]; exact World.drewN_drewN ..⟩
      case measure => simp [intOf]; omega
    · have hF := Lib.hid (show y = res by rw [hy.out, hE.out j (by omega)])
      go_wp2_with fail
      go_ret
      exact ⟨_, ret_int hF.out, rfl⟩

set_option maxHeartbeats 4000000 in
theorem lastEnd_any (B : Nat) (v1 v2 : Value) (xs : List TaskD) (st : List Int) (w : World) (h1 : LstTask B w v1 xs) (h2 : LstI B w v2 st) (hB : B ≤ w.heap.size) (hf : Fit xs) (hl : xs.length ≤ st.length) (hb : Bnd (-1000000) 1000000 st) :
    Calls Try.prog 49 #[v1, v2] w fun e w' => e = .returned (.int .i64 (endOf xs st)) ∧ Below w.heap.size w w' := by
  obtain ⟨a, c1, rfl, hm, _, _, hc⟩ := h1.at_
  obtain ⟨a2, c2, rfl, hm2, _, _, hc2⟩ := h2.at_
  have hC : Hid (∀ k, k < xs.length → ∃ (b o b2 o2 : Nat) (s t n : Int) (ab al : Option Addr) (nb cb nl cl : Nat), a = some ⟨b, o, none⟩ ∧ a2 = some ⟨b2, o2, none⟩ ∧ b < w.heap.size ∧ b2 < w.heap.size ∧ w.cell? ⟨b2, o2 + k, none⟩ = some (.int .i64 s) ∧ w.cell? ⟨b, o + k * 4, none⟩ = some (.int .i64 t) ∧
      w.cell? ⟨b, o + k * 4 + 1, none⟩ = some (.int .i64 n) ∧ w.cell? ⟨b, o + k * 4 + 2, none⟩ = some (.slice ab nb cb) ∧ w.cell? ⟨b, o + k * 4 + 3, none⟩ = some (.slice al nl cl) ∧
      endTo xs st (k + 1) = max (endTo xs st k) (s + t) ∧ -1000000 ≤ s ∧ s ≤ 1000000 ∧ 0 ≤ t ∧ t ≤ 1000) := Lib.hid fun k hk => by
    obtain ⟨b, o, x, _, _, rfl, hb1, hx, c0, c1, c2, c3, l0, l1⟩ := hc k hk
    obtain ⟨ab, cb, rfl, _⟩ := l0.at_
    obtain ⟨al, cl, rfl, _⟩ := l1.at_
    obtain ⟨b2, o2, s, rfl, hb2, hs, cs⟩ := hc2 k (by omega)
    have ht := hf.time k x hx
    have hsb := hb k
    rw [getD_some hs] at hsb
    exact ⟨b, o, b2, o2, s, x.Time, x.Needs, ab, al, _, cb, _, cl, rfl, rfl, by omega, by omega, cs, c0, c1, c2, c3, by simp only [endTo]; rw [getD_some hs, getD_some hx], hsb.1, hsb.2, ht.1, ht.2⟩
  have hE : Hid (∀ j, j = xs.length → endOf xs st = endTo xs st j) := Lib.hid fun j hj => by rw [hj]; rfl
  have hBd : Hid (∀ j, 0 ≤ endTo xs st j ∧ endTo xs st j ≤ 1001000) := Lib.hid fun j => endTo_bound hf hb (by omega) j
  have hm1 : xs.length ≤ 16 := hf.most
  have h0 : Hid (endTo xs st 0 = 0) := Lib.hid rfl
  clear hc hc2 h1 h2 hf hb
  generalize endOf xs st = res at *
  generalize xs.length = n at *
  generalize st.length = n2 at *
  unfold maxLen at hm2
  go_enter Try.func49, Try.ntmps49
  go_wp2_with fail
  go_loopw [5, 10] (fun z i wr => ∃ (j : Nat) (y : Int), j ≤ n ∧ i = .int .i64 j ∧ z = .int .i64 y ∧ Hid (y = endTo xs st j) ∧ Hid (Below w.heap.size w wr)) (fun _ i _ => n - (intOf i).toNat)
  case atStart => exact ⟨0, 0, Nat.zero_le _, rfl, rfl, Lib.hid h0.out.symm, Lib.hid (Below.refl _ _)⟩
  case round =>
    obtain ⟨j, y, hj, rfl, rfl, hy, hB1⟩ := hrel
    by_cases hlt : j < n
    · obtain ⟨b, o, b2, o2, s, t, q, ab, al, nb, cb, nl, cl, rfl, rfl, hb1, hb2, e1, e2, e3, e4, e5, hterm, s1, s2, t1, t2⟩ := hC.out j hlt
      have hy1 := hBd.out j
      rw [← hy.out] at hy1
      have hnext := Lib.hid (show max y (s + t) = endTo xs st (j + 1) by rw [hterm, hy.out])
      have hP1 := Lib.hid ((hB1.out.cell (p := ⟨b2, o2 + j, none⟩) hb2).trans e1)
      rw [← hB1.out.cell (p := ⟨b, o + j * 4, none⟩) hb1] at e2
      rw [← hB1.out.cell (p := ⟨b, o + j * 4 + 1, none⟩) hb1] at e3
      rw [← hB1.out.cell (p := ⟨b, o + j * 4 + 2, none⟩) hb1] at e4
      rw [← hB1.out.cell (p := ⟨b, o + j * 4 + 3, none⟩) hb1] at e5
      have hsz := Nat.lt_of_lt_of_le hb2 hB1.out.size
      clear hterm e1
      have hw1 : IntKind.i64.wrap (s + t) = s + t := IntWalk.i64_in _ (by omega)
      have hi1 : (j : Int) < n := by omega
      have hi2 : (j : Int) < n2 := by omega
      go_wp2_with fail
      generalize hw2 : World.alloc wr _ = w2
      have hB2 := Lib.hid (show Below w.heap.size w w2 by rw [← hw2]; exact below_alloc hB1.out _)
      have p1 : w2.cell? ⟨b2, o2 + j, none⟩ = some (.int .i64 s) := by
        rw [← hw2, (below_alloc (Below.refl _ _) _ : Below wr.heap.size wr _).cell (p := ⟨b2, o2 + j, none⟩) hsz]
        exact hP1.out
      have p2 : w2.cell? ⟨wr.heap.size, 0, none⟩ = some (.int .i64 t) := by rw [← hw2]; exact (Whole.made wr _ _ rfl).at_ rfl
      clear hw2 e2 e3 e4 e5 hP1 hB1
      go_quiet (fail)
      go_wp2_with fail
      simp only [mx_eq]
      go_roundw
      case rel => exact ⟨j + 1, _, by omega, by go_num, rfl, hnext, Lib.hid (Lst.Below.drewN hB2.out _)⟩
      case measure => simp [intOf]; omega
    · have hF := Lib.hid (show y = res by rw [hy.out, hE.out j (by omega)])
      go_wp2_with fail
      go_ret
      exact ⟨ret_int hF.out, hB1.out⟩
end Go.Proofs.Ytfnpbhplnlfnmaa
