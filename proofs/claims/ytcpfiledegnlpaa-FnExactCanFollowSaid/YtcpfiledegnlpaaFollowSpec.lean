/- Contracts: which trips can follow which ones, the model's. -/
import Derived.Test.YtcpfiledegnlpaaFollow
namespace Go.Proofs.Ytcpfiledegnlpaa
open Go.RowKit Go.Lst

set_option maxHeartbeats 4000000 in
theorem l06Follows_any (B : Nat) (a1 a2 : Option Addr) (cap1 cap2 : Nat) (xs : List TripD) (ms : List Int) (i k : Nat) (x y : TripD) (w : World) (h1 : LstTrip B w (.slice a1 xs.length cap1) xs) (h2 : LstI B w (.slice a2 ms.length cap2) ms) (hx : xs[i]? = some x) (hy : xs[k]? = some y) (e1 : areTrips xs = true) (e2 : okMoves ms = true) :
    Calls Try.prog 77 #[.slice a1 xs.length cap1, .slice a2 ms.length cap2, .int .i64 (i : Int), .int .i64 (k : Int)] w (Ret (.bool (folT ms x y)) w) := by
  obtain ⟨n1, n24, hok⟩ := areTrips_of e1
  have ox := okTrip_of (hok i x hx)
  have oy := okTrip_of (hok k y hy)
  have hm := move_in e2 ox.2.2.2.2 oy.2.2.2.1
  have hl64 := (okMoves_of e2).1
  obtain ⟨_, _, hv1, _, _, _, hc1⟩ := h1.at_
  obtain ⟨_, _, hv2, _, _, _, hc2⟩ := h2.at_
  cases hv1
  cases hv2
  have hil : i < xs.length := (List.getElem?_eq_some_iff.1 hx).1
  have hkl : k < xs.length := (List.getElem?_eq_some_iff.1 hy).1
  obtain ⟨b1, o1, x', rfl, _, hx', p0, p1, p2, p3⟩ := hc1 i hil
  obtain ⟨b1', o1', y', he, _, hy', q0, q1, q2, q3⟩ := hc1 k hkl
  cases he
  obtain rfl : x = x' := Option.some.inj (hx.symm.trans hx')
  obtain rfl : y = y' := Option.some.inj (hy.symm.trans hy')
  have hto := ox.2.2.2.2
  have hfr := oy.2.2.2.1
  have hen := ox.2.1
  have hM : ∀ z, moveOf ms x y = z → folT ms x y = decide (x.End + z ≤ y.Start) := fun z hz => by unfold folT; rw [hz]
  obtain ⟨xs0, xe, xf, xt⟩ := x
  obtain ⟨ys0, ye, yf, yt⟩ := y
  simp only at hto hfr hen p0 p1 p2 p3 q0 q1 q2 q3 hM
  obtain ⟨a, rfl⟩ := Int.eq_ofNat_of_zero_le hto.1
  obtain ⟨c, rfl⟩ := Int.eq_ofNat_of_zero_le hfr.1
  obtain ⟨b2, o2, z, rfl, _, hz, m0⟩ := hc2 (a * 8 + c) (by omega)
  have t1 : ((a : Int) * 8 + (c : Int)).toNat = a * 8 + c := by omega
  have hmz : moveOf ms ⟨xs0, xe, xf, (a : Int)⟩ ⟨ys0, ye, (c : Int), yt⟩ = z := by
    unfold moveOf
    simp only
    rw [t1, getD_of hz]
  rw [hmz] at hm
  rw [hM z hmz]
  have t2 : (0 : Int) ≤ (a : Int) * 8 + (c : Int) := by omega
  have t3 : (a : Int) * 8 + (c : Int) < (ms.length : Int) := by omega
  have hw1 : IntKind.i64.wrap ((a : Int) * 8) = (a : Int) * 8 := IntWalk.i64_in _ (by omega)
  have hw2 : IntKind.i64.wrap ((a : Int) * 8 + c) = (a : Int) * 8 + c := IntWalk.i64_in _ (by omega)
  have hw3 : IntKind.i64.wrap (xe + z) = xe + z := IntWalk.i64_in _ (by omega)
  have hi2 : (i : Int) < (xs.length : Int) := by omega
  have hk2 : (k : Int) < (xs.length : Int) := by omega
  clear h1 h2 hc1 hc2 hx hy hx' hy' hok e1 e2 ox oy hM hmz hz
  generalize xs.length = n at *
  generalize ms.length = m at *
  go_enter Try.func77, Try.ntmps77
  go_wp2_with fail
  go_quiet (fail)
  go_wp2_with fail
  go_ret
  exact Ret.later _ _ _
set_option maxHeartbeats 4000000 in
set_option maxRecDepth 100000 in
theorem l06Table_any (B : Nat) (v1 v2 : Value) (xs : List TripD) (ms : List Int) (w : World) (h1 : LstTrip B w v1 xs) (h2 : LstI B w v2 ms) (hB : B ≤ w.heap.size) (e1 : areTrips xs = true) (e2 : okMoves ms = true) :
    Calls Try.prog 60 #[v1, v2] w fun e w' => ∃ v, e = .returned v ∧ w'.ownsRow w.heap.size 4 1 v (xs.length * xs.length) ((fillB (folPl xs ms) (xs.length * xs.length)).map Value.bool) ∧ Below w.heap.size w w' := by
  obtain ⟨n1, n24, hok⟩ := areTrips_of e1
  obtain ⟨a1, cap1, rfl, hl, _, _, hc⟩ := h1.at_
  obtain ⟨a2, cap2, rfl, hl2, _⟩ := h2.at_
  have hAt : Hid (∀ i, i < xs.length → ∃ x, xs[i]? = some x) := Lib.hid fun i hi => ⟨_, List.getElem?_eq_getElem hi⟩
  have hFol : Hid (∀ (i k : Nat) (x y : TripD) (W : World), Below w.heap.size w W → xs[i]? = some x → xs[k]? = some y → Calls Try.prog 77 #[.slice a1 xs.length cap1, .slice a2 ms.length cap2, .int .i64 (i : Int), .int .i64 (k : Int)] W (Ret (.bool (folT ms x y)) W)) := Lib.hid fun i k x y W hb hx hy => l06Follows_any B a1 a2 cap1 cap2 xs ms i k x y W (h1.below hb hB) (h2.below hb hB) hx hy e1 e2
  have hPl : Hid (∀ i k x y, xs[i]? = some x → xs[k]? = some y → folPl xs ms (i * xs.length + k) = folT ms x y) := Lib.hid fun i k x y => folPl_at
  have hFs := Lib.hid (fillB_succ (folPl xs ms))
  obtain ⟨i0, hi, hz0, hz1, hz2⟩ := info_parts infoB
  generalize folPl xs ms = F at *
  clear h1 h2 hc hok e1 e2
  generalize xs.length = n at *
  generalize ms.length = m at *
  have hNn : Hid (∀ i, (i + 1) * n = i * n + n) := Lib.hid fun i => by rw [Nat.add_mul, Nat.one_mul]
  unfold maxLen at hl hl2
  go_enter Try.func60, Try.ntmps60
  go_wp2_with fail
  have hO0 := Lib.hid (show (w.alloc (Obj.cells #[] 4)).ownsRow w.heap.size 4 1 (.slice (some ⟨w.heap.size, 0, none⟩) 0 0) (0 * n) ((fillB F (0 * n)).map Value.bool) by rw [Nat.zero_mul]; exact World.ownsRow_lit w #[] 0 (Nat.le_refl _) (Nat.zero_le _) rfl)
  have hB0 := Lib.hid (show Below w.heap.size w (w.alloc (Obj.cells #[] 4)) from below_alloc (Below.refl _ _) _)
  generalize w.alloc (Obj.cells #[] 4) = w4 at *
  generalize hgg : w.heap.size = g at *
  have hGG := Lib.hid hgg
  clear hgg
  go_loopw [5, 7] (fun gv iv wr => ∃ (i : Nat), i ≤ n ∧ iv = .int .i64 i ∧ Hid (wr.ownsRow g 4 1 gv (i * n) ((fillB F (i * n)).map Value.bool)) ∧ Hid (Below g w wr)) (fun _ iv _ => n - (intOf iv).toNat)
  case atStart => exact ⟨0, Nat.zero_le _, rfl, hO0, hB0⟩
  case round =>
    clear hO0 hB0
    obtain ⟨i, hi0, rfl, hO, hB7⟩ := hrel
    by_cases hlt : i < n
    · have hNx := Lib.hid (hNn.out i)
      obtain ⟨x, hx⟩ := hAt.out i hlt
      have hFit : Hid (∀ k, k < n → i * n + k + 1 ≤ 576) := Lib.hid fun k hk => sq_fit hlt hk n24
      have hPli : Hid (∀ k y, xs[k]? = some y → F (i * n + k) = folT ms x y) := Lib.hid fun k y hy => hPl.out i k x y hx hy
      have hFli := Lib.hid (fun k y W hb hy => hFol.out i k x y W hb hx hy)
      generalize htn : i * n = tn at *
      clear hx
      go_wp2_with fail
      go_loopw [5, 8] (fun gv kv wr => ∃ (k : Nat), k ≤ n ∧ kv = .int .i64 k ∧ Hid (wr.ownsRow g 4 1 gv (tn + k) ((fillB F (tn + k)).map Value.bool)) ∧ Hid (Below g w wr)) (fun _ kv _ => n - (intOf kv).toNat)
      case atStart => exact ⟨0, Nat.zero_le _, rfl, hO, hB7⟩
      case round =>
        clear hO hB7
        obtain ⟨k, hk0, rfl, hO, hB7⟩ := hrel
        by_cases hlk : k < n
        · have hfit := hFit.out k hlk
          have hgs := Lib.hid (show g ≤ wr.heap.size by have := hB7.out.size; rw [hGG.out] at this; exact this)
          obtain ⟨y, hy⟩ := hAt.out k hlk
          have hpl := Lib.hid (hPli.out k y hy)
          have hFk := Lib.hid (hFli.out k y wr hB7.out hy)
          generalize folT ms x y = q at *
          clear hy
          go_wp2_with (first | (go_at_call 77; (with_reducible refine (hFk.out).mono ?_); rintro e w5 ⟨j5, rfl, rfl⟩; have hO5 := Lib.hid (ownsRow_drewN hO.out j5); have hB5 := Lib.hid (Lst.Below.drewN hB7.out j5); have hg5 := Lib.hid (show g ≤ (wr.drewN j5).heap.size from hgs.out)) | (at_builtin; refine wpList_append_own _ rfl _ _ _ rfl g 4 i0 (.bool false) 1 1 Try.underlying34 hi hz0 hz1 hz2 rfl (by decide) _ (tn + k) _ rfl (hO5.out.alloc _) ⟨(wr.drewN j5).heap.size, 0, none⟩ 1 1 [.bool q] rfl rfl (newsB (wr.drewN j5) _ _) (one_bool _) (by unfold maxLen; omega) (by omega) (growB_le hg5.out _) ?_; intro v8 w8 hown8 hgrow8 hnil8; have hB8 := Lib.hid (belowB_app hB5.out hO5.out hgrow8 hg5.out (Nat.le_refl _)); have hO8 := Lib.hid (show w8.ownsRow g 4 1 v8 (tn + (k + 1)) ((fillB F (tn + (k + 1))).map Value.bool) by rw [← Nat.add_assoc, hFs.out, List.map_append, hpl.out]; exact hown8); clear hown8 hgrow8 hnil8))
          go_roundw
          case rel => exact ⟨k + 1, by omega, by go_num, hO8, hB8⟩
          case measure => simp [intOf]; omega
        · obtain rfl : n = k := by omega
          have hO9 := hO.out
          rw [← hNx.out] at hO9
          have hO10 := Lib.hid hO9
          clear hO9 hO
          go_wp2_with fail
          go_roundw
          case rel => exact ⟨i + 1, by omega, by go_num, hO10, hB7⟩
          case measure => simp [intOf]; omega
    · obtain rfl : n = i := by omega
      clear hNn hFs hPl hFol
      go_wp2_with fail
      first | exact ⟨_, rfl, by rw [hGG.out]; exact hO.out, by rw [hGG.out]; exact hB7.out⟩ | (go_ret; exact ⟨_, rfl, by rw [hGG.out]; exact hO.out, by rw [hGG.out]; exact hB7.out⟩)
set_option maxHeartbeats 4000000 in
set_option maxRecDepth 100000 in
theorem specCanFollow_any (B : Nat) (v1 v2 : Value) (xs : List TripD) (ms : List Int) (w : World) (h1 : LstTrip B w v1 xs) (h2 : LstI B w v2 ms) (hB : B ≤ w.heap.size) :
    Calls Try.prog 25 #[v1, v2] w (BoolsPost (folRes xs ms) (canF xs ms) w) := by
  have hA := Lib.hid (l06Trips_any B v1 xs w h1 hB)
  have hMv := Lib.hid (fun w1 (hb : Below w.heap.size w w1) => l06Moves_any B v2 ms w1 (h2.below hb hB))
  have hTb := Lib.hid (fun w1 (hb : Below w.heap.size w w1) (e1 : areTrips xs = true) (e2 : okMoves ms = true) => l06Table_any B v1 v2 xs ms w1 (h1.below hb hB) (h2.below hb hB) (Nat.le_trans hB hb.size) e1 e2)
  have hNo : Hid (canF xs ms = false → ∀ w', Below w.heap.size w w' → BoolsPost (folRes xs ms) (canF xs ms) w (.returned (.tuple #[.slice none 0 0, .bool false])) w') := Lib.hid fun h w' hb => bools_no (folRes_no h) h hb
  have hYes : Hid (canF xs ms = true → ∀ (w' : World) (v : Value) (A : Nat), w.heap.size ≤ A → w'.ownsRow A 4 1 v (xs.length * xs.length) ((fillB (folPl xs ms) (xs.length * xs.length)).map Value.bool) → xs.length ≤ 24 → Below w.heap.size w w' → BoolsPost (folRes xs ms) (canF xs ms) w (.returned (.tuple #[v, .bool true])) w') := Lib.hid fun h w' v A hA ho hn hb => by
    rw [folRes_yes h]
    exact bools_yes h hA (fillB_length _ _) ho (by have := Nat.mul_le_mul hn hn; omega) hb
  obtain ⟨a1, cap1, rfl, hl, _, _, hc⟩ := h1.at_
  obtain ⟨a2, cap2, rfl, hl2, _⟩ := h2.at_
  clear h1 h2 hc
  generalize BoolsPost (folRes xs ms) (canF xs ms) w = Q at *
  cases e1 : areTrips xs
  · rw [e1] at hA
    have hR := Lib.hid (hNo.out (by simp [canF, e1]))
    clear hMv hTb hNo hYes e1
    generalize xs.length = n at *
    generalize ms.length = m at *
    unfold maxLen at hl hl2
    go_enter Try.func25, Try.ntmps25
    go_wp2_with (go_at_call 52; (with_reducible refine (hA.out).mono ?_); rintro e w1 ⟨rfl, hb1⟩; have hB1 := Lib.hid hb1; clear hb1)
    first | exact hR.out _ hB1.out | (go_ret2; exact hR.out _ hB1.out)
  rw [e1] at hA
  cases e2 : okMoves ms
  · rw [e2] at hMv
    have hR := Lib.hid (hNo.out (by simp [canF, e2]))
    clear hTb hNo hYes e1 e2
    generalize xs.length = n at *
    generalize ms.length = m at *
    unfold maxLen at hl hl2
    go_enter Try.func25, Try.ntmps25
    go_wp2_with (first | (go_at_call 52; (with_reducible refine (hA.out).mono ?_); rintro e w1 ⟨rfl, hb1⟩; have hB1 := Lib.hid hb1; clear hb1) | (go_at_call 59; (with_reducible refine (hMv.out w1 hB1.out).mono ?_); rintro e w2 ⟨j2, rfl, rfl⟩; have hB2 := Lib.hid (Lst.Below.drewN hB1.out j2)))
    first | exact hR.out _ hB2.out | (go_ret2; exact hR.out _ hB2.out)
  rw [e2] at hMv
  obtain ⟨n1, n24, _⟩ := areTrips_of e1
  have hY := Lib.hid (fun w' v A hA ho hb => hYes.out (by simp [canF, e1, e2]) w' v A hA ho n24 hb)
  have hTb2 := Lib.hid (fun w1 hb => hTb.out w1 hb e1 e2)
  clear hTb hNo hYes e1 e2
  generalize fillB (folPl xs ms) (xs.length * xs.length) = cs at *
  generalize xs.length * xs.length = nn at *
  generalize xs.length = n at *
  generalize ms.length = m at *
  unfold maxLen at hl hl2
  go_enter Try.func25, Try.ntmps25
  go_wp2_with (first | (go_at_call 52; (with_reducible refine (hA.out).mono ?_); rintro e w1 ⟨rfl, hb1⟩; have hB1 := Lib.hid hb1; clear hb1) | (go_at_call 59; (with_reducible refine (hMv.out w1 hB1.out).mono ?_); rintro e w2 ⟨j2, rfl, rfl⟩; have hB2 := Lib.hid (Lst.Below.drewN hB1.out j2)) | (go_at_call 60; (with_reducible refine (hTb2.out _ hB2.out).mono ?_); rintro e w3 ⟨v3, rfl, ho3, hb3⟩; have hR := Lib.hid (hY.out w3 v3 _ hB2.out.size ho3 (below_on hB2.out (Nat.le_refl _) hb3)); clear ho3 hb3))
  first | exact hR.out | (go_ret2; exact hR.out)
theorem folRes_length (xs : List TripD) (ms : List Int) : (folRes xs ms).length ≤ 1048576 := by
  unfold folRes
  split
  · rename_i h
    rw [fillB_length]
    have h24 := (areTrips_of (by simp only [canF, Bool.and_eq_true] at h; exact h.1)).2.1
    have := Nat.mul_le_mul h24 h24
    omega
  · simp
theorem canFollow_both (xs : List TripD) (ms : List Int) (_ : ∀ y ∈ xs, y.wf) (_ : ∀ x ∈ ms, (Lit.int .i64 x).wf = true) : ∃ (r0 : List Bool) (r1 : Bool), r0.length ≤ 1048576 ∧
    (∀ (B : Nat) (v1 v2 : Value) (w : World), LstTrip B w v1 xs → LstI B w v2 ms → B ≤ w.heap.size → Calls Try.prog 25 #[v1, v2] w fun e w' => ∃ v', e = .returned (.tuple #[v', .bool r1]) ∧ Own w.heap.size w'.heap.size w' v' 4 1 r0.length (r0.map Value.bool) ∧ Below w.heap.size w w') ∧
    (∀ (B : Nat) (v1 v2 : Value) (w : World), LstTrip B w v1 xs → LstI B w v2 ms → B ≤ w.heap.size → Calls Try.prog 26 #[v1, v2] w fun e w' => ∃ v', e = .returned (.tuple #[v', .bool r1]) ∧ Own w.heap.size w'.heap.size w' v' 4 1 r0.length (r0.map Value.bool) ∧ Below w.heap.size w w') :=
  ⟨folRes xs ms, canF xs ms, folRes_length xs ms, fun B v1 v2 w h1 h2 hB => specCanFollow_any B v1 v2 xs ms w h1 h2 hB, fun B v1 v2 w h1 h2 hB => implCanFollow_any B v1 v2 xs ms w h1 h2 hB⟩
end Go.Proofs.Ytcpfiledegnlpaa
