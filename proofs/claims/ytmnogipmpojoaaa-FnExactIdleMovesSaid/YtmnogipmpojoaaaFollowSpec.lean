/- Contracts: which trips can follow which ones, the model's. -/
import Derived.Test.YtmnogipmpojoaaaFollow
namespace Go.Proofs.Ytmnogipmpojoaaa
open Go.RowKit Go.Lst

set_option maxHeartbeats 4000000 in
theorem l06Follows_any (B : Nat) (a1 a2 : Option Addr) (cap1 cap2 : Nat) (xs : List TripD) (ms : List Int) (i k : Nat) (x y : TripD) (w : World) (h1 : LstTrip B w (.slice a1 xs.length cap1) xs) (h2 : LstI B w (.slice a2 ms.length cap2) ms) (hx : xs[i]? = some x) (hy : xs[k]? = some y) (e1 : areTrips xs = true) (e2 : okMoves ms = true) :
    Calls Try.prog 14 #[.slice a1 xs.length cap1, .slice a2 ms.length cap2, .int .i64 (i : Int), .int .i64 (k : Int)] w (Ret (.bool (folT ms x y)) w) := by
  obtain ⟨n1, n24, hok⟩ := areTrips_of e1
  have ox := okTrip_of (hok i x hx)
  have oy := okTrip_of (hok k y hy)
  have hm := move_in e2 ox.2.2.2.2 oy.2.2.2.1
  have hl64 := (okMoves_of e2).1
  obtain ⟨_, _, hv1, _, _, _, hc1⟩ := h1.at_
  obtain ⟨_, _, hv2, _, _, _, hc2⟩ := h2.at_
  cases hv1
  cases hv2
  have hil : i < xs.length := (List.getElem?_eq_some_iff.1 hx).1
  have hkl : k < xs.length := (List.getElem?_eq_some_iff.1 hy).1
  obtain ⟨b1, o1, x', rfl, _, hx', p0, p1, p2, p3⟩ := hc1 i hil
  obtain ⟨b1', o1', y', he, _, hy', q0, q1, q2, q3⟩ := hc1 k hkl
  cases he
  obtain rfl : x = x' := Option.some.inj (hx.symm.trans hx')
  obtain rfl : y = y' := Option.some.inj (hy.symm.trans hy')
  have hto := ox.2.2.2.2
  have hfr := oy.2.2.2.1
  have hen := ox.2.1
  have hM : ∀ z, moveOf ms x y = z → folT ms x y = decide (x.End + z ≤ y.Start) := fun z hz => by unfold folT; rw [hz]
  obtain ⟨xs0, xe, xf, xt⟩ := x
  obtain ⟨ys0, ye, yf, yt⟩ := y
  simp only at hto hfr hen p0 p1 p2 p3 q0 q1 q2 q3 hM
  obtain ⟨a, rfl⟩ := Int.eq_ofNat_of_zero_le hto.1
  obtain ⟨c, rfl⟩ := Int.eq_ofNat_of_zero_le hfr.1
  obtain ⟨b2, o2, z, rfl, _, hz, m0⟩ := hc2 (a * 8 + c) (by omega)
  have t1 : ((a : Int) * 8 + (c : Int)).toNat = a * 8 + c := by omega
  have hmz : moveOf ms ⟨xs0, xe, xf, (a : Int)⟩ ⟨ys0, ye, (c : Int), yt⟩ = z := by
    unfold moveOf
    simp only
    rw [t1, getD_of hz]
  rw [hmz] at hm
  rw [hM z hmz]
  have t2 : (0 : Int) ≤ (a : Int) * 8 + (c : Int) := by omega
  have t3 : (a : Int) * 8 + (c : Int) < (ms.length : Int) := by omega
  have hw1 : IntKind.i64.wrap ((a : Int) * 8) = (a : Int) * 8 := IntWalk.i64_in _ (by omega)
  have hw2 : IntKind.i64.wrap ((a : Int) * 8 + c) = (a : Int) * 8 + c := IntWalk.i64_in _ (by omega)
  have hw3 : IntKind.i64.wrap (xe + z) = xe + z := IntWalk.i64_in _ (by omega)
  have hi2 : (i : Int) < (xs.length : Int) := by omega
  have hk2 : (k : Int) < (xs.length : Int) := by omega
  clear h1 h2 hc1 hc2 hx hy hx' hy' hok e1 e2 ox oy hM hmz hz
  generalize xs.length = n at *
  generalize ms.length = m at *
  go_enter Try.func14, Try.ntmps14
  go_wp2_with fail
  go_quiet (fail)
  go_wp2_with fail
  go_ret
  exact Ret.later _ _ _
end Go.Proofs.Ytmnogipmpojoaaa
